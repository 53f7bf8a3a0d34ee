/-
  Package provider: New, Put.
-/
import Derived.Test.YtilmidddhkofaaaPm2
namespace Go.Proofs.Ytilmidddhkofaaa
open Go.RowKit Go.Maps Crv

theorem below_drewB {B : Nat} {a w : World} (h : Below B a w) : Below B a w.drew := ⟨h.os, h.tape, h.output, h.size, h.block⟩
theorem pnew_any (W : World) : Calls Try.prog 8 #[] W fun e w' => e = .returned (.pointer (some ⟨W.heap.size + 1, 0, none⟩)) ∧ Ptb w' (W.heap.size + 1) W.heap.size [] ∧ Below W.heap.size W w' ∧ w'.heap.size = W.heap.size + 2 := by
  have hmm := @run_makeMap Try.prog
  go_enter Try.func8, Try.ntmps8
  go_wp2
  go_ret
  refine ⟨?_, ⟨?_, ?_, by simp, by simp, by simp, List.Pairwise.nil, by simp, by simp, by simp⟩, ?_, by simp⟩
  · simp
  · exact Mem.newAt (W.alloc (.map #[] 0)) Ttb [.map (some W.heap.size)] (by simp)
  · exact (MpS.made W).of (Below.heap_alloc _ _ _ (by simp))
  · exact (belowSelf W _).alloc (by simp) _
section
variable {W : World} {t g : Nat} {T : PT} {x : List UInt8} {a u : Int}
attribute [local go_sem ↓] ld_id
set_option maxHeartbeats 1000000 in
set_option maxRecDepth 100000 in
theorem put_bad (x : List UInt8) (a u : Int) (ha : a < 0 ∨ 64 ≤ a) : Calls Try.prog 10 #[.pointer (some ⟨t, 0, none⟩), nmV x, iv a, iv u] W fun e w' => e = .returned (iv 10) ∧ Below W.heap.size W w' := by
  by_cases h1 : a < 0
  · have hd : decide (a < 0) = true := by simpa using h1
    go_enter Try.func10, Try.ntmps10
    go_wp2_with fail
    go_ret
    exact ⟨rfl, belowSelf W _⟩
  · have h2 : 64 ≤ a := by omega
    have hd : decide (a < 0) = false := by simpa using h1
    go_enter Try.func10, Try.ntmps10
    go_wp2_with fail
    go_ret
    exact ⟨rfl, belowSelf W _⟩
/-- The store into a map, whatever it comes to. -/
theorem step_mapRun {P : Program} {ops : Array Oper} {o : Oper} {a : Act} {w w' : World} {Q : Exit → Act → World → Prop} {K : Act → World → Prop} {E : Prop} {t : TypeId} {mv xv vv : Value} (hr : (Instr.mapUpdate t mv xv vv).run P w = .ok () w')
    (m x v : Operand) (hgd : o.guard = none) (ho : o.op = .mapUpdate t m x v) (hm : a.eval m = mv) (hx : a.eval x = xv) (hv : a.eval v = vv) (h : K (a.put o.dst undef) w') : if Region.wanted o (yielded ops a.tmps) = true then Oper.wp P o a w K Q else E := by
  have hw : Region.wanted o (yielded ops a.tmps) = true := by simp [Region.wanted, hgd]
  rw [if_pos hw]
  unfold Oper.wp execOp
  simp only [ho, hm, hx, hv, hr, Sem.run_bind, Sem.run_pure, Result.andThen_ok]
  exact h
theorem wp_mapRun {P : Program} {ops : Array Oper} {rest : List Oper} {o : Oper} {a : Act} {w w' : World} {Q : Exit → Act → World → Prop} {t : TypeId} {mv xv vv : Value} (hr : (Instr.mapUpdate t mv xv vv).run P w = .ok () w')
    (m x v : Operand) (hgd : o.guard = none) (ho : o.op = .mapUpdate t m x v) (hm : a.eval m = mv) (hx : a.eval x = xv) (hv : a.eval v = vv) (h : wpList P ops Q rest (a.put o.dst undef) w') : wpList P ops Q (o :: rest) a w := by
  refine wpList_plain hgd fun K hK => ?_
  unfold Oper.wp execOp
  simp only [ho, hm, hx, hv, hr, Sem.run_bind, Sem.run_pure, Result.andThen_ok]
  exact hK _ _ h
set_option maxHeartbeats 2000000 in
set_option maxRecDepth 100000 in
theorem put_full (h : Ptb W t g T) (hx : x.length = 32) (h0 : 0 ≤ a) (h64 : a < 64) (hn : getK x T = none) (hf : 64 ≤ T.length) : Calls Try.prog 10 #[.pointer (some ⟨t, 0, none⟩), nmV x, iv a, iv u] W fun e w' => e = .returned (iv 14) ∧ Below W.heap.size W w' := by
  have hd1 : decide (a < 0) = false := by simp; omega
  have hd2 : decide (a ≥ 64) = false := by simp; omega
  have hx1 : ¬ a < 0 := by omega
  have hx2 : ¬ a ≥ 64 := by omega
  have HLD := Lib.hid (fun p : Bw (W.alloc (.cells (x.map byteV).toArray TI)) => ld_id_at ((Mem.new W TI (x.map byteV)).below p.h (by simp)) hx)
  have HC0 := Lib.hid (fun p : Bw (W.alloc (.cells (x.map byteV).toArray TI)) => show p.W.cell? ⟨t, 0, none⟩ = some (.map (some g)) from ((h.below (belowSelf W _)).below p.h).tag.cell 0)
  have HLK := Lib.hid (fun p : Bw (W.alloc (.cells (x.map byteV).toArray TI)) => show (Instr.lookup Tmim (.map (some g)) (nmV x) true).run Try.prog p.W = .ok (.tuple #[.map none, .bool false]) p.W from by
    have := ((h.below (belowSelf W _)).below p.h).out.look_ok hx
    rw [nb_get, hn] at this
    exact this)
  have HLN := Lib.hid (fun p : Bw (W.alloc (.cells (x.map byteV).toArray TI)) => show ∀ ty, (Builtin.len_ #[Tmim] ty #[.map (some g)]).run Try.prog p.W = .ok (iv T.length) p.W from fun ty => by
    have := ((h.below (belowSelf W _)).below p.h).out.len ty
    rw [show (nb T).length = T.length from by simp [nb]] at this
    exact this)
  obtain ⟨L, hL⟩ : ∃ L, L = T.length := ⟨_, rfl⟩
  rw [← hL] at HLN hf
  clear h hn hL hx
  go_enter Try.func10, Try.ntmps10
  go_wp2_with fail
  have hld := HLD.out
  have hc0 := HC0.out
  have hlk := HLK.out
  refine wp_region_bw (by kernel_rfl) (by kernel_rfl) ?_
  repeat (quiet_step (fail))
  refine wpQuiet_nil ?_
  rintro _ ⟨p, rfl⟩
  have hln := HLN.out p
  have hc1 := hc0 p
  have HP := Lib.hid p.h
  obtain ⟨w1, hw1⟩ : ∃ w1, w1 = p.W := ⟨_, rfl⟩
  rw [← hw1] at HP hln hc1 ⊢
  clear hw1 p hld hc0 hlk
  have hd3 : decide ((L : Int) ≥ 64) = true := by simp; omega
  have hx3 : (L : Int) ≥ 64 := by omega
  rename_i K hK
  refine hK _ _ ?_
  go_wp2_with fail
  go_ret
  exact ⟨rfl, (belowSelf W _).trans (HP.out.mono (by simp))⟩
set_option maxHeartbeats 2000000 in
set_option maxRecDepth 100000 in
theorem put_new (h : Ptb W t g T) (hx : x.length = 32) (h0 : 0 ≤ a) (h64 : a < 64) (hu : In64 u) (hn : getK x T = none) (hf : T.length < 64) : Calls Try.prog 10 #[.pointer (some ⟨t, 0, none⟩), nmV x, iv a, iv u] W fun e w' =>
    e = .returned (iv 0) ∧ ∃ b, W.heap.size ≤ b ∧ Ptb w' t g (eT.set x (b, [(a, max 0 u)]) T) ∧ W.grownBy w' (some g) := by
  have hd1 : decide (a < 0) = false := by simp; omega
  have hd2 : decide (a ≥ 64) = false := by simp; omega
  have hx1 : ¬ a < 0 := by omega
  have hx2 : ¬ a ≥ 64 := by omega
  have hA : In64 a := in64_of (by omega)
  have hM : In64 (max 0 u) := by
    rcases Int.le_total 0 u with h1 | h1
    · rw [Int.max_eq_right h1]; exact hu
    · rw [Int.max_eq_left h1]; exact in64_of (by omega)
  have HLD := Lib.hid (fun p : Bw (W.alloc (.cells (x.map byteV).toArray TI)) => ld_id_at ((Mem.new W TI (x.map byteV)).below p.h (by simp)) hx)
  have HT := Lib.hid h
  have HC0 := Lib.hid (fun p : Bw (W.alloc (.cells (x.map byteV).toArray TI)) => show p.W.cell? ⟨t, 0, none⟩ = some (.map (some g)) from ((h.below (belowSelf W _)).below p.h).tag.cell 0)
  have HLK := Lib.hid (fun p : Bw (W.alloc (.cells (x.map byteV).toArray TI)) => show (Instr.lookup Tmim (.map (some g)) (nmV x) true).run Try.prog p.W = .ok (.tuple #[.map none, .bool false]) p.W from by
    have := ((h.below (belowSelf W _)).below p.h).out.look_ok hx
    rw [nb_get, hn] at this
    exact this)
  have HLN := Lib.hid (fun p : Bw (W.alloc (.cells (x.map byteV).toArray TI)) => show ∀ ty, (Builtin.len_ #[Tmim] ty #[.map (some g)]).run Try.prog p.W = .ok (iv T.length) p.W from fun ty => by
    have := ((h.below (belowSelf W _)).below p.h).out.len ty
    rw [show (nb T).length = T.length from by simp [nb]] at this
    exact this)
  have HNL := Lib.hid (fun W => Maps.look_nil (P := Try.prog) (w := W) true keyedI Try.underlying53 (zeroI W) (keyI_of hA))
  have HNZ := Lib.hid (fun W ty => Maps.len_nil (P := Try.prog) (w := W) Try.underlying53 ty)
  have HX := Lib.hid hx
  have HN := Lib.hid hn
  have HF := Lib.hid hf
  have HA := Lib.hid hA
  have HMX := Lib.hid hM
  obtain ⟨L, hL⟩ : ∃ L, L = T.length := ⟨_, rfl⟩
  rw [← hL] at HLN hf
  clear h hn hL hx hA hM hu
  have hmm := @run_makeMap Try.prog
  go_enter Try.func10, Try.ntmps10
  go_wp2_with fail
  have hld := HLD.out
  have hc0 := HC0.out
  have hlk := HLK.out
  refine wp_region_bw (by kernel_rfl) (by kernel_rfl) ?_
  repeat (quiet_step (fail))
  refine wpQuiet_nil ?_
  rintro _ ⟨p, rfl⟩
  have hln := HLN.out p
  have hc1 := hc0 p
  have HP := Lib.hid p.h
  obtain ⟨w1, hw1⟩ : ∃ w1, w1 = p.W := ⟨_, rfl⟩
  rw [← hw1] at HP hln hc1 ⊢
  clear hw1 p hld hc0 hlk
  have hd3 : decide ((L : Int) ≥ 64) = false := by simp; omega
  have hx3 : ¬ (L : Int) ≥ 64 := by omega
  have hnl := HNL.out w1
  have hnz := HNZ.out w1
  simp only [if_true] at hnl
  rename_i K hK
  refine hK _ _ ?_
  have HM1 := Lib.hid ((Mem.new W TI (x.map byteV)).below HP.out (by simp))
  have HT1 := Lib.hid ((HT.out.below (belowSelf W _)).below HP.out)
  have HT2 := Lib.hid (HT1.out.below (belowSelf w1 (.map #[] 0)))
  have HB := Lib.hid (show MpI (w1.alloc (.map #[] 0)) w1.heap.size [] from MpS.made w1)
  have HM2 := Lib.hid ((HM1.out.alloc (.map #[] 0)).drew)
  have hc2 : (w1.alloc (.map #[] 0)).drew.cell? ⟨t, 0, none⟩ = some (.map (some g)) := HT2.out.tag.cell 0
  obtain ⟨W2, hr2, ho2, hg2⟩ := MpN.put (u := w1.heap.size) (show MpN (w1.alloc (.map #[] 0)).drew g (nb T) from HT2.out.out) HX.out (by have := HF.out; simp [nb]; omega)
  have hld2 := ld_id_at HM2.out HX.out
  have HR2 := Lib.hid hr2
  have HO2 := Lib.hid ho2
  have HG2 := Lib.hid hg2
  have hbg : w1.heap.size ≠ g := by have := HT1.out.out.lt; omega
  have HB2 := Lib.hid (show MpI W2 w1.heap.size [] from MpS.grown (W := (w1.alloc (.map #[] 0)).drew) HB.out HG2.out (fun e => hbg (by injection e)))
  have hlk2 := MpI.look HB2.out HA.out
  obtain ⟨W3, hr3, ho3, hg3⟩ := MpI.put HB2.out HA.out HMX.out (by simp)
  have HR3 := Lib.hid hr3
  have HO3 := Lib.hid ho3
  have HG3 := Lib.hid hg3
  clear hr2 ho2 hg2 hr3 ho3 hg3
  go_wp2_with fail
  have hr2 := HR2.out
  go_region
  rename_i K hK
  refine hK _ _ ?_
  clear hK K hr2 hld2 hc2 hc1 hnl hnz hln
  go_wp2_with (first
    | (refine wp_max0 (c := 0) (d := u) (.tmp 64) (.tmp 65) rfl rfl rfl rfl ?_)
    | (refine wp_mapRun HR3.out (.tmp 60) (.tmp 61) (.tmp 66) rfl rfl rfl rfl rfl ?_)
    | fail)
  go_ret
  have hwb : W.grownBy w1 none := grownOfBelow ((belowSelf W _).trans (HP.out.mono (by simp)))
  have hw13 : w1.grownBy W3 (some g) := by
    refine ⟨HG3.out.os.trans HG2.out.os, HG3.out.tape.trans HG2.out.tape, HG3.out.output.trans HG2.out.output, ?_, fun k hk hne => ?_⟩
    · have e1 := HG2.out.size; have e2 := HG3.out.size; simp at e1; omega
    · have hk1 : k < (w1.alloc (.map #[] 0)).drew.heap.size := by simp; omega
      rw [HG3.out.block k (Nat.lt_of_lt_of_le hk1 HG2.out.size) (fun e => by injection e with e; omega), HG2.out.block k hk1 hne]
      exact Below.heap_alloc _ _ _ hk
  have hgb : some g ≠ some w1.heap.size := fun e => hbg (by injection e with e; exact e.symm)
  refine ⟨rfl, w1.heap.size, hwb.size, HT.out.add HN.out HX.out hwb.size hwb hw13 (HO2.out.grown HG3.out hgb) HO3.out (by simp) ?_ HF.out, (hwb.but (some g)).andThen hw13 (fun j e => .inr (by rw [e]))⟩
  · intro p hp
    have : p = (a, max 0 u) := by simpa [eI, Enc.set, Enc.ins, delK] using hp
    rw [this]
    exact ⟨HA.out, HMX.out⟩
set_option maxHeartbeats 2000000 in
set_option maxRecDepth 100000 in
theorem put_old {b : Nat} {l : List (Int × Int)} (h : Ptb W t g T) (hx : x.length = 32) (h0 : 0 ≤ a) (h64 : a < 64) (hu : In64 u) (hn : getK x T = some (b, l)) (hf : (getK a l).isSome = true ∨ l.length < 8) : Calls Try.prog 10 #[.pointer (some ⟨t, 0, none⟩), nmV x, iv a, iv u] W fun e w' =>
    e = .returned (iv 0) ∧ Ptb w' t g (updK x (b, eI.set a (max ((getK a l).getD 0) u) l) T) ∧ W.grownBy w' (some b) := by
  have hmem := (mem_getK h.uniq x (b, l)).1 hn
  have hd1 : decide (a < 0) = false := by simp; omega
  have hd2 : decide (a ≥ 64) = false := by simp; omega
  have hx1 : ¬ a < 0 := by omega
  have hx2 : ¬ a ≥ 64 := by omega
  have hA : In64 a := in64_of (by omega)
  have hl8 := h.few8 _ hmem
  simp only at hl8
  have hul := (h.inn _ hmem).uniq keyedI
  simp only at hul
  obtain ⟨q, hq⟩ : ∃ q, q = (getK a l).getD 0 := ⟨_, rfl⟩
  have hQ : In64 q := by
    rw [hq]
    cases hga : getK a l with
    | none => exact in64_of (by simp)
    | some v => exact (h.val _ hmem (a, v) ((mem_getK hul a v).1 hga)).2
  have hM : In64 (max q u) := by
    rcases Int.le_total q u with h1 | h1
    · rw [Int.max_eq_right h1]; exact hu
    · rw [Int.max_eq_left h1]; exact hQ
  have HLD := Lib.hid (fun p : Bw (W.alloc (.cells (x.map byteV).toArray TI)) => ld_id_at ((Mem.new W TI (x.map byteV)).below p.h (by simp)) hx)
  have HT := Lib.hid h
  have HC0 := Lib.hid (fun p : Bw (W.alloc (.cells (x.map byteV).toArray TI)) => show p.W.cell? ⟨t, 0, none⟩ = some (.map (some g)) from ((h.below (belowSelf W _)).below p.h).tag.cell 0)
  have HLK := Lib.hid (fun p : Bw (W.alloc (.cells (x.map byteV).toArray TI)) => show (Instr.lookup Tmim (.map (some g)) (nmV x) true).run Try.prog p.W = .ok (.tuple #[.map (some b), .bool true]) p.W from by
    have := ((h.below (belowSelf W _)).below p.h).out.look_ok hx
    rw [nb_get, hn] at this
    exact this)
  have HN := Lib.hid hn
  have HA := Lib.hid hA
  have HMX := Lib.hid hM
  have HMEM := Lib.hid hmem
  have HQ := Lib.hid hq
  have HUL := Lib.hid hul
  have HL8 := Lib.hid hl8
  have HF := Lib.hid hf
  obtain ⟨c, hc⟩ : ∃ c, c = (getK a l).isSome := ⟨_, rfl⟩
  have HC := Lib.hid hc
  obtain ⟨L, hL⟩ : ∃ L, L = l.length := ⟨_, rfl⟩
  have HLL := Lib.hid hL
  rw [← hL, ← hc] at hf
  rw [← hq]
  clear h hn hx hA hM hu hmem hq hul hl8 hc hL hQ
  go_enter Try.func10, Try.ntmps10
  go_wp2_with fail
  have hld := HLD.out
  have hc0 := HC0.out
  have hlk := HLK.out
  refine wp_region_bw (by kernel_rfl) (by kernel_rfl) ?_
  repeat (quiet_step (fail))
  refine wpQuiet_nil ?_
  rintro _ ⟨p, rfl⟩
  have HP := Lib.hid p.h
  obtain ⟨w1, hw1⟩ : ∃ w1, w1 = p.W := ⟨_, rfl⟩
  rw [← hw1] at HP ⊢
  clear hw1 p hld hc0 hlk
  have HT1 := Lib.hid ((HT.out.below (belowSelf W _)).below HP.out)
  have HI1 := Lib.hid (HT1.out.inn _ HMEM.out)
  obtain ⟨v, hlk1⟩ := MpI.look_ok HI1.out HA.out
  have hlk2 := MpI.look HI1.out HA.out
  have hln := MpI.len HI1.out
  simp only at hlk1 hlk2 hln
  rw [← HC.out] at hlk1
  rw [← HQ.out] at hlk2
  rw [← HLL.out] at hln
  obtain ⟨W3, hr3, ho3, hg3⟩ := MpI.put HI1.out HA.out HMX.out (by have := HL8.out; simp only; omega)
  have HR3 := Lib.hid hr3
  have HO3 := Lib.hid ho3
  have HG3 := Lib.hid hg3
  clear hr3 ho3 hg3
  rename_i K hK
  refine hK _ _ ?_
  clear hK K
  have hwb : W.grownBy w1 none := grownOfBelow ((belowSelf W _).trans (HP.out.mono (by simp)))
  have HWB := Lib.hid hwb
  clear hwb
  have HEND := Lib.hid (show Ptb W3 t g (updK x (b, eI.set a (max q u) l) T) ∧ W.grownBy W3 (some b) from by
    refine ⟨HT1.out.upd HN.out HG3.out HO3.out ?_ ?_, (HWB.out.but (some b)).andThen HG3.out (fun j e => .inr (by rw [e]))⟩
    · rw [length_set eI HUL.out]
      have h1 := HF.out
      have h2 := HL8.out
      split
      · exact h2
      · rename_i hns
        rcases h1 with h1 | h1
        · exact absurd h1 hns
        · omega
    · intro p hp
      have := (eI.ins_perm (a, max q u) (delK a l)).mem_iff.1 hp
      rcases List.mem_cons.1 this with rfl | h1
      · exact ⟨HA.out, HMX.out⟩
      · exact HT1.out.val _ HMEM.out p (List.mem_filter.1 h1).1)
  cases c with
  | true =>
    go_wp2_with (first
      | (refine wp_max0 (c := q) (d := u) (.tmp 64) (.tmp 65) rfl rfl rfl rfl ?_)
      | (refine wp_mapRun HR3.out (.tmp 60) (.tmp 61) (.tmp 66) rfl rfl rfl rfl rfl ?_)
      | fail)
    go_ret
    exact ⟨rfl, HEND.out⟩
  | false =>
    have hL8 : L < 8 := by
      rcases hf with h1 | h1
      · cases h1
      · exact h1
    have hd3 : decide ((L : Int) ≥ 8) = false := by simp; omega
    have hx3 : ¬ (L : Int) ≥ 8 := by omega
    go_wp2_with (first
      | (refine wp_max0 (c := q) (d := u) (.tmp 64) (.tmp 65) rfl rfl rfl rfl ?_)
      | (refine wp_mapRun HR3.out (.tmp 60) (.tmp 61) (.tmp 66) rfl rfl rfl rfl rfl ?_)
      | fail)
    go_ret
    exact ⟨rfl, HEND.out⟩
set_option maxHeartbeats 2000000 in
set_option maxRecDepth 100000 in
theorem put_much {b : Nat} {l : List (Int × Int)} (h : Ptb W t g T) (hx : x.length = 32) (h0 : 0 ≤ a) (h64 : a < 64) (hn : getK x T = some (b, l)) (hf : (getK a l).isSome = false) (hm : 8 ≤ l.length) : Calls Try.prog 10 #[.pointer (some ⟨t, 0, none⟩), nmV x, iv a, iv u] W fun e w' =>
    e = .returned (iv 14) ∧ Below W.heap.size W w' := by
  have hmem := (mem_getK h.uniq x (b, l)).1 hn
  have hd1 : decide (a < 0) = false := by simp; omega
  have hd2 : decide (a ≥ 64) = false := by simp; omega
  have hx1 : ¬ a < 0 := by omega
  have hx2 : ¬ a ≥ 64 := by omega
  have hA : In64 a := in64_of (by omega)
  have HLD := Lib.hid (fun p : Bw (W.alloc (.cells (x.map byteV).toArray TI)) => ld_id_at ((Mem.new W TI (x.map byteV)).below p.h (by simp)) hx)
  have HT := Lib.hid h
  have HC0 := Lib.hid (fun p : Bw (W.alloc (.cells (x.map byteV).toArray TI)) => show p.W.cell? ⟨t, 0, none⟩ = some (.map (some g)) from ((h.below (belowSelf W _)).below p.h).tag.cell 0)
  have HLK := Lib.hid (fun p : Bw (W.alloc (.cells (x.map byteV).toArray TI)) => show (Instr.lookup Tmim (.map (some g)) (nmV x) true).run Try.prog p.W = .ok (.tuple #[.map (some b), .bool true]) p.W from by
    have := ((h.below (belowSelf W _)).below p.h).out.look_ok hx
    rw [nb_get, hn] at this
    exact this)
  have HA := Lib.hid hA
  have HMEM := Lib.hid hmem
  have HF := Lib.hid hf
  obtain ⟨L, hL⟩ : ∃ L, L = l.length := ⟨_, rfl⟩
  have HLL := Lib.hid hL
  rw [← hL] at hm
  clear h hn hx hA hmem hf hL
  go_enter Try.func10, Try.ntmps10
  go_wp2_with fail
  have hld := HLD.out
  have hc0 := HC0.out
  have hlk := HLK.out
  refine wp_region_bw (by kernel_rfl) (by kernel_rfl) ?_
  repeat (quiet_step (fail))
  refine wpQuiet_nil ?_
  rintro _ ⟨p, rfl⟩
  have HP := Lib.hid p.h
  obtain ⟨w1, hw1⟩ : ∃ w1, w1 = p.W := ⟨_, rfl⟩
  rw [← hw1] at HP ⊢
  clear hw1 p hld hc0 hlk
  have HT1 := Lib.hid ((HT.out.below (belowSelf W _)).below HP.out)
  have HI1 := Lib.hid (HT1.out.inn _ HMEM.out)
  obtain ⟨v, hlk1⟩ := MpI.look_ok HI1.out HA.out
  have hln := MpI.len HI1.out
  simp only at hlk1 hln
  rw [HF.out] at hlk1
  rw [← HLL.out] at hln
  rename_i K hK
  refine hK _ _ ?_
  clear hK K
  have hd3 : decide ((L : Int) ≥ 8) = true := by simp; omega
  have hx3 : (L : Int) ≥ 8 := by omega
  go_wp2_with fail
  go_ret
  exact ⟨rfl, (belowSelf W _).trans (HP.out.mono (by simp))⟩
/-- What Put makes of a table, and what it answers. -/
def putV (x : List UInt8) (a u : Int) (V : PV) : PV × Int :=
  if a < 0 ∨ 64 ≤ a then (V, 10) else
  match getK x V with
  | none => if 64 ≤ V.length then (V, 14) else (eV.set x [(a, max 0 u)] V, 0)
  | some l => if (getK a l).isSome = false ∧ 8 ≤ l.length then (V, 14) else (updK x (eI.set a (max ((getK a l).getD 0) u) l) V, 0)
theorem put_any {F : Nat → Prop} {V : PV} (h : Pv W F t V) (hx : x.length = 32) (hu : In64 u) : Calls Try.prog 10 #[.pointer (some ⟨t, 0, none⟩), nmV x, iv a, iv u] W fun e w' =>
    e = .returned (iv (putV x a u V).2) ∧ Pv w' (And_new F W) t (putV x a u V).1 ∧ Fr F W w' := by
  obtain ⟨g, T, hT, rfl, hF⟩ := h
  have hvl : (vw T).length = T.length := by simp [vw]
  have hstay : ∀ w', Below W.heap.size W w' → Pv w' (And_new F W) t (vw T) ∧ Fr F W w' := fun w' hb => ⟨⟨g, T, hT.below hb, rfl, fun k hk => .inl (hF k hk)⟩, Fr.of_below hb⟩
  unfold putV
  by_cases hb : a < 0 ∨ 64 ≤ a
  · rw [if_pos hb]
    exact (put_bad x a u hb).mono fun e w' q => ⟨q.1, hstay w' q.2⟩
  · rw [if_neg hb]
    rw [vw_get, hvl]
    cases hg : getK x T with
    | none =>
      simp only [Option.map_none]
      by_cases h64 : 64 ≤ T.length
      · rw [if_pos h64]
        exact (put_full hT hx (by omega) (by omega) hg h64).mono fun e w' q => ⟨q.1, hstay w' q.2⟩
      · rw [if_neg h64]
        refine (put_new hT hx (by omega) (by omega) hu hg (by omega)).mono fun e w' q => ?_
        obtain ⟨q1, b, q2, q3, q4⟩ := q
        refine ⟨q1, ⟨g, _, q3, vw_set x (b, [(a, max 0 u)]) T, fun k hk => ?_⟩, Fr.of_grown q4 fun k e => hF k (.inr (.inl (by injection e with e; exact e.symm)))⟩
        rcases hk.add with hk | rfl
        · exact .inl (hF k hk)
        · exact .inr q2
    | some p =>
      obtain ⟨b, l⟩ := p
      simp only [Option.map_some]
      by_cases hm : (getK a l).isSome = false ∧ 8 ≤ l.length
      · rw [if_pos hm]
        exact (put_much hT hx (by omega) (by omega) hg hm.1 hm.2).mono fun e w' q => ⟨q.1, hstay w' q.2⟩
      · rw [if_neg hm]
        have hf : (getK a l).isSome = true ∨ l.length < 8 := by
          cases hs : (getK a l).isSome
          · exact .inr (Nat.lt_of_not_le fun h8 => hm ⟨hs, h8⟩)
          · exact .inl rfl
        refine (put_old hT hx (by omega) (by omega) hu hg hf).mono fun e w' q => ?_
        obtain ⟨q1, q3, q4⟩ := q
        have hbF : F b := hF b (.inr (.inr ⟨_, (mem_getK hT.uniq x (b, l)).1 hg, rfl⟩))
        exact ⟨q1, ⟨g, _, q3, vw_upd _ _ _ _, fun k hk => .inl (hF k (Ftp.upd hT hg hk))⟩, Fr.of_grown q4 fun k e => by injection e with e; exact e ▸ hbF⟩
end
end Go.Proofs.Ytilmidddhkofaaa

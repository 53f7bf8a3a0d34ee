/-
  slices.AppendSeq, Collect of names.
-/
import Derived.Test.YtilmidddhkofaaaPm8
namespace Go.Proofs.Ytilmidddhkofaaa
open Go.RowKit Go.Maps Crv

abbrev Tids : TypeId := 47
def nmC (x : NM) : List Value := x.1.map byteV
theorem length_nmC (x : NM) : (nmC x).length = 32 := by unfold nmC; rw [List.length_map, x.2]
theorem Rw.shape {w : World} {base : Nat} {e : TypeId} {m : Nat} {v : Value} {xs : List (List Value)} (h : Rw w base e m v xs) : ∃ a n c, v = .slice a n c := by
  rcases h.2.2 with ⟨h0, _⟩ | ⟨g, cap, cur, h0, _⟩
  · exact ⟨_, _, _, h0⟩
  · exact ⟨_, _, _, h0⟩
/-- What the loop of AppendSeq keeps: the box of its list. -/
def ApI (w : World) (pre : List NM) (W : World) : Prop := (∃ v, Mem W w.heap.size Tids [v] ∧ Rw W w.heap.size TI 32 v (pre.map nmC)) ∧ Below w.heap.size w W
theorem cells_kept' {A B : World} {row : Option Nat} (hg : A.grownBy B row) (hr : ∀ r, row = some r → ∃ o : Obj, A.heap[r]? = some o ∧ o.isCells = false) {b : Nat} {cs : Array Value} {t : TypeId} {fr : Nat × Nat} (h : A.heap[b]? = some (.cells cs t fr)) : B.heap[b]? = some (.cells cs t fr) :=
  (hg.block b (Array.getElem?_eq_some_iff.1 h).1 (fun e => by
    obtain ⟨o, ho, hc⟩ := hr b e.symm
    rw [h] at ho
    cases ho
    cases hc)).trans h
theorem ApI.own {w : World} {B : Nat} (hB : w.heap.size ≤ B) : OwnFrom B (ApI w) := fun pre A C row ⟨⟨v, h1, h2⟩, h3⟩ hg hr => by
  have hr' := fun r e => (hr r e).2
  refine ⟨⟨v, cells_kept' hg hr' h1, h2.of_block fun k hk => ?_⟩, ?_⟩
  · obtain ⟨cs, hc⟩ := h2.tag k hk
    exact (cells_kept' hg hr' hc).trans hc.symm
  · refine ⟨hg.os.trans h3.os, hg.tape.trans h3.tape, hg.output.trans h3.output, Nat.le_trans h3.size hg.size, fun k hk => (hg.block k (Nat.lt_of_lt_of_le hk h3.size) (fun e => ?_)).trans (h3.block k hk)⟩
    have := (hr k e.symm).1
    omega
theorem ApI.below {w W W' : World} {pre : List NM} (h : ApI w pre W) (hb : Below W.heap.size W W') : ApI w pre W' := by
  obtain ⟨⟨v, h1, h2⟩, h3⟩ := h
  exact ⟨⟨v, h1.below hb h1.lt, h2.below hb⟩, h3.trans (hb.mono h3.size)⟩
theorem fold_set : ∀ (l : List Value) (k : Nat) (arr : Array Value), arr.size = k + l.length → List.foldl (fun (cs : Array Value) (x : Value × Nat) => cs.setIfInBounds x.snd x.fst) arr (l.zipIdx k) = (arr.toList.take k ++ l).toArray
  | [], k, arr, h => by
    have e : arr.toList.take k = arr.toList := List.take_of_length_le (by simpa using Nat.le_of_eq h)
    simp [e]
  | a :: l, k, arr, h => by
    have h' : arr.size = k + l.length + 1 := by simpa [Nat.add_assoc] using h
    rw [List.zipIdx_cons, List.foldl_cons, fold_set l (k + 1) (arr.setIfInBounds k a) (by simp; omega)]
    congr 1
    rw [Array.toList_setIfInBounds, List.take_succ_eq_append_getElem (by simp; omega), List.take_set_of_le (Nat.le_refl _)]
    simp
theorem run_bslice_nm (x : List UInt8) (hx : x.length = 32) (W : World) : (Instr.buildSlice Tids 1 #[(0, nmV x)]).run Try.prog W = .ok (.slice (some ⟨W.heap.size, 0, none⟩) 1 1) (W.alloc (.cells (x.map byteV).toArray TI)) := by
  have h := fold_set (x.map byteV) 0 zs32 (by simp [hx])
  simp only [List.take_zero, List.nil_append, zs32] at h
  simp [go_sem, Instr.buildSlice, hx, h]
theorem wp_build_nm {ops : Array Oper} {rest : List Oper} {o : Oper} {a : Act} {w : World} {Q : Exit → Act → World → Prop} (x : List UInt8) (hx : x.length = 32) (y : Operand) (hgd : o.guard = none) (ho : o.op = .buildSlice Tids 1 #[(0, y)]) (hy : a.eval y = nmV x)
    (h : wpList Try.prog ops Q rest (a.put o.dst (.slice (some ⟨w.heap.size, 0, none⟩) 1 1)) (w.alloc (.cells (x.map byteV).toArray TI))) : wpList Try.prog ops Q (o :: rest) a w := by
  refine wpList_plain hgd fun K hK => ?_
  have hr := run_bslice_nm x hx w
  unfold Oper.wp execOp
  simp only [ho, List.map_toArray, List.map_cons, List.map_nil, hy, hr, Sem.run_bind, Sem.run_pure, Result.andThen_ok]
  exact hK _ _ h
attribute [local go_sem ↓] ld_id
set_option maxRecDepth 100000 in
set_option maxHeartbeats 2000000 in
theorem appendSeq_any (gf : Nat) (lb : Array Value) (S : List NM → Prop) (N : Nat) (hN : N ≤ 1000000) (w : World) (eg : ∀ args w, (callFunc gf args).run Try.prog w = .ok (.enter gf args) w)
    (hseq : ∀ w0, Below w.heap.size w w0 → SeqStopsK Fence.wide 2 Try.prog gf lb (fun x : NM => #[nmV x.1]) KeepsWalks S (fun _ => True) N w0) :
    Calls Try.prog 49 #[.slice none 0 0, .func (.func gf) #[] lb] w fun e w' => ∃ v ss, e = .returned v ∧ S ss ∧ Rw w' w.heap.size TI 32 v (ss.map nmC) ∧ Below w.heap.size w w' := by
  have HEG := Lib.hid eg
  have HSQ := Lib.hid (hseq (w.alloc (.cells #[.slice none 0 0] Tids)) (belowSelf w _))
  have HI0 := Lib.hid (show ApI w [] (w.alloc (.cells #[.slice none 0 0] Tids)) from ⟨⟨_, Mem.new w Tids [.slice none 0 0], Rw.nil _ _ _ _⟩, belowSelf w _⟩)
  obtain ⟨w1, hw1⟩ : ∃ w1, w1 = w.alloc (.cells #[.slice none 0 0] Tids) := ⟨_, rfl⟩
  rw [← hw1] at HSQ HI0
  have HZ1 := Lib.hid (show w.heap.size ≤ w1.heap.size by rw [hw1]; simp)
  have HW1 := Lib.hid hw1
  clear hseq eg hw1
  refine (callsIn_wide (n := 3)).1 ?_
  refine callsIn_of_wp_marks Try.func49 rfl trivial ?_ rfl
  simp only [Try.ntmps49, List.size_toArray, List.length_cons, List.length_nil, Nat.reduceAdd, Nat.reduceSub, Array.replicate_succ, Array.replicate_zero, List.push_toArray, List.append_toArray, List.nil_append, List.cons_append]
  gi_wp2_with fail
  rw [show w.alloc (.cells #[.slice none 0 0] Tids) = w1 from HW1.out.symm]
  refine wpIn_rangeFunc_ownH rfl (by omega) (gf := gf) (lb := lb) rfl trivial HEG.out HSQ.out (fun h k => h.trans k) (fun W l o o' _ h1 _ h3 => KeepsWalks.putObj _ h1 h3) (Below.refl _ _) (fun _ => rfl) (ApI w) (fun _ _ _ => False) (ApI.own HZ1.out) (fun _ _ _ _ _ hs _ _ => hs) HI0.out
    (fun x a' W => ∃ b, Mem W b TI (nmC x) ∧ a' = { tmps := #[.slice none 0 0, .func (.func gf) #[] lb, .pointer (some ⟨w.heap.size, 0, none⟩), undef, .slice none 0 0, .pointer (some ⟨b, 0, none⟩), .func (.func gf) #[] lb, nmV x.1, undef, undef, undef, undef, undef], defers := [] })
    (fun x a' _ A B row ⟨b, h1, h2⟩ hg hr => ⟨b, cells_kept' hg (fun r e => (hr r e).2) h1, h2⟩) ?assign ?body ?done ?stop
  case assign =>
    intro l pre x W' K hI hK
    have HSZ := Lib.hid (sz_id x.1 x.2)
    have ONE := Lib.hid (oneBytes x.1)
    have HZ := Lib.hid (show (List.replicate 32 (byteV 0)).length = (x.1.map byteV).length by rw [List.length_map, x.2]; rfl)
    have HI := Lib.hid hI
    have HK := Lib.hid hK
    clear hI hK
    refine regionL_of (by kernel_rfl) (by rintro ⟨_, _, h⟩; exact h) ?_
    go_wp2_with (first
      | (refine wp_store_gen (Mem.new W' TI (List.replicate 32 (byteV 0))) (x.1.map byteV) TI (.tmp 5) (.tmp 7) rfl rfl rfl rfl HSZ.out HZ.out ONE.out ?_
         intro W3 hm3 hg3 hs3
         have HM3 := Lib.hid hm3
         have HB3 := Lib.hid (show Below W'.heap.size W' W3 from belowNew (belowSelf W' _) hg3 (Nat.le_refl _))
         clear hm3 hg3 hs3)
      | fail)
    exact HK.out _ _ ⟨HB3.out.size, fun k o _ hk _ => (HB3.out.block k (Array.getElem?_eq_some_iff.1 hk).1).trans hk⟩ (KeepsWalks.of_grownBy (row := none) (grownOfBelow HB3.out) (fun j o e => by cases e)) (HI.out.below HB3.out) ⟨_, HM3.out, rfl⟩
  case body =>
    rintro l pre x a' W' hl - ⟨⟨v, hv, hrw⟩, hbw⟩ ⟨b, hMb, rfl⟩ hlt
    have hld := ld_id_at hMb x.2
    have c0 : W'.cell? ⟨w.heap.size, 0, none⟩ = some v := hv.cell 0
    have HV := Lib.hid hv
    have HRW := Lib.hid hrw
    have HBW := Lib.hid hbw
    have HX := Lib.hid x.2
    have HZW := Lib.hid (show w.heap.size ≤ W'.heap.size from hbw.size)
    obtain ⟨ti, hti, hz, hs32, hby⟩ : ∃ i, Try.prog.info? TI = some i ∧ i.zero = some (.agg zs32) ∧ i.size = 32 ∧ i.bytes = 32 := info_of (by kernel_rfl)
    have HTI := Lib.hid hti
    have HZZ := Lib.hid hz
    have HS32 := Lib.hid hs32
    have HBY := Lib.hid hby
    have HLEN := Lib.hid (show (pre.map nmC).length ≤ 900000000 by rw [List.length_map]; omega)
    have ONE := Lib.hid (oneBytes x.1)
    have HNB : v.ownBlock ≠ some w.heap.size := fun e => by
      obtain ⟨cs, hc⟩ := hrw.tag _ e
      have := hv.symm.trans hc
      simp only [Option.some.injEq, Obj.cells.injEq] at this
      exact absurd this.2.1 (by decide)
    have HNB' := Lib.hid HNB
    clear hv hrw hbw hMb hlt hti hz hs32 hby HNB
    refine wpIn_block ?_
    refine regionL_of (by kernel_rfl) (by rintro ⟨_, _, h⟩; exact h) ?_
    go_wp2_with (first
      | (refine wp_build_nm x.1 HX.out (.tmp 9) rfl rfl rfl ?_)
      | (at_builtin
         refine wp_append_row (HRW.out.below (belowSelf W' _)) w.heap.size (HBW.out.trans ((belowSelf W' _).mono HZW.out)) (Nat.le_refl _) (x.1.map byteV) (by omega) (by rw [List.length_map, HX.out]) ONE.out (.tmp 8) (.tmp 10) Tids ti (.agg zs32) 32 rfl rfl Try.underlying47 HTI.out HZZ.out HS32.out HBY.out rfl (by omega) rfl rfl (fun j u hu => by
           have := (Mem.new W' TI (x.1.map byteV)).cell j
           rw [hu] at this
           exact this) HLEN.out (by have := HZW.out; simp; omega) ?_
         intro v3 w3 hr3 hb3 hs3 hg3 hat3
         obtain ⟨oa, om, op, rfl⟩ := hr3.shape
         have hv3 : Mem w3 w.heap.size Tids [v] := (HV.out.below (belowSelf W' _) HV.out.lt).grown hg3 (fun e => HNB'.out e.symm)
         have c3 : w3.cell? ⟨w.heap.size, 0, none⟩ = some v := hv3.cell 0
         have f3 : w3.frozen? ⟨w.heap.size, 0, none⟩ = false := hv3.frozen 0
         have HR3 := Lib.hid hr3
         have HB3 := Lib.hid hb3
         have HV3 := Lib.hid hv3
         have HG3 := Lib.hid (show W'.grownBy w3 v.ownBlock from (grownOfBelow (row := v.ownBlock) (belowSelf W' (.cells (x.1.map byteV).toArray TI))).andThen hg3 (fun j e => .inr e))
         have HNB3 := Lib.hid (show (Value.slice oa om op).ownBlock ≠ some w.heap.size from fun e => by
           obtain ⟨cs, hc⟩ := hr3.tag _ e
           have := hv3.symm.trans hc
           simp only [Option.some.injEq, Obj.cells.injEq] at this
           exact absurd this.2.1 (by decide))
         clear hr3 hb3 hs3 hg3 hat3 hv3)
      | fail)
    have hgs : w3.grownBy (w3.setCell ⟨w.heap.size, 0, none⟩ (.slice oa om op)) (some w.heap.size) := grown_cell (grownRefl w3 _) 0 _
    refine ⟨⟨?_, fun k o hk1 hk2 hk3 => ?_⟩, ?_, ⟨.slice oa om op, HV3.out.set 0 _, ?_⟩, ?_⟩
    · have := HG3.out.size; have := hgs.size; omega
    · have hkl := (Array.getElem?_eq_some_iff.1 hk2).1
      have h1 : w3.heap[k]? = some o := (HG3.out.block k hkl (fun e => by
        obtain ⟨cs, hc⟩ := HRW.out.tag k e.symm
        rw [hk2] at hc
        cases hc
        cases hk3)).trans hk2
      refine (hgs.block k (Array.getElem?_eq_some_iff.1 h1).1 (fun e => ?_)).trans h1
      injection e with e
      have := HZ1.out
      have hs1 : w1.heap.size = w.heap.size + 1 := by rw [HW1.out]; simp
      omega
    · refine (KeepsWalks.of_grownBy HG3.out (fun j o e ho => ?_)).trans (KeepsWalks.setCell _ _ _)
      obtain ⟨cs, hc⟩ := HRW.out.tag j e
      rw [ho] at hc
      cases hc
      rfl
    · rw [List.map_append]
      exact HR3.out.of_block fun k hk => hgs.block k (HR3.out.lt k hk).1 (fun e => HNB3.out (by rw [hk]; exact e))
    · exact HB3.out.grown hgs HB3.out.size (fun k e => by injection e with e; omega)
  case done =>
    rintro D ss W hD hS ⟨⟨v, hv, hr⟩, hb⟩ hK
    obtain ⟨oa, om, op, rfl⟩ := hr.shape
    have c6 : W.cell? ⟨w.heap.size, 0, none⟩ = some (.slice oa om op) := hv.cell 0
    have HR := Lib.hid hr
    have HB := Lib.hid hb
    have HS := Lib.hid hS
    clear hv hr hb hS
    gi_wp2_with fail
    refine ⟨by simp, .inl ⟨_, _, rfl, run_takeDeferred hK, ?_⟩⟩
    refine ⟨_, results_tmp rfl _ _ _, .slice oa om op, ss, rfl, HS.out, HR.out.of_block fun k hk => ?_, ?_⟩
    · refine World.putObj_heap_other (fun e => ?_)
      obtain ⟨cs, hc⟩ := HR.out.tag k hk
      rw [e, hK] at hc
      cases hc
    · exact HB.out.grown (grownBy_putObj' _ _ _) HB.out.size (fun k e => by cases e; have := HZ1.out; omega)
  case stop =>
    rintro D c pre W _ _ h _
    exact h.elim
end Go.Proofs.Ytilmidddhkofaaa

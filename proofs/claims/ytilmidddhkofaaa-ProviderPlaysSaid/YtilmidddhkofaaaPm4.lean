/-
  Package provider: Get.
-/
import Derived.Test.YtilmidddhkofaaaPm3
import Derived.Test.YtilmidddhkofaaaSrtI
namespace Go.Proofs.Ytilmidddhkofaaa
open Go.RowKit Go.Maps Go.Sort Crv

/-- Who has it behind a tick, of a list of addresses with their ticks. -/
def getA (now : Int) (l : List (Int × Int)) : List Int := (l.filter fun p => decide (now < p.2)).map (·.1)
def getV (x : List UInt8) (now : Int) (V : PV) : List Int := ((getK x V).map (getA now)).getD []
/-- What a range over a map of numbers has given already. -/
def cameA (now : Int) (l : List (Int × Int)) (left : Lit → Bool) : List Int := (l.filter fun p => !left (eI.ek p.1) && decide (now < p.2)).map (·.1)
theorem cameA_step {now a u : Int} {left : Lit → Bool} (hl : left (eI.ek a) = true) : ∀ {l : List (Int × Int)}, Uniq l → (a, u) ∈ l →
    (cameA now l fun z => left z && !z.sameKey (eI.ek a)).Perm (cameA now l left ++ (if now < u then [a] else []))
  | [], _, hm => by simp at hm
  | p :: r, hu, hm => by
    obtain ⟨h1, h2⟩ := List.pairwise_cons.1 hu
    by_cases he : p.1 = a
    · have hp : p = (a, u) := by
        rcases List.mem_cons.1 hm with e | e
        · exact e.symm
        · exact absurd he (h1 _ e)
      have hr : (cameA now r fun z => left z && !z.sameKey (eI.ek a)) = cameA now r left := by
        unfold cameA
        congr 1
        refine List.filter_congr fun q hq => ?_
        have hqa : q.1 ≠ a := fun e => h1 q hq (he.trans e.symm)
        simp [Enc.same, hqa]
      have e1 : cameA now (p :: r) left = cameA now r left := by
        unfold cameA
        rw [List.filter_cons, hp]
        simp [hl]
      rw [e1]
      unfold cameA at hr ⊢
      rw [List.filter_cons, hp]
      by_cases hn : now < u
      · simp only [Enc.same, decide_true, Bool.not_true, Bool.and_false, Bool.not_false, Bool.true_and, hn, if_true, List.map_cons]
        simp only [Enc.same] at hr
        rw [hr]
        exact List.perm_append_comm (l₁ := [a])
      · simp only [Enc.same, hn, decide_false, Bool.and_false, if_false, List.append_nil, Bool.false_eq_true]
        simp only [Enc.same] at hr
        rw [hr]
    · have hm' : (a, u) ∈ r := by
        rcases List.mem_cons.1 hm with e | e
        · exact absurd (by rw [← e]) he
        · exact e
      have ih := cameA_step (now := now) hl h2 hm'
      have e0 : (left (eI.ek p.1) && !(eI.ek p.1).sameKey (eI.ek a)) = left (eI.ek p.1) := by simp [Enc.same, he]
      unfold cameA at ih ⊢
      rw [List.filter_cons, List.filter_cons]
      simp only [e0]
      split
      · rw [List.map_cons, List.map_cons, List.cons_append]
        exact ih.cons _
      · exact ih
theorem cameA_start {now : Int} {l : List (Int × Int)} : cameA now l (Maps.has (.map (eI.enc l))) = [] := by
  unfold cameA
  rw [List.map_eq_nil_iff, List.filter_eq_nil_iff]
  intro p hp
  have h1 : Maps.has (DataW.map (eI.enc l)) (eI.ek p.1) = true := by
    rw [Enc.has]
    cases hg : getK p.1 l with
    | none => exact absurd rfl ((getK_none p.1).1 hg p hp)
    | some v => rfl
  rw [h1]
  simp
theorem cameA_end {now : Int} {l : List (Int × Int)} {left : Lit → Bool} (h : ∀ k, left k = false) : cameA now l left = getA now l := by
  unfold cameA getA
  congr 1
  refine List.filter_congr fun p _ => ?_
  rw [h]
  rfl
theorem len_came (now : Int) (l : List (Int × Int)) (left : Lit → Bool) : (cameA now l left).length ≤ l.length := by
  unfold cameA
  rw [List.length_map]
  exact List.length_filter_le _ _
theorem sort_le : ∀ {zs L : List Int}, zs.Perm L → zs.Pairwise (fun a b => a ≤ b) → L.Pairwise (fun a b => a ≤ b) → zs = L
  | [], L, hp, _, _ => by rw [List.nil_perm] at hp; exact hp.symm
  | a :: zs, [], hp, _, _ => by rw [List.perm_nil] at hp; exact hp
  | a :: zs, b :: L, hp, h1, h2 => by
    obtain ⟨a1, a2⟩ := List.pairwise_cons.1 h1
    obtain ⟨b1, b2⟩ := List.pairwise_cons.1 h2
    have e : a = b := by
      have e1 : b ≤ a := by
        rcases List.mem_cons.1 (hp.mem_iff.1 (List.mem_cons_self (a := a) (l := zs))) with e | e
        · omega
        · exact b1 a e
      have e2 : a ≤ b := by
        rcases List.mem_cons.1 (hp.mem_iff.2 (List.mem_cons_self (a := b) (l := L))) with e | e
        · omega
        · exact a1 b e
      omega
    subst e
    rw [sort_le ((List.perm_cons a).1 hp) a2 b2]
theorem sort_eq {zs L : List Int} (hp : zs.Perm L) (hL : L.Pairwise fun a b => a < b) : (zs.mergeSort fun a b => decide (a ≤ b)) = L := by
  refine sort_le ((List.mergeSort_perm zs _).trans hp) ?_ (hL.imp fun h => by omega)
  have := List.pairwise_mergeSort (le := fun a b : Int => decide (a ≤ b)) (fun a b c h1 h2 => by simp at *; omega) (fun a b => by simp; omega) zs
  exact this.imp fun h => by simpa using h
theorem getA_rise {now : Int} {l : List (Int × Int)} (h : l.Pairwise fun p q => eI.lt p.1 q.1 = true) : (getA now l).Pairwise fun a b => a < b := by
  unfold getA
  rw [List.pairwise_map]
  exact (h.filter _).imp fun h => by rw [lt_eI] at h; simpa using h
/-- A range over a map of numbers under way. -/
abbrev RgI (W : World) (b r : Nat) (l : List (Int × Int)) (left : Lit → Bool) (cnt : Nat) : Prop := W.ranges Try.prog Tin (plainElem Try.prog Tin) b r l.length (.map (eI.enc l)) left cnt
theorem rng_ne {W : World} {base b r cnt : Nat} {e : TypeId} {v : Value} {xs : List Value} {l : List (Int × Int)} {left : Lit → Bool} (h : RgI W b r l left cnt) (ho : Owns W base e v xs) : some b ≠ v.ownBlock ∧ some r ≠ v.ownBlock := by
  obtain ⟨es, clock, since, seen, c0, hb, _, _, _, hr, _⟩ := h
  constructor
  · intro q
    obtain ⟨cs, hc⟩ := owns_tag ho b q.symm
    rw [hb] at hc
    simp at hc
  · intro q
    obtain ⟨cs, hc⟩ := owns_tag ho r q.symm
    rw [hr] at hc
    simp at hc
theorem rng_get {W : World} {b r cnt : Nat} {l : List (Int × Int)} {left : Lit → Bool} {a c : Int} (_h : RgI W b r l left cnt) (hat : ∀ zd, (DataW.map (eI.enc l)).atKey (.int .i64 a) zd = .lit (.int .i64 c)) : getK a l = some c := by
  have h1 := hat .nil
  rw [show (Lit.int .i64 a) = eI.ek a from rfl, Enc.atKey] at h1
  cases hg : getK a l with
  | none => rw [hg] at h1; simp at h1
  | some v =>
    rw [hg] at h1
    simp only [Option.map_some, Option.getD_some, eI, DataW.lit.injEq, Lit.int.injEq, true_and] at h1
    rw [h1]
section
variable {W : World} {t g : Nat} {T : PT} {x : List UInt8} {now : Int}
attribute [local go_sem ↓] ld_id
set_option maxHeartbeats 2000000 in
set_option maxRecDepth 100000 in
theorem get_some {b : Nat} {l : List (Int × Int)} (h : Ptb W t g T) (hx : x.length = 32) (hn : getK x T = some (b, l)) : Calls Try.prog 17 #[.pointer (some ⟨t, 0, none⟩), nmV x, iv now] W fun e w' =>
    ∃ v, e = .returned v ∧ Owns w' W.heap.size Tin v ((getA now l).map iv) ∧ Below W.heap.size W w' := by
  have hmem := (mem_getK h.uniq x (b, l)).1 hn
  have hT1 := h.below (belowSelf W (.cells (x.map byteV).toArray TI))
  have HM := Lib.hid (Mem.new W TI (x.map byteV))
  have hld := ld_id_at (HM.out.drew) hx
  have hc0 : (W.alloc (.cells (x.map byteV).toArray TI)).drew.cell? ⟨t, 0, none⟩ = some (.map (some g)) := hT1.tag.cell 0
  have hlk : (Instr.lookup Tmim (.map (some g)) (nmV x) false).run Try.prog (W.alloc (.cells (x.map byteV).toArray TI)).drew = .ok (.map (some b)) (W.alloc (.cells (x.map byteV).toArray TI)).drew := by
    have := MpN.look (W := (W.alloc (.cells (x.map byteV).toArray TI)).drew) hT1.out hx
    rw [nb_get, hn] at this
    exact this
  have hin : MpI (W.alloc (.cells (x.map byteV).toArray TI)).drew b l := hT1.inn _ hmem
  have HU := Lib.hid (hin.uniq keyedI)
  have HR := Lib.hid (hin.rise keyedI)
  have HL8 := Lib.hid (show l.length ≤ 8 from h.few8 _ hmem)
  have HBS := Lib.hid (show b < W.heap.size from (h.inn _ hmem).lt)
  obtain ⟨W2, hrg, hrs, hgr, hsz⟩ := World.ownsMap.range hin keyedI Try.underlying53
  have HRS := Lib.hid (show RgI W2 b (W.heap.size + 1) l (Maps.has (.map (eI.enc l))) (Maps.size (DataW.map (eI.enc l))) by simpa using hrs)
  have HB2 := Lib.hid (show Below W.heap.size W W2 from (belowSelf W (.cells (x.map byteV).toArray TI)).trans ⟨hgr.os, hgr.tape, hgr.output, by have := hgr.size; simp at this ⊢; omega, fun k hk => hgr.block k (by simp; omega) (by simp)⟩)
  have hrg' : (Instr.range Tmii (.map (some b))).run Try.prog (W.alloc (.cells (x.map byteV).toArray TI)).drew = .ok (.pointer (some ⟨W.heap.size + 1, 0, none⟩)) W2 := by simpa using hrg
  obtain ⟨ti, hti, hz, hs1, hby⟩ := int_inf
  have HTI := Lib.hid hti
  have HZ := Lib.hid hz
  have HS1 := Lib.hid hs1
  have HBY : ti.bytes ≤ 64 := by omega
  have HSZ := Lib.hid (show W.heap.size ≤ W2.heap.size from HB2.out.size)
  clear h hT1 hin hmem hrs hgr hsz hrg hn hx hti hz hs1 hby
  go_enter Try.func17, Try.ntmps17
  go_wp2_with fail
  go_region
  rename_i K hK
  refine hK _ _ ?_
  clear hK K hld hc0 hlk hrg'
  go_wp2_with fail
  go_loopw [7] (fun v wr => ∃ (left : Lit → Bool) (cnt : Nat) (zs : List Int), Hid (RgI wr b (W.heap.size + 1) l left cnt) ∧ Hid (Owns wr W.heap.size Tin v (zs.map iv)) ∧ Hid (zs.Perm (cameA now l left)) ∧ Hid (Below W.heap.size W wr)) (fun _ wr => wr.rangeLeft b (W.heap.size + 1))
  case atStart => exact ⟨_, _, [], HRS, Lib.hid (Owns.nil _ _ _), Lib.hid (by rw [cameA_start]), HB2⟩
  case round =>
    obtain ⟨left, cnt, zs, HRG, HO, HP, HB⟩ := hrel
    clear HRS HB2
    go_wp2_with (first
      | (at_next; refine wpList_next_ranges_ii _ rfl _ rfl Tin Tin .i64 .i64 keyedI Try.underlying3 Try.underlying3 b (W.heap.size + 1) l.length _ left cnt rfl HRG.out ?_ ?_)
      | fail)
    · intro _ hl0
      have HS := Lib.hid (sort_any HO.out (by have := HP.out.length_eq; have := len_came now l left; have := HL8.out; omega))
      have HE := Lib.hid (sort_eq HP.out (by rw [cameA_end hl0]; exact getA_rise HR.out))
      have HE2 := Lib.hid (cameA_end (now := now) (l := l) hl0)
      clear hl0
      go_wp2_with fail
      refine HS.out.mono ?_
      rintro e w1 ⟨rfl, ho, hg⟩
      have HO2 := Lib.hid ho
      have HB2 := Lib.hid (show Below W.heap.size W w1 from below_own HB.out hg (fun g hg => (HO.out.lt g hg).2))
      clear ho hg
      go_wp2_with fail
      go_ret
      exact ⟨_, rfl, by rw [← HE2.out, ← HE.out]; exact HO2.out, HB2.out⟩
    · intro a c w1 cnt1 hwa hwc hla hat hrg1 hlt1 hg1 hs1 hen
      have HG := Lib.hid (rng_get HRG.out hat)
      have HLA := Lib.hid hla
      have HRG1 := Lib.hid hrg1
      have HLT := Lib.hid hlt1
      have HB1 := Lib.hid (show Below W.heap.size W w1 from belowNew HB.out hg1 (by omega))
      have hne1 : some (W.heap.size + 1) ≠ u7.ownBlock := (rng_ne HRG.out HO.out).2
      have HO1 := Lib.hid (show Owns w1 W.heap.size Tin u7 (zs.map iv) from HO.out.of_below fun k hk => hg1.block k (HO.out.lt k hk).1 (fun e => hne1 (by rw [hk]; exact e.symm)))
      have HP1 := Lib.hid (cameA_step (now := now) HLA.out HU.out ((mem_getK HU.out a c).1 HG.out))
      clear hwa hwc hla hat hrg1 hlt1 hg1 hs1 hne1
      by_cases hc : c > now
      · have hd : decide (c > now) = true := by simpa using hc
        have HC := Lib.hid (show now < c from hc)
        clear hc
        have HONE := Lib.hid (show ∀ u ∈ [iv a], u.oneCell' = true from by simp [one_int])
        have HLEN := Lib.hid (show (zs.map iv).length + [iv a].length ≤ 1099511627776 by have := HP.out.length_eq; have := len_came now l left; have := HL8.out; simp; omega)
        go_wp2_with (first
          | (at_builtin; refine wp_append_gr (HO1.out.alloc _) [iv a] (.tmp 25) (.tmp 27) Tis ti (iv 0) rfl rfl Try.underlying41 HTI.out HZ.out HS1.out HBY rfl rfl rfl (fun j u hu => cell_news_one _ _ _ j u hu) HONE.out HLEN.out (by have := HB1.out.size; simp; omega) ?_
             intro v2 w2 ho2 hg2 hat2
             have hr2 : some b ≠ u7.ownBlock ∧ some (W.heap.size + 1) ≠ u7.ownBlock := rng_ne HRG1.out HO1.out
             have HRG2 := Lib.hid (World.ranges.kept (HRG1.out.alloc (.cells #[iv a] Tin)) hg2 hr2.1 hr2.2)
             have HO2 := Lib.hid (show Owns w2 W.heap.size Tin v2 ((zs ++ [a]).map iv) by rw [List.map_append]; exact ho2)
             have HB2 := Lib.hid (show Below W.heap.size W w2 from below_own (belowThen HB1.out (belowSelf w1 _)) hg2 (fun g hg => (HO1.out.lt g hg).2))
             clear ho2 hg2 hat2 hr2)
          | fail)
        go_roundw
        case rel =>
          refine ⟨_, _, zs ++ [a], HRG2, HO2, Lib.hid ?_, HB2⟩
          have := HP1.out
          rw [if_pos HC.out] at this
          exact (HP.out.append_right [a]).trans this.symm
        case measure => rw [HRG2.out.left_eq, HRG.out.left_eq]; exact HLT.out
      · have hd : decide (c > now) = false := by simpa using hc
        have HC := Lib.hid (show ¬ now < c from hc)
        go_wp2_with fail
        go_roundw
        case rel =>
          refine ⟨_, _, zs, HRG1, HO1, Lib.hid ?_, HB1⟩
          have := HP1.out
          rw [if_neg HC.out, List.append_nil] at this
          exact HP.out.trans this.symm
        case measure => rw [HRG1.out.left_eq, HRG.out.left_eq]; exact HLT.out
set_option maxHeartbeats 2000000 in
set_option maxRecDepth 100000 in
theorem get_none (h : Ptb W t g T) (hx : x.length = 32) (hn : getK x T = none) : Calls Try.prog 17 #[.pointer (some ⟨t, 0, none⟩), nmV x, iv now] W fun e w' =>
    ∃ v, e = .returned v ∧ Owns w' W.heap.size Tin v [] ∧ Below W.heap.size W w' := by
  have hT1 := h.below (belowSelf W (.cells (x.map byteV).toArray TI))
  have HM := Lib.hid (Mem.new W TI (x.map byteV))
  have hld := ld_id_at (HM.out.drew) hx
  have hc0 : (W.alloc (.cells (x.map byteV).toArray TI)).drew.cell? ⟨t, 0, none⟩ = some (.map (some g)) := hT1.tag.cell 0
  have hlk : (Instr.lookup Tmim (.map (some g)) (nmV x) false).run Try.prog (W.alloc (.cells (x.map byteV).toArray TI)).drew = .ok (.map none) (W.alloc (.cells (x.map byteV).toArray TI)).drew := by
    have := MpN.look (W := (W.alloc (.cells (x.map byteV).toArray TI)).drew) hT1.out hx
    rw [nb_get, hn] at this
    exact this
  have hrg := run_range_nilMap (P := Try.prog) (W.alloc (.cells (x.map byteV).toArray TI)).drew Tmii _ _ Try.underlying53
  obtain ⟨W9, hW9⟩ : ∃ W9, W9 = ((W.alloc (.cells (x.map byteV).toArray TI)).alloc (.mapIter none 0 #[] 0)).drew := ⟨_, rfl⟩
  have hnx : ∀ ty, (Instr.next (.pointer (some ⟨W.heap.size + 1, 0, none⟩)) false ty).run Try.prog W9 = .ok (.tuple #[.bool false]) W9 := fun ty => by
    have := run_next_nilMap (P := Try.prog) (W.alloc (.cells (x.map byteV).toArray TI)).drew ty 0 0 #[]
    rw [hW9, show ((W.alloc (.cells (x.map byteV).toArray TI)).alloc (.mapIter none 0 #[] 0)).drew = (W.alloc (.cells (x.map byteV).toArray TI)).drew.alloc (.mapIter none 0 #[] 0) from rfl]
    simpa using this
  have HB := Lib.hid (show Below W.heap.size W W9 from by
    rw [hW9]
    exact below_drewB (((belowSelf W _).alloc (by simp) _)))
  have HS := Lib.hid (fun w => sort_any (w := w) (base := W.heap.size) (zs := []) (Owns.nil w W.heap.size Tin) (by simp))
  clear h hT1 hn hx
  go_enter Try.func17, Try.ntmps17
  go_wp2_with fail
  go_region
  rename_i K hK
  refine hK _ _ ?_
  clear hK K hld hc0 hlk hrg
  go_wp2_with fail
  rw [← hW9]
  clear hW9
  go_loopw [7] (fun v wr => v = .slice none 0 0 ∧ wr = W9) (fun _ _ => 0)
  case atStart => exact ⟨rfl, rfl⟩
  case round =>
    obtain ⟨rfl, rfl⟩ := hrel
    go_wp2_with fail
    refine (HS.out _).mono ?_
    rintro e w1 ⟨rfl, ho, hg⟩
    have HO2 := Lib.hid ho
    have HB2 := Lib.hid (show Below W.heap.size W w1 from below_own HB.out hg (fun g hg => by cases hg))
    clear ho hg
    go_wp2_with fail
    go_ret
    exact ⟨_, rfl, by simpa using HO2.out, HB2.out⟩
theorem get_any {F : Nat → Prop} {V : PV} (h : Pv W F t V) (hx : x.length = 32) : Calls Try.prog 17 #[.pointer (some ⟨t, 0, none⟩), nmV x, iv now] W fun e w' =>
    ∃ v, e = .returned v ∧ Owns w' W.heap.size Tin v ((getV x now V).map iv) ∧ Below W.heap.size W w' := by
  obtain ⟨g, T, hT, rfl, hF⟩ := h
  unfold getV
  rw [vw_get]
  cases hg : getK x T with
  | none => exact get_none hT hx hg
  | some p => exact get_some hT hx hg
end
end Go.Proofs.Ytilmidddhkofaaa

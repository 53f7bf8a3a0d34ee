/-
  maps.Keys of a map of maps by names: its iterator.
-/
import Derived.Test.YtilmidddhkofaaaPm7
import Derived.Test.YtilmidddhkofaaaBrg2
import Derived.Test.YtilmidddhkofaaaRow
import Derived.RangeFuncNested
import Derived.RangeFuncBound
import Derived.RangeFuncSeq
import Derived.RangeFuncStops
import Derived.Maps.OwnIn
import Derived.Sort.MapsRangeIn
import Derived.Shelf.RegionOpen
import Derived.OwnWalkIn
import Derived.TacticsInMore
import Derived.LoopNIn
import Derived.LoopIn
namespace Go.Proofs.Ytilmidddhkofaaa
open Go.RowKit Go.Maps Crv
attribute [local go_sem] Oper.semAt_some

/-- A name. -/
abbrev NM : Type := { x : List UInt8 // x.length = 32 }
instance : Inhabited NM := ⟨⟨List.replicate 32 0, rfl⟩⟩
/-- The keys that a range has given already. -/
def cameN (l : List (List UInt8 × Nat)) (left : Lit → Bool) : List (List UInt8) := (l.filter fun p => !left (eN.ek p.1)).map (·.1)
theorem cameN_step {x : List UInt8} {b : Nat} {left : Lit → Bool} (hl : left (eN.ek x) = true) : ∀ {l : List (List UInt8 × Nat)}, Uniq l → (x, b) ∈ l → (cameN l fun z => left z && !z.sameKey (eN.ek x)).Perm (cameN l left ++ [x])
  | [], _, hm => by simp at hm
  | p :: r, hu, hm => by
    obtain ⟨h1, h2⟩ := List.pairwise_cons.1 hu
    by_cases he : p.1 = x
    · have hr : (cameN r fun z => left z && !z.sameKey (eN.ek x)) = cameN r left := by
        unfold cameN
        congr 1
        refine List.filter_congr fun q hq => ?_
        have hqa : q.1 ≠ x := fun e => h1 q hq (he.trans e.symm)
        simp [Enc.same, hqa]
      have e1 : cameN (p :: r) left = cameN r left := by
        unfold cameN
        rw [List.filter_cons, he, hl]
        rfl
      rw [e1]
      unfold cameN at hr ⊢
      rw [List.filter_cons]
      simp only [he, Enc.same, decide_true, Bool.not_true, Bool.and_false, Bool.not_false, if_true, List.map_cons]
      simp only [Enc.same] at hr
      rw [hr]
      exact List.perm_append_comm (l₁ := [x])
    · have hm' : (x, b) ∈ r := by
        rcases List.mem_cons.1 hm with e | e
        · exact absurd (by rw [← e]) he
        · exact e
      have ih := cameN_step hl h2 hm'
      have e0 : (left (eN.ek p.1) && !(eN.ek p.1).sameKey (eN.ek x)) = left (eN.ek p.1) := by simp [Enc.same, he]
      unfold cameN at ih ⊢
      rw [List.filter_cons, List.filter_cons]
      simp only [e0]
      split
      · rw [List.map_cons, List.map_cons, List.cons_append]
        exact ih.cons _
      · exact ih
theorem cameN_start {l : List (List UInt8 × Nat)} : cameN l (Maps.has (.map (eN.enc l))) = [] := by
  unfold cameN
  rw [List.map_eq_nil_iff, List.filter_eq_nil_iff]
  intro p hp
  have h1 : Maps.has (DataW.map (eN.enc l)) (eN.ek p.1) = true := by
    rw [Enc.has]
    cases hg : getK p.1 l with
    | none => exact absurd rfl ((getK_none p.1).1 hg p hp)
    | some v => rfl
  rw [h1]
  simp
theorem cameN_end {l : List (List UInt8 × Nat)} {left : Lit → Bool} (h : ∀ k, left k = false) : cameN l left = l.map (·.1) := by
  unfold cameN
  congr 1
  rw [List.filter_eq_self]
  intro p _
  rw [h]
  rfl
theorem cameN_less {l : List (List UInt8 × Nat)} {left : Lit → Bool} {x : List UInt8} {b : Nat} (hl : left (eN.ek x) = true) (hm : (x, b) ∈ l) : (cameN l left).length < l.length := by
  unfold cameN
  rw [List.length_map]
  exact List.length_filter_lt_length_iff_exists.2 ⟨_, hm, by simp [hl]⟩
section
variable {F : Fence} {nF : Nat} {W : World} {g r n cnt : Nat} {l : List (List UInt8 × Nat)} {left : Lit → Bool} {ops : Array Oper} {rest : List Oper} {o : Oper} {a : Act} {Q : Exit → Act → World → Prop}
theorem wpListIn_next_n (h : RgN W g r n l left cnt) (hl : ∀ p ∈ l, p.1.length = 32) (it : Operand) (hg : o.guard = none) (hop : o.op = Op.next it false) (hit : a.eval it = .pointer (some ⟨r, 0, none⟩))
    (hDone : (∀ kl, left kl = false) → wpListIn F nF Try.prog ops Q rest (a.put o.dst (.tuple #[.bool false])) W)
    (hMore : ∀ (x : List UInt8) (b : Nat) (w' : World) (cnt' : Nat), (x, b) ∈ l → left (eN.ek x) = true → RgN w' g r n l (fun z => left z && !z.sameKey (eN.ek x)) cnt' → cnt' < cnt → W.grownBy w' (some r) → w'.heap.size = W.heap.size →
      (Instr.entry (.pointer (some ⟨r, 0, none⟩))).run Try.prog w' = .ok (.tuple #[nmV x, .map (some b)]) w' → wpListIn F nF Try.prog ops Q rest (a.put o.dst (.tuple #[.bool true, nmV x, .map (some b)])) w') : wpListIn F nF Try.prog ops Q (o :: rest) a W := by
  refine wpListIn_plain hg fun K' hK' => ?_
  unfold Oper.wpIn
  refine ⟨by simp [Oper.about, hop], ?_⟩
  rw [Oper.semAt_plain F _ _ (by rw [hop]; intro c hc'; cases hc')]
  rcases h.next hl o.type with ⟨h1, hrun⟩ | ⟨x, b, w', cnt', hp, hlk, hrun, hrg, hlt, hgr, hsz, hen⟩
  · simp [execOp, hop, hit, hrun, Result.andThen]
    exact hK' _ _ (hDone h1)
  · simp [execOp, hop, hit, hrun, Result.andThen]
    exact hK' _ _ (hMore x b w' cnt' hp hlk hrg hlt hgr hsz hen)
end
theorem wpListIn_store_genW {P : Program} {ops : Array Oper} {rest : List Oper} {o : Oper} {a : Act} {w : World} {Q : Exit → Act → World → Prop} {n g : Nat} {t : TypeId} {old : List Value} (hm : Mem w g t old) (cs : List Value) (ty : TypeId) (x y : Operand)
    (hgd : o.guard = none) (ho : o.op = .store ty x y) (hx : a.eval x = .pointer (some ⟨g, 0, none⟩)) (hy : a.eval y = .agg cs.toArray)
    (hi : (P.info? ty).map (·.size) = some cs.length) (hl : old.length = cs.length) (h1 : ∀ v ∈ cs, v.oneCell' = true)
    (h : ∀ W, Mem W g t cs → w.grownBy W (some g) → W.heap.size = w.heap.size → wpListIn Fence.wide n P ops Q rest (a.put o.dst undef) W) : wpListIn Fence.wide n P ops Q (o :: rest) a w :=
  wpListIn_plain hgd fun _ hK => op_ofW (fun _ _ h => h) (by rw [ho]; intro c hc; cases hc) (Go.wp_store_row ty x y ho g cs.toArray hx hy t old.toArray hm (by simpa using hi) (by simpa using hl) (Array.all_eq_true_iff_forall_mem.2 (fun v hv => h1 v (by simpa using hv)))
    (hK _ _ (h _ (hm.setRow cs) (grown_row (grownRefl w _) cs.toArray) (by simp [World.setRow]))))
set_option maxRecDepth 100000 in
theorem keysN_any (g : Nat) (w : World) : Calls Try.prog 28 #[.map (some g)] w fun e w' =>
    e = .returned (.func (.func 36) #[] #[.pointer (some ⟨w.heap.size, 0, none⟩)]) ∧ Mem w' w.heap.size Tmim [.map (some g)] ∧ Below w.heap.size w w' ∧ w'.heap.size = w.heap.size + 1 := by
  go_enter Try.func28, Try.ntmps28
  go_wp2
  exact bodyPost_ret (results_tmp rfl _ _ _) rfl ⟨rfl, Mem.new w Tmim [_], belowSelf w _, by simp⟩
attribute [local go_sem ↓] ld_id
set_option maxRecDepth 100000 in
set_option maxHeartbeats 2000000 in
theorem keys1_stops (n bm g : Nat) (l : List (List UInt8 × Nat)) (w : World) (hn : 1 ≤ n) (hm : Mem w bm Tmim [.map (some g)]) (ho : MpN w g l) (hl : ∀ p ∈ l, p.1.length = 32) :
    SeqStopsK Fence.wide n Try.prog 36 #[.pointer (some ⟨bm, 0, none⟩)] (fun x : NM => #[nmV x.1]) KeepsWalks (fun ss => (ss.map (·.1)).Perm (l.map (·.1))) (fun _ => True) l.length w := fun lp J Jx W hW hJ hJx hY h0 => by
  have hown : MpN W g l := ho.of (hW.block g ho.lt)
  have HU := Lib.hid (hown.uniq keyedN)
  have HL := Lib.hid hl
  have HJ := Lib.hid hJ
  have HY := Lib.hid hY
  have H0 := Lib.hid h0
  have hc : W.cell? ⟨bm, 0, none⟩ = some (.map (some g)) := (hm.below hW hm.lt).cell 0
  clear hJ hJx hY h0 hl ho hm hW
  refine callsIn_of_wp Try.func36 rfl trivial ?_ rfl
  simp only [Try.ntmps36, List.size_toArray, List.length_cons, List.length_nil, Nat.reduceAdd, Nat.reduceSub, Array.replicate_succ, Array.replicate_zero, List.push_toArray, List.append_toArray, List.nil_append, List.cons_append]
  gi_wp2_with (first
    | (gi_at_range; refine wpListIn_range_own _ rfl _ Tmim rfl TI Tmii keyedN Try.underlying55 mapElem g l.length _ rfl hown ?_; intro w0 hrg0 hg0 hs0)
    | gi_in)
  have HRG0 := Lib.hid (show RgN w0 g W.heap.size l.length l (Maps.has (.map (eN.enc l))) (Maps.size (DataW.map (eN.enc l))) from hrg0)
  have HJ0 := Lib.hid (HJ.out [] W w0 none H0.out hg0 (fun r e => by cases e))
  have HSZ0 := Lib.hid (show W.heap.size < w0.heap.size by omega)
  clear hrg0 hg0 hs0 hc H0 hown
  gi_loopw [3] (fun _ wr => ∃ (left : Lit → Bool) (cnt : Nat) (ss : List NM), Hid (RgN wr g W.heap.size l.length l left cnt) ∧ Hid ((ss.map (·.1)).Perm (cameN l left)) ∧ Hid (J ss wr)) (fun _ wr => wr.rangeLeft g W.heap.size)
  case atStart => exact ⟨_, _, [], HRG0, Lib.hid (by rw [cameN_start]; exact List.Perm.nil), HJ0⟩
  case round =>
    obtain ⟨left, cnt, ss, HRG, HP, HJs⟩ := hrel
    clear HRG0 HJ0
    gi_wp2_with (first
      | (gi_at_next; refine wpListIn_next_n HRG.out HL.out (.tmp 5) rfl rfl rfl ?_ ?_)
      | fail)
    · intro hl0
      have HE := Lib.hid (cameN_end (l := l) hl0)
      clear hl0
      gi_wp2_with fail
      go_end0
      exact ⟨⟨_, rfl⟩, .inl ⟨ss, by rw [← HE.out]; exact HP.out, HJs.out⟩⟩
    · intro x b w1 cnt1 hxb hlk hrg1 hlt1 hg1 hs1 hen
      have HRG1 := Lib.hid hrg1
      have HLT1 := Lib.hid hlt1
      have HLK := Lib.hid hlk
      have HXB := Lib.hid hxb
      have HX := Lib.hid (show x.length = 32 from HL.out _ hxb)
      have HJ1 := Lib.hid (HJ.out ss wr w1 (some W.heap.size) HJs.out hg1 (fun r e => by cases e; exact ⟨Nat.le_refl _, World.ranges.iter_walk HRG.out⟩))
      clear hrg1 hlt1 hlk hg1 hs1 hxb
      have HM2 := Lib.hid (show Mem (w1.alloc (.cells zs32 TI)) w1.heap.size TI (List.replicate 32 (byteV 0)) from Mem.new w1 TI (List.replicate 32 (byteV 0)))
      have SZ := Lib.hid (sz_id x HX.out)
      have HZ := Lib.hid (show (List.replicate 32 (byteV 0)).length = (x.map byteV).length by rw [List.length_map, HX.out]; rfl)
      have ONE := Lib.hid (oneBytes x)
      gi_wp2_with (first
        | (refine wpListIn_store_genW HM2.out (x.map byteV) TI (.tmp 3) (.tmp 9) rfl rfl rfl rfl SZ.out HZ.out ONE.out ?_
           intro w3 hm3 hg3 hs3
           have hld := ld_id_at hm3 HX.out
           have HB3 := Lib.hid (show Below w1.heap.size w1 w3 from belowNew (belowSelf w1 _) hg3 (Nat.le_refl _))
           obtain ⟨fn, tmps, assign, body, hyy, hR⟩ := HY.out ss ⟨x, HX.out⟩ w3 (HJ.out ss w1 w3 none HJ1.out (grownOfBelow HB3.out) (fun r e => by cases e)) (by
             have h1 := HP.out.length_eq
             have h2 := cameN_less HLK.out HXB.out
             rw [List.length_map] at h1
             omega)
           have HRR := Lib.hid hR
           clear hm3 hg3 hs3 hR)
        | fail)
      have HRG3 := Lib.hid (World.ranges.kept HRG1.out (grownOfBelow (row := none) HB3.out) (by simp) (by simp))
      have HP3 := Lib.hid (show ((ss ++ [(⟨x, HX.out⟩ : NM)]).map (·.1)).Perm (cameN l fun z => left z && !z.sameKey (eN.ek x)) from by
        rw [List.map_append]
        exact (HP.out.append_right [x]).trans (cameN_step HLK.out HU.out HXB.out).symm)
      clear hyy hld hen
      refine HRR.out.mono ?_
      rintro e W5 (⟨rfl, hJ5, hk5⟩ | ⟨rfl, hJx5⟩)
      · have HJ5 := Lib.hid hJ5
        have HRG5 := Lib.hid (World.ranges.of_walks HRG3.out hk5)
        clear hJ5 hk5
        gi_wp2_with fail
        go_roundw
        case rel => exact ⟨_, cnt1, _, HRG5, HP3, HJ5⟩
        case measure => rw [HRG5.out.left_eq, HRG.out.left_eq]; exact HLT1.out
      · have HJX := Lib.hid hJx5
        clear hJx5
        gi_wp2_with fail
        refine bodyPost_ret (results_none rfl _ _ _) rfl ?_
        exact ⟨⟨_, rfl⟩, .inr ⟨_, trivial, HJX.out⟩⟩
end Go.Proofs.Ytilmidddhkofaaa

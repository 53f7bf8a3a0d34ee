/-
  SectorPlays: the law's fuse, loose.
-/
import Derived.Test.YtjmmbafpiahhiaaSec19
namespace Go.Proofs.Ytjmmbafpiahhiaa
open Go.RowKit Go.Maps Go.Sort Go.Shelf Crv

section
variable {w : World} {fb cb mb db sz : Nat} {a : Bool} {k : Int} {bs : List UInt8} {n : Nat} {D : DataW Unit}
theorem tag_not {w : World} {g b : Nat} {t t' : TypeId} {cs : List Value} {cs' : Array Value} (h : Mem w g t cs) (h' : w.heap[b]? = some (Obj.cells cs' t' (0, 0))) (hne : t ≠ t') : b ≠ g := by
  rintro rfl
  rw [show w.heap[b]? = some (Obj.cells cs.toArray t (0, 0)) from h] at h'
  injection h' with h'
  injection h' with _ h'
  exact hne h'
theorem own_only {w' : World} {B : Nat} {T : TypeId} {v : Value} {xs : List Value} (h : Owns w B T v xs) (hd : Dk w fb cb mb db sz a k bs n D) (ho : Only [fb, cb, mb] w w') (h1 : TF ≠ T) (h2 : TB ≠ T) : Owns w' B T v xs :=
  h.of_below fun g hg => ho.2 g (h.lt g hg).1 (by
    obtain ⟨cs, ht⟩ := own_tag h g hg
    simp only [List.mem_cons, List.not_mem_nil, or_false, not_or]
    refine ⟨tag_not hd.f ht h1, tag_not hd.c ht h2, ?_⟩
    rintro rfl
    obtain ⟨es, clock, hb, _⟩ := hd.m
    rw [hb] at ht
    cases ht)
theorem Rf.only {w' : World} {v : Value} {bs2 : List UInt8} {du : Tab} {f : Int} (h : Rf w v sz bs2 du f) (hd : Dk w fb cb mb db sz a k bs n D) (ho : Only [fb, cb, mb] w w') : Rf w' v sz bs2 du f := by
  obtain ⟨aS, aN, aL, cS, cN, cL, h1, h2, h3, h4⟩ := h
  exact ⟨aS, aN, aL, cS, cN, cL, h1, own_only h2 hd ho (by decide) (by decide), own_only h3 hd ho (by decide) (by decide), own_only h4 hd ho (by decide) (by decide)⟩
set_option maxRecDepth 100000 in
set_option maxHeartbeats 400000 in
theorem fuse_any (v : Value) (bs2 : List UInt8) (du : Tab) (h : Dk w fb cb mb db sz a k bs n D) (hr : Rf w v sz bs2 du (fuseF a k)) (h0 : a = false → k = 0) :
    Calls Try.prog 13 #[ptr db, v] w fun e w' => e = .returned (.bool true) ∧ Below w.heap.size w w' := by
  obtain ⟨a1, a2, a3, c1, c2, c3, rfl, -, -, -⟩ := hr
  have hd0 : w.cell? ⟨db, 0, none⟩ = some (ptr fb) := h.d.cell 0
  have hdl := h.d.lt
  have hk := h.kin
  have HAR := Lib.hid (armed_any (h.below (belowSelf w (.cells (rdC a1 a2 a3 c1 c2 c3 sz (fuseF a k)).toArray TRd))))
  have HM := Lib.hid (Mem.new w TRd (rdC a1 a2 a3 c1 c2 c3 sz (fuseF a k)))
  clear h
  cases a with
  | false =>
    have hk0 := h0 rfl
    subst hk0
    rw [show fuseF false 0 = -1 from rfl] at HAR HM
    rw [show fuseF false 0 = -1 from rfl]
    clear h0
    go_enter Try.func13, Try.ntmps13
    go_wp2_with fail
    refine HAR.out.mono ?_
    rintro e w1 ⟨rfl, hb1⟩
    have n3 : w1.cell? ⟨w.heap.size, 3, none⟩ = some (.int .i64 (-1)) := (HM.out.below hb1 HM.out.lt).cell 3
    go_wp2_with fail
    go_ret
    exact ⟨rfl, belowThen (belowSelf w _) hb1⟩
  | true =>
    rw [show fuseF true k = k from rfl] at HAR HM
    rw [show fuseF true k = k from rfl]
    have e1 : decide (0 ≤ k) = true := by simpa using hk.1
    have HMX := Lib.hid (show max k 0 = k by omega)
    clear h0
    go_enter Try.func13, Try.ntmps13
    go_wp2_with fail
    refine HAR.out.mono ?_
    rintro e w1 ⟨rfl, hb1⟩
    have n3 : w1.cell? ⟨w.heap.size, 3, none⟩ = some (.int .i64 k) := (HM.out.below hb1 HM.out.lt).cell 3
    go_wp2_with fail
    go_ret
    exact ⟨by first | rfl | (rw [HMX.out]; simp) | simp [HMX.out], belowThen (belowSelf w _) hb1⟩
set_option maxRecDepth 100000 in
set_option maxHeartbeats 600000 in
theorem lawloose_any (v : Value) (bs2 : List UInt8) (du : Tab) (f : Int) (h : Dk w fb cb mb db sz a k bs n D) (hn : n ≤ 1000000) (hdu : Du D du sz) (hr : Rf w v sz bs2 du f) :
    Calls Try.prog 14 #[ptr db, v] w fun e w' => e = .returned (.bool true) ∧ Below w.heap.size w w' := by
  obtain ⟨a1, a2, a3, c1, c2, c3, rfl, -, -, hL⟩ := hr
  have hm := h.most
  have HLO := Lib.hid (loose_any (h.below (belowSelf w (.cells (rdC a1 a2 a3 c1 c2 c3 sz f).toArray TRd))) hn)
  have HM := Lib.hid (Mem.new w TRd (rdC a1 a2 a3 c1 c2 c3 sz f))
  have HL := Lib.hid hL
  have HSRT := Lib.hid (fun ss hs => sort_looseL (ss := ss) hdu h.m hs)
  clear h hL
  go_enter Try.func14, Try.ntmps14
  go_wp2_with fail
  refine HLO.out.mono ?_
  rintro e w1 ⟨vl, ss, rfl, hperm, hrow, -, hb1⟩
  rw [HSRT.out ss hperm] at hrow
  have hlen : ss.length = (looseL du sz).length := by
    have := congrArg List.length (HSRT.out ss hperm)
    rw [List.length_mergeSort, List.length_map] at this
    exact this
  have HZ := Lib.hid (Zs.of_row hrow (by rw [List.length_map]; exact hlen))
  obtain ⟨al, cl, hvl, -⟩ := HZ.out
  rw [List.length_map, looseL_full] at hvl
  subst hvl
  have HB1 := Lib.hid (belowThen (belowSelf w (.cells (rdC a1 a2 a3 c1 c2 c3 sz f).toArray TRd)) hb1)
  have n2 : w1.cell? ⟨w.heap.size, 2, none⟩ = some (.slice a3 sz c3) := (HM.out.below hb1 HM.out.lt).cell 2
  have hcs := cntS_le du sz
  clear hperm hrow hb1 hlen HLO
  go_wp2_with fail
  go_loopw [6, 7, 8, 14] (fun c _ _ x wr => ∃ q : Nat, q ≤ sz ∧ x = .int .i64 (q : Int) ∧ c = .int .i64 (cntS du q : Int) ∧ w1 = wr) (fun _ _ _ x _ => sz - (intOf x).toNat)
  case atStart => exact ⟨0, by omega, rfl, rfl, rfl⟩
  case round =>
    obtain ⟨q, hq, rfl, rfl, rfl⟩ := hrel
    by_cases hlt : q < sz
    · have hd : decide (q < sz) = true := by simpa using hlt
      obtain ⟨gl, rfl, cL, -, -⟩ := own_cell (HL.out.below HB1.out) hlt
      have hcq := cntS_succ du q
      have hcl := cntS_le du q
      by_cases hlo : (du q).isSome = true
      · rw [if_pos hlo] at hcq
        have hL1 : w1.cell? ⟨gl, q, none⟩ = some (.bool true) := by rw [cL, show looseF du q = true from hlo]
        have hat := looseL_at hlt hlo
        have hil := (List.getElem?_eq_some_iff.1 hat).1
        rw [looseL_full] at hil
        obtain ⟨al', cl', hv', hc'⟩ := HZ.out
        rw [List.length_map, looseL_full] at hv' hc'
        injection hv' with e1 e2 e3
        obtain ⟨gz, oz, hgz, hcz⟩ := hc' (cntS du q) hil
        rw [← e1] at hgz
        subst hgz
        rw [List.getD_eq_getElem?_getD, List.getElem?_map, hat] at hcz
        have hcz' : w1.cell? ⟨gz, oz + cntS du q, none⟩ = some (.int .i64 (q : Int)) := hcz
        have hd2 : decide (cntS du sz ≤ cntS du q) = false := by simpa using hil
        have hd3 : decide (cntS du q < cntS du sz) = true := by simpa using hil
        clear e1 e2 e3 hc' hcz hat cL hlo
        go_wp2_with fail
        go_roundw
        case rel => exact ⟨q + 1, by omega, by go_num, by rw [hcq]; go_num, by first | trivial | rfl⟩
        case measure => simp [intOf]; omega
      · rw [if_neg hlo] at hcq
        have hlo' : (du q).isSome = false := by simpa using hlo
        have hL1 : w1.cell? ⟨gl, q, none⟩ = some (.bool false) := by rw [cL, show looseF du q = false from hlo']
        clear cL hlo hlo'
        go_wp2_with fail
        go_roundw
        case rel => exact ⟨q + 1, by omega, by go_num, by rw [hcq]; rfl, by first | trivial | rfl⟩
        case measure => simp [intOf]; omega
    · have eq : q = sz := by omega
      subst eq
      have hd : decide (q < q) = false := by simp
      go_wp2_with fail
      go_ret
      exact ⟨by simp, HB1.out⟩
end
end Go.Proofs.Ytjmmbafpiahhiaa

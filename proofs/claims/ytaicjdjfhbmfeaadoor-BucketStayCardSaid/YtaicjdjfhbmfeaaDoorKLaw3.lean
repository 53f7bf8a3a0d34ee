/-
  BucketStay: the walk.
-/
import Derived.Test.YtaicjdjfhbmfeaaDoorKLaw2
namespace Go.Proofs.YtaicjdjfhbmfeaaDoor
open Go.RowKit Crv

theorem length_allB_le {x : BS} (h : Inv x) : (allB x 257).length ≤ 1028 := ys_len x h.k4 257
/-- The keys of the law's map are those that are known; so many. -/
def SK (W0 : World) (tb g : Nat) (k : Nat) (x : BS) (w : World) : Prop := noQ x ∧ BT W0 [g] tb x w ∧ ∃ c : Nat → Nat, (∀ j, c j ≤ k) ∧ MpK w g k c (fun j => knowsT x j) (allB x 257).length
theorem BT.less {W0 w : World} {r : Nat} {S : List Nat} {tb : Nat} {x : BS} (h : BT W0 (r :: S) tb x w) : BT W0 S tb x w :=
  ⟨h.b.mono fun _ _ hF => ⟨hF.1, fun hs => hF.2 (List.mem_cons_of_mem _ hs)⟩, h.below, h.c, h.inv, fun s hs => h.s s (List.mem_cons_of_mem _ hs), h.gb⟩
/-- The range over the map under way, beside the table. -/
def RgT (W0 : World) (tb g r k : Nat) (y : BS) (c : Nat → Nat) (cnt : Nat) (w : World) : Prop := RgK w g r k c (fun j => knowsT y j) cnt ∧ BT W0 [r, g] tb y w ∧ MpK w g k c (fun j => knowsT y j) (allB y 257).length
theorem heardT_noneS {x : BS} {n : Int} (h : (heardT x n).2 = none) : stayT x n = (heardT x n).1 := by unfold stayT; rw [h]
theorem heardT_someS {x : BS} {n m : Int} (h : (heardT x n).2 = some m) : stayT x n = (heardT (heardT x n).1 m).1 := by unfold stayT; rw [h]
set_option maxHeartbeats 4000000 in
set_option maxRecDepth 100000 in
theorem bucketStay_walk (own : Int) (v1 : Value) (ks : List Int) (W : World) (hc : Consts W) (hks : Zs W v1 ks) :
    Calls Tryd.prog 4 #[.int .i64 own, v1] W fun e w' => e = .returned (.bool true) ∧ Below W.heap.size W w' := by
  obtain ⟨a, cap, rfl, hk0⟩ := hks
  have HKS := Lib.hid (show Zs W (.slice a ks.length cap) ks from ⟨a, cap, rfl, hk0⟩)
  have HAW := Lib.hid (awake19_any W hc)
  have HGB := Lib.hid (show 3 ≤ W.heap.size from hc.2.lt)
  have HC := Lib.hid hc
  obtain ⟨o, ho, hoo⟩ := sixty own
  clear hc hk0
  go_enter Tryd.func4, Tryd.ntmps4
  go_wp2_with fail
  refine HAW.out.mono ?_
  rintro e w1 ⟨rfl, hb1⟩
  have HN := Lib.hid (fun oo => BT.make (W0 := W) hb1 (HC.out.below hb1) HGB.out oo)
  clear hb1 HAW
  go_wp2_with fail
  refine (HN.out o).mono ?_
  rintro e w2 ⟨tb, rfl, h2⟩
  have H2 := Lib.hid h2
  obtain ⟨g, hg⟩ : ∃ g, g = w2.heap.size := ⟨_, rfl⟩
  have HWG := Lib.hid (show W.heap.size ≤ g by rw [hg]; exact h2.below.size)
  have HM0 : Hid (SK W tb g 0 (newT o) (w2.alloc (.map #[] 0))) := Lib.hid (by
    subst hg
    refine ⟨fun _ => rfl, H2.out.add _, fun _ => 0, fun _ => Nat.le_refl _, ?_⟩
    have e1 : (fun j : Nat => knowsT (newT o) j) = fun _ => false := by funext j; simp [knowsT, newT]
    have e2 : (allB (newT o) 257).length = 0 := by
      have : ∀ m, (allB (newT o) m).length = 0 := fun m => by
        induction m with
        | zero => rfl
        | succ m ih => rw [allB_succ, List.length_append, ih]; rfl
      exact this 257
    rw [e1, e2]
    exact MpK.made w2)
  have HG := Lib.hid hg
  have hmm := @run_makeMap Tryd.prog
  clear h2 HN hg
  go_wp2_with fail
  clear hmm
  have hgg := HG.out
  simp only [← hgg]
  clear hgg HG
  go_loopw [7] (fun i wr => ∃ k : Nat, k ≤ 150 ∧ i = .int .i64 k ∧ Hid (∃ x : BS, SK W tb g k x wr)) (fun i _ => 150 - (intOf i).toNat)
  case atStart => exact ⟨0, by omega, rfl, Lib.hid ⟨newT o, HM0.out⟩⟩
  case round =>
    obtain ⟨k, hk, rfl, HX⟩ := hrel
    obtain ⟨x, hq, hB, c, hc, hM⟩ := HX.out
    have HQ := Lib.hid hq
    have HB := Lib.hid hB
    have HCK := Lib.hid hc
    have HM := Lib.hid hM
    clear HX hq hB hM hc HM0 H2
    by_cases hlt : k < ks.length ∧ k < 150
    · have hd1 : decide ((k : Int) < (ks.length : Int)) = true := by simp; omega
      have hd2 : decide ((k : Int) < 150) = true := by simp; omega
      obtain ⟨b, off, rfl, hkW⟩ := HKS.out.at k hlt.1
      have hl1 : (k : Int) < (ks.length : Int) := by omega
      obtain ⟨n0, hn0⟩ : ∃ n0, n0 = ks.getD k 0 := ⟨_, rfl⟩
      rw [← hn0] at hkW
      have hkc := hkW wr HB.out.below
      obtain ⟨n, hn64, hnn⟩ := sixty n0
      have HH := Lib.hid (HB.out.heard n)
      obtain ⟨y, hy⟩ : ∃ y, y = stayT x n := ⟨_, rfl⟩
      obtain ⟨s1, s2, s3⟩ := stay_known HB.out.inv n
      have s4 := stay_noQ HB.out.inv HQ.out n
      rw [← hy] at s1 s2 s3 s4
      have S1 := Lib.hid s1
      have S2 := Lib.hid s2
      have S3 := Lib.hid s3
      have S4 := Lib.hid s4
      have HY := Lib.hid hy
      clear hkW hn0 s1 s2 s3 s4 hy
      cases hh : (heardT x n).2 with
      | none =>
        rw [hh] at HH
        have HYN := Lib.hid ((HY.out).trans (heardT_noneS hh))
        clear hh
        go_wp2_with fail
        refine HH.out.mono ?_
        rintro e w5 ⟨rfl, h5, hs5⟩
        rw [← HYN.out] at h5
        have H5 := Lib.hid h5
        have HM5 := Lib.hid (HM.out.of (hs5 g (by simp)))
        clear h5 hs5 HH HYN
        go_wp2_with fail
        refine (H5.out.knows n).mono ?_
        rintro e w6 ⟨rfl, h6, hb6⟩
        have H6 := Lib.hid h6
        have HM6 := Lib.hid (HM5.out.below hb6)
        clear h6 hb6 H5 HM5
        cases hkn : knowsT y n with
        | true =>
          have hlk := HM6.out.mpI.look n (by omega)
          have hcn := HCK.out n
          obtain ⟨w7, hup, hm7, hg7⟩ := HM6.out.put n (c n + 1) (by omega) (by omega) (by omega)
          have HM7 : Hid (SK W tb g (k + 1) y w7) := Lib.hid (by
            refine ⟨S4.out, H6.out.turn (by simp) HWG.out hg7, fun i => if i = n then c n + 1 else c i, fun j => ?_, ?_⟩
            · have := HCK.out j
              dsimp only
              split <;> omega
            · have e1 : (fun i : Nat => if i = n then true else knowsT x i) = fun j : Nat => knowsT y j := by
                funext i
                by_cases e : i = n
                · subst e
                  rw [if_pos rfl, hkn]
                · rw [if_neg e, S1.out i (by omega)]
              have e2 : (if knowsT x n then (allB x 257).length else (allB x 257).length + 1) = (allB y 257).length := by
                rw [S3.out, hkn]
                cases knowsT x n <;> rfl
              rw [e1, e2] at hm7
              exact hm7)
          rw [show ((c n + 1 : Nat) : Int) = (c n : Int) + 1 from by omega] at hup
          obtain ⟨cj, hcj⟩ : ∃ cj, cj = c n := ⟨_, rfl⟩
          rw [← hcj] at hlk hup hcn
          clear hm7 hg7 hcj HM6 H6
          obtain ⟨hq7, hB7, c7, hc7, hm7⟩ := HM7.out
          have HMM := Lib.hid hm7
          have HBB := Lib.hid hB7
          have HQ7 := Lib.hid hq7
          have HC7 := Lib.hid hc7
          obtain ⟨r, hr⟩ : ∃ r, r = w7.heap.size := ⟨_, rfl⟩
          have HRR := Lib.hid hr
          have HWR := Lib.hid (show W.heap.size ≤ r by rw [hr]; exact hB7.below.size)
          clear hr hq7 hB7 hm7 hc7 HM7
          go_wp2_with (first
            | (at_range
               refine wp_range_k HMM.out (.tmp 55) rfl rfl rfl ?_
               intro w8 hrg8 hb8 hs8
               have HT8 := Lib.hid (show ∃ cnt, RgT W tb g r (k + 1) y c7 cnt w8 from ⟨_, HRR.out ▸ hrg8, HRR.out ▸ HBB.out.addNew hb8 (by omega), HMM.out.below hb8⟩)
               rw [← HRR.out]
               clear hrg8 hb8 hs8)
            | fail)
          go_frame
          clear HRR HMM HBB
          go_loopw [11] (fun _ w9 => Hid (∃ cnt, RgT W tb g r (k + 1) y c7 cnt w9)) (fun _ w9 => w9.rangeLeft g r)
          case atStart => exact HT8
          case round =>
            have HT9 := hrel
            clear HT8
            obtain ⟨cnt, h1, h2, h3⟩ := HT9.out
            have HR9 := Lib.hid h1
            have HB9 := Lib.hid h2
            have HM9 := Lib.hid h3
            clear h1 h2 h3 HT9
            go_wp2_with (first
              | (at_next; refine wp_next_k HR9.out (.tmp 56) rfl rfl rfl ?_ ?_)
              | fail)
            · have HX9 := Lib.hid (show ∃ x : BS, SK W tb g (k + 1) x wr from ⟨y, HQ7.out, HB9.out.less, c7, HC7.out, HM9.out⟩)
              go_wp2_with fail
              go_round
              case rel => exact ⟨k + 1, by omega, by go_num, HX9⟩
              case measure => simp [intOf]; omega
            · intro j w10 cnt1 hj hrg10 hlt10 hg10 hen
              have hgr : g ≠ r := fun e => HR9.out.ne.2 e.symm
              have HR10 := Lib.hid hrg10
              have HB10 := Lib.hid (HB9.out.turn (by simp) HWR.out hg10)
              have HM10 := Lib.hid (HM9.out.of (hg10.block g HM9.out.lt (fun e => by injection e with e; exact hgr e)))
              have HLT := Lib.hid hlt10
              have HKN := Lib.hid (HB10.out.knows (j : Int))
              rw [hj] at HKN
              clear hrg10 hlt10 hg10 hgr HM9 HB9
              go_wp2_with fail
              refine HKN.out.mono ?_
              rintro e w11 ⟨rfl, h11, hb11⟩
              have HT11 := Lib.hid (show ∃ cnt, RgT W tb g r (k + 1) y c7 cnt w11 from ⟨cnt1, HR10.out.below hb11, h11, HM10.out.below hb11⟩)
              have HMS := Lib.hid (show w11.rangeLeft g r < wr.rangeLeft g r by rw [(HR10.out.below hb11).left, HR9.out.left]; exact HLT.out)
              clear h11 hb11 HKN HM10 HB10 HR10 hen
              go_wp2_with fail
              go_roundw
              case rel => exact HT11
              case measure => exact HMS.out
        | false =>
          have HM7 : Hid (SK W tb g (k + 1) y w6) := Lib.hid (by
            refine ⟨S4.out, H6.out, c, fun j => Nat.le_succ_of_le (HCK.out j), ?_⟩
            have e1 : (fun i : Nat => knowsT x i) = fun j : Nat => knowsT y j := by
              funext i
              by_cases e : i = n
              · subst e
                rw [hkn]
                cases hx : knowsT x i with
                | false => rfl
                | true => have := S2.out hx; rw [hkn] at this; cases this
              · rw [S1.out i (by omega)]
            have e2 : (allB y 257).length = (allB x 257).length := by
              rw [S3.out, hkn]
              rfl
            rw [← e1, e2]
            obtain ⟨D, o1, r1⟩ := HM6.out
            exact ⟨D, o1.mono (Nat.le_succ _), r1⟩)
          clear HM6 H6
          obtain ⟨hq7, hB7, c7, hc7, hm7⟩ := HM7.out
          have HMM := Lib.hid hm7
          have HBB := Lib.hid hB7
          have HQ7 := Lib.hid hq7
          have HC7 := Lib.hid hc7
          obtain ⟨r, hr⟩ : ∃ r, r = w6.heap.size := ⟨_, rfl⟩
          have HRR := Lib.hid hr
          have HWR := Lib.hid (show W.heap.size ≤ r by rw [hr]; exact hB7.below.size)
          clear hr hq7 hB7 hm7 hc7 HM7
          go_wp2_with (first
            | (at_range
               refine wp_range_k HMM.out (.tmp 55) rfl rfl rfl ?_
               intro w8 hrg8 hb8 hs8
               have HT8 := Lib.hid (show ∃ cnt, RgT W tb g r (k + 1) y c7 cnt w8 from ⟨_, HRR.out ▸ hrg8, HRR.out ▸ HBB.out.addNew hb8 (by omega), HMM.out.below hb8⟩)
               rw [← HRR.out]
               clear hrg8 hb8 hs8)
            | fail)
          go_frame
          clear HRR HMM HBB
          go_loopw [11] (fun _ w9 => Hid (∃ cnt, RgT W tb g r (k + 1) y c7 cnt w9)) (fun _ w9 => w9.rangeLeft g r)
          case atStart => exact HT8
          case round =>
            have HT9 := hrel
            clear HT8
            obtain ⟨cnt, h1, h2, h3⟩ := HT9.out
            have HR9 := Lib.hid h1
            have HB9 := Lib.hid h2
            have HM9 := Lib.hid h3
            clear h1 h2 h3 HT9
            go_wp2_with (first
              | (at_next; refine wp_next_k HR9.out (.tmp 56) rfl rfl rfl ?_ ?_)
              | fail)
            · have HX9 := Lib.hid (show ∃ x : BS, SK W tb g (k + 1) x wr from ⟨y, HQ7.out, HB9.out.less, c7, HC7.out, HM9.out⟩)
              go_wp2_with fail
              go_round
              case rel => exact ⟨k + 1, by omega, by go_num, HX9⟩
              case measure => simp [intOf]; omega
            · intro j w10 cnt1 hj hrg10 hlt10 hg10 hen
              have hgr : g ≠ r := fun e => HR9.out.ne.2 e.symm
              have HR10 := Lib.hid hrg10
              have HB10 := Lib.hid (HB9.out.turn (by simp) HWR.out hg10)
              have HM10 := Lib.hid (HM9.out.of (hg10.block g HM9.out.lt (fun e => by injection e with e; exact hgr e)))
              have HLT := Lib.hid hlt10
              have HKN := Lib.hid (HB10.out.knows (j : Int))
              rw [hj] at HKN
              clear hrg10 hlt10 hg10 hgr HM9 HB9
              go_wp2_with fail
              refine HKN.out.mono ?_
              rintro e w11 ⟨rfl, h11, hb11⟩
              have HT11 := Lib.hid (show ∃ cnt, RgT W tb g r (k + 1) y c7 cnt w11 from ⟨cnt1, HR10.out.below hb11, h11, HM10.out.below hb11⟩)
              have HMS := Lib.hid (show w11.rangeLeft g r < wr.rangeLeft g r by rw [(HR10.out.below hb11).left, HR9.out.left]; exact HLT.out)
              clear h11 hb11 HKN HM10 HB10 HR10 hen
              go_wp2_with fail
              go_roundw
              case rel => exact HT11
              case measure => exact HMS.out
      | some m =>
        rw [hh] at HH
        have HYS := Lib.hid ((HY.out).trans (heardT_someS hh))
        clear hh
        go_wp2_with fail
        refine HH.out.mono ?_
        rintro e w4 ⟨rfl, h4, hs4⟩
        have H4 := Lib.hid h4
        have HM4 := Lib.hid (HM.out.of (hs4 g (by simp)))
        clear h4 hs4 HH
        go_wp2_with fail
        refine (H4.out.heard m).mono ?_
        rintro e w5 ⟨rfl, h5, hs5⟩
        rw [← HYS.out] at h5
        have H5 := Lib.hid h5
        have HM5 := Lib.hid (HM4.out.of (hs5 g (by simp)))
        clear h5 hs5 HYS HM4 H4
        go_wp2_with fail
        refine (H5.out.knows n).mono ?_
        rintro e w6 ⟨rfl, h6, hb6⟩
        have H6 := Lib.hid h6
        have HM6 := Lib.hid (HM5.out.below hb6)
        clear h6 hb6 H5 HM5
        cases hkn : knowsT y n with
        | true =>
          have hlk := HM6.out.mpI.look n (by omega)
          have hcn := HCK.out n
          obtain ⟨w7, hup, hm7, hg7⟩ := HM6.out.put n (c n + 1) (by omega) (by omega) (by omega)
          have HM7 : Hid (SK W tb g (k + 1) y w7) := Lib.hid (by
            refine ⟨S4.out, H6.out.turn (by simp) HWG.out hg7, fun i => if i = n then c n + 1 else c i, fun j => ?_, ?_⟩
            · have := HCK.out j
              dsimp only
              split <;> omega
            · have e1 : (fun i : Nat => if i = n then true else knowsT x i) = fun j : Nat => knowsT y j := by
                funext i
                by_cases e : i = n
                · subst e
                  rw [if_pos rfl, hkn]
                · rw [if_neg e, S1.out i (by omega)]
              have e2 : (if knowsT x n then (allB x 257).length else (allB x 257).length + 1) = (allB y 257).length := by
                rw [S3.out, hkn]
                cases knowsT x n <;> rfl
              rw [e1, e2] at hm7
              exact hm7)
          rw [show ((c n + 1 : Nat) : Int) = (c n : Int) + 1 from by omega] at hup
          obtain ⟨cj, hcj⟩ : ∃ cj, cj = c n := ⟨_, rfl⟩
          rw [← hcj] at hlk hup hcn
          clear hm7 hg7 hcj HM6 H6
          obtain ⟨hq7, hB7, c7, hc7, hm7⟩ := HM7.out
          have HMM := Lib.hid hm7
          have HBB := Lib.hid hB7
          have HQ7 := Lib.hid hq7
          have HC7 := Lib.hid hc7
          obtain ⟨r, hr⟩ : ∃ r, r = w7.heap.size := ⟨_, rfl⟩
          have HRR := Lib.hid hr
          have HWR := Lib.hid (show W.heap.size ≤ r by rw [hr]; exact hB7.below.size)
          clear hr hq7 hB7 hm7 hc7 HM7
          go_wp2_with (first
            | (at_range
               refine wp_range_k HMM.out (.tmp 55) rfl rfl rfl ?_
               intro w8 hrg8 hb8 hs8
               have HT8 := Lib.hid (show ∃ cnt, RgT W tb g r (k + 1) y c7 cnt w8 from ⟨_, HRR.out ▸ hrg8, HRR.out ▸ HBB.out.addNew hb8 (by omega), HMM.out.below hb8⟩)
               rw [← HRR.out]
               clear hrg8 hb8 hs8)
            | fail)
          go_frame
          clear HRR HMM HBB
          go_loopw [11] (fun _ w9 => Hid (∃ cnt, RgT W tb g r (k + 1) y c7 cnt w9)) (fun _ w9 => w9.rangeLeft g r)
          case atStart => exact HT8
          case round =>
            have HT9 := hrel
            clear HT8
            obtain ⟨cnt, h1, h2, h3⟩ := HT9.out
            have HR9 := Lib.hid h1
            have HB9 := Lib.hid h2
            have HM9 := Lib.hid h3
            clear h1 h2 h3 HT9
            go_wp2_with (first
              | (at_next; refine wp_next_k HR9.out (.tmp 56) rfl rfl rfl ?_ ?_)
              | fail)
            · have HX9 := Lib.hid (show ∃ x : BS, SK W tb g (k + 1) x wr from ⟨y, HQ7.out, HB9.out.less, c7, HC7.out, HM9.out⟩)
              go_wp2_with fail
              go_round
              case rel => exact ⟨k + 1, by omega, by go_num, HX9⟩
              case measure => simp [intOf]; omega
            · intro j w10 cnt1 hj hrg10 hlt10 hg10 hen
              have hgr : g ≠ r := fun e => HR9.out.ne.2 e.symm
              have HR10 := Lib.hid hrg10
              have HB10 := Lib.hid (HB9.out.turn (by simp) HWR.out hg10)
              have HM10 := Lib.hid (HM9.out.of (hg10.block g HM9.out.lt (fun e => by injection e with e; exact hgr e)))
              have HLT := Lib.hid hlt10
              have HKN := Lib.hid (HB10.out.knows (j : Int))
              rw [hj] at HKN
              clear hrg10 hlt10 hg10 hgr HM9 HB9
              go_wp2_with fail
              refine HKN.out.mono ?_
              rintro e w11 ⟨rfl, h11, hb11⟩
              have HT11 := Lib.hid (show ∃ cnt, RgT W tb g r (k + 1) y c7 cnt w11 from ⟨cnt1, HR10.out.below hb11, h11, HM10.out.below hb11⟩)
              have HMS := Lib.hid (show w11.rangeLeft g r < wr.rangeLeft g r by rw [(HR10.out.below hb11).left, HR9.out.left]; exact HLT.out)
              clear h11 hb11 HKN HM10 HB10 HR10 hen
              go_wp2_with fail
              go_roundw
              case rel => exact HT11
              case measure => exact HMS.out
        | false =>
          have HM7 : Hid (SK W tb g (k + 1) y w6) := Lib.hid (by
            refine ⟨S4.out, H6.out, c, fun j => Nat.le_succ_of_le (HCK.out j), ?_⟩
            have e1 : (fun i : Nat => knowsT x i) = fun j : Nat => knowsT y j := by
              funext i
              by_cases e : i = n
              · subst e
                rw [hkn]
                cases hx : knowsT x i with
                | false => rfl
                | true => have := S2.out hx; rw [hkn] at this; cases this
              · rw [S1.out i (by omega)]
            have e2 : (allB y 257).length = (allB x 257).length := by
              rw [S3.out, hkn]
              rfl
            rw [← e1, e2]
            obtain ⟨D, o1, r1⟩ := HM6.out
            exact ⟨D, o1.mono (Nat.le_succ _), r1⟩)
          clear HM6 H6
          obtain ⟨hq7, hB7, c7, hc7, hm7⟩ := HM7.out
          have HMM := Lib.hid hm7
          have HBB := Lib.hid hB7
          have HQ7 := Lib.hid hq7
          have HC7 := Lib.hid hc7
          obtain ⟨r, hr⟩ : ∃ r, r = w6.heap.size := ⟨_, rfl⟩
          have HRR := Lib.hid hr
          have HWR := Lib.hid (show W.heap.size ≤ r by rw [hr]; exact hB7.below.size)
          clear hr hq7 hB7 hm7 hc7 HM7
          go_wp2_with (first
            | (at_range
               refine wp_range_k HMM.out (.tmp 55) rfl rfl rfl ?_
               intro w8 hrg8 hb8 hs8
               have HT8 := Lib.hid (show ∃ cnt, RgT W tb g r (k + 1) y c7 cnt w8 from ⟨_, HRR.out ▸ hrg8, HRR.out ▸ HBB.out.addNew hb8 (by omega), HMM.out.below hb8⟩)
               rw [← HRR.out]
               clear hrg8 hb8 hs8)
            | fail)
          go_frame
          clear HRR HMM HBB
          go_loopw [11] (fun _ w9 => Hid (∃ cnt, RgT W tb g r (k + 1) y c7 cnt w9)) (fun _ w9 => w9.rangeLeft g r)
          case atStart => exact HT8
          case round =>
            have HT9 := hrel
            clear HT8
            obtain ⟨cnt, h1, h2, h3⟩ := HT9.out
            have HR9 := Lib.hid h1
            have HB9 := Lib.hid h2
            have HM9 := Lib.hid h3
            clear h1 h2 h3 HT9
            go_wp2_with (first
              | (at_next; refine wp_next_k HR9.out (.tmp 56) rfl rfl rfl ?_ ?_)
              | fail)
            · have HX9 := Lib.hid (show ∃ x : BS, SK W tb g (k + 1) x wr from ⟨y, HQ7.out, HB9.out.less, c7, HC7.out, HM9.out⟩)
              go_wp2_with fail
              go_round
              case rel => exact ⟨k + 1, by omega, by go_num, HX9⟩
              case measure => simp [intOf]; omega
            · intro j w10 cnt1 hj hrg10 hlt10 hg10 hen
              have hgr : g ≠ r := fun e => HR9.out.ne.2 e.symm
              have HR10 := Lib.hid hrg10
              have HB10 := Lib.hid (HB9.out.turn (by simp) HWR.out hg10)
              have HM10 := Lib.hid (HM9.out.of (hg10.block g HM9.out.lt (fun e => by injection e with e; exact hgr e)))
              have HLT := Lib.hid hlt10
              have HKN := Lib.hid (HB10.out.knows (j : Int))
              rw [hj] at HKN
              clear hrg10 hlt10 hg10 hgr HM9 HB9
              go_wp2_with fail
              refine HKN.out.mono ?_
              rintro e w11 ⟨rfl, h11, hb11⟩
              have HT11 := Lib.hid (show ∃ cnt, RgT W tb g r (k + 1) y c7 cnt w11 from ⟨cnt1, HR10.out.below hb11, h11, HM10.out.below hb11⟩)
              have HMS := Lib.hid (show w11.rangeLeft g r < wr.rangeLeft g r by rw [(HR10.out.below hb11).left, HR9.out.left]; exact HLT.out)
              clear h11 hb11 HKN HM10 HB10 HR10 hen
              go_wp2_with fail
              go_roundw
              case rel => exact HT11
              case measure => exact HMS.out
    · have hcase : (¬ (k : Int) < (ks.length : Int)) ∨ ((k : Int) < (ks.length : Int) ∧ ¬ (k : Int) < 150) := by omega
      have HLN := Lib.hid (length_allB_le HB.out.inv)
      obtain ⟨N, hN⟩ : ∃ N, N = (allB x 257).length := ⟨_, rfl⟩
      have HA : Hid (Calls Tryd.prog 14 #[.pointer (some ⟨tb, 0, none⟩)] wr fun e w' => ∃ a c, e = .returned (.slice a N c) ∧ Below W.heap.size W w' ∧ ∀ ty, (Builtin.len_ #[Tmii] ty #[.map (some g)]).run Tryd.prog w' = .ok (.int .i64 (N : Int)) w') := Lib.hid (by
        refine HB.out.all.mono ?_
        rintro e w' ⟨v, rfl, ho4, h4, hb4⟩
        obtain ⟨a4, c4, rfl, -, -, -⟩ := ho4.form
        rw [List.length_map, length_sorted, ← hN]
        refine ⟨a4, c4, rfl, h4.below, fun ty => ?_⟩
        have hlen := (HM.out.below hb4).mpI.len ty
        rw [← hN] at hlen
        exact hlen)
      clear hN
      rcases hcase with hc1 | ⟨hc1, hc2⟩
      · have hd1 : decide ((k : Int) < (ks.length : Int)) = false := by simp; omega
        go_wp2_with fail
        refine HA.out.mono ?_
        rintro e w4 ⟨a4, c4, rfl, hb4, hlen⟩
        have HE := Lib.hid hb4
        clear hb4 HA
        go_wp2_with fail
        go_ret
        exact ⟨rfl, HE.out⟩
      · have hd1 : decide ((k : Int) < (ks.length : Int)) = true := by simp; omega
        have hd2 : decide ((k : Int) < 150) = false := by simp; omega
        go_wp2_with fail
        refine HA.out.mono ?_
        rintro e w4 ⟨a4, c4, rfl, hb4, hlen⟩
        have HE := Lib.hid hb4
        clear hb4 HA
        go_wp2_with fail
        go_ret
        exact ⟨rfl, HE.out⟩
end Go.Proofs.YtaicjdjfhbmfeaaDoor

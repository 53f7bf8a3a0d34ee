/-
  BucketNext: the walk.
-/
import Derived.Test.YtaicjdjfhbmfeaaDoorBktD
import Derived.Test.YtaicjdjfhbmfeaaDoorLst
namespace Go.Proofs.YtaicjdjfhbmfeaaDoor
open Go.RowKit Crv

/-- An address out of any number. -/
theorem sixty (z : Int) : ∃ o : Nat, o < 64 ∧ (wrap64 (Int.tmod z 64 + 64)).tmod 64 = (o : Int) := by
  have h1 : -64 < Int.tmod z 64 ∧ Int.tmod z 64 < 64 := ⟨by have := Int.lt_tmod_of_pos z (show (0 : Int) < 64 by decide); omega, Int.tmod_lt_of_pos z (by decide)⟩
  rw [IntWalk.wrap64_in _ (by omega)]
  have h2 : (Int.tmod z 64 + 64).tmod 64 = (Int.tmod z 64 + 64) % 64 := Int.tmod_eq_emod_of_nonneg (by omega)
  rw [h2]
  exact ⟨((Int.tmod z 64 + 64) % 64).toNat, by omega, by omega⟩
theorem gone_own {x : BS} (h : Inv x) : (goneT x x.own).2 = false := by
  have hno : x.own ∉ x.K (rowB x x.own) := fun hm => (h.kin _ _ hm).2.1 rfl
  show (goneB (x.K (rowB x x.own)) (x.Q (rowB x x.own)) x.own).2.2 = false
  unfold goneB
  rw [if_neg hno]
theorem Zs.at {W : World} {a : Option Addr} {n cap : Nat} {ks : List Int} (h : Zs W (.slice a n cap) ks) : ∀ i, i < ks.length → ∃ b off, a = some ⟨b, off, none⟩ ∧ ∀ wr, Below W.heap.size W wr → wr.cell? ⟨b, off + i, none⟩ = some (.int .i64 (ks.getD i 0)) := by
  obtain ⟨a', cap', e, h⟩ := h
  injection e with e1 e2 e3
  subst e1
  intro i hi
  obtain ⟨b, off, hb, hc⟩ := h i hi
  exact ⟨b, off, hb, fun wr hw => (World.cell?_of_block (w := W) (w' := wr) (a := ⟨b, off + i, none⟩) (hw.block _ (World.block_lt_of_cell? W _ hc))).trans hc⟩
set_option maxHeartbeats 4000000 in
set_option maxRecDepth 100000 in
theorem bucketNext_walk (own : Int) (v1 : Value) (ks : List Int) (n : Int) (W : World) (hc : Consts W) (hks : Zs W v1 ks) :
    Calls Tryd.prog 7 #[.int .i64 own, v1, .int .i64 n] W fun e w' => e = .returned (.bool true) ∧ Below W.heap.size W w' := by
  obtain ⟨a, cap, rfl, hk0⟩ := hks
  have HKS := Lib.hid (show Zs W (.slice a ks.length cap) ks from ⟨a, cap, rfl, hk0⟩)
  have HAW := Lib.hid (awake19_any W hc)
  have HGB := Lib.hid (show 3 ≤ W.heap.size from hc.2.lt)
  have HC := Lib.hid hc
  obtain ⟨o, ho, hoo⟩ := sixty own
  clear hc hk0
  go_enter Tryd.func7, Tryd.ntmps7
  go_wp2_with fail
  refine HAW.out.mono ?_
  rintro e w1 ⟨rfl, hb1⟩
  have HN := Lib.hid (fun oo => BT.make (W0 := W) hb1 (HC.out.below hb1) HGB.out oo)
  clear hb1 HAW
  go_wp2_with fail
  refine (HN.out o).mono ?_
  rintro e w2 ⟨tb, rfl, h2⟩
  have H2 := Lib.hid h2
  clear h2 HN
  go_wp2_with fail
  go_loopw [8] (fun i wr => ∃ k : Nat, k ≤ 100 ∧ i = .int .i64 k ∧ Hid (∃ x : BS, noQ x ∧ x.own = o ∧ BT W [] tb x wr)) (fun i _ => 100 - (intOf i).toNat)
  case atStart => exact ⟨0, by omega, rfl, Lib.hid ⟨newT o, fun _ => rfl, rfl, H2.out⟩⟩
  case round =>
    obtain ⟨k, hk, rfl, HX⟩ := hrel
    obtain ⟨x, hq, hxo, hB⟩ := HX.out
    have HQ := Lib.hid hq
    have HXO := Lib.hid hxo
    have HB := Lib.hid hB
    clear HX hq hxo hB H2
    by_cases hlt : k < ks.length ∧ k < 100
    · have hd1 : decide ((k : Int) < (ks.length : Int)) = true := by simp; omega
      have hd2 : decide ((k : Int) < 100) = true := by simp; omega
      obtain ⟨b, off, rfl, hkW⟩ := HKS.out.at k hlt.1
      have hl1 : (k : Int) < (ks.length : Int) := by omega
      obtain ⟨n0, hn0⟩ : ∃ n0, n0 = ks.getD k 0 := ⟨_, rfl⟩
      rw [← hn0] at hkW
      have HK := Lib.hid hkW
      have hkc := hkW wr HB.out.below
      clear hkW
      cases hh : (heardT x n0).2 with
      | none =>
        have HH := Lib.hid (HB.out.heard n0)
        rw [hh] at HH
        have HQ2 := Lib.hid (noQ_none HQ.out hh)
        have HO2 := Lib.hid ((heardT_own x n0).trans HXO.out)
        clear hn0 hh
        go_wp2_with fail
        refine HH.out.mono ?_
        rintro e w3 ⟨rfl, h3, -⟩
        have HR := Lib.hid (show ∃ x : BS, noQ x ∧ x.own = o ∧ BT W [] tb x w3 from ⟨_, HQ2.out, HO2.out, h3⟩)
        clear h3 HQ2 HO2 HH
        go_wp2_with fail
        go_round
        case rel => exact ⟨k + 1, by omega, by go_num, HR⟩
        case measure => simp [intOf]; omega
      | some m =>
        have HH := Lib.hid (HB.out.heard n0)
        rw [hh] at HH
        obtain ⟨s1, s2, s3, s4, s5, s6, s7⟩ := next_step HB.out.inv HQ.out hh
        obtain ⟨y, hy⟩ : ∃ y, y = (heardT x n0).1 := ⟨_, rfl⟩
        have HO2 := Lib.hid ((heardT_own x n0).trans HXO.out)
        rw [← hy] at HH HO2 s1 s2 s3 s4 s5 s6 s7
        obtain ⟨z, hz⟩ : ∃ z, z = (goneT y m).1 := ⟨_, rfl⟩
        have HO3 := Lib.hid (show z.own = o by rw [hz, goneT_own]; exact HO2.out)
        rw [← hz] at s4 s5 s6 s7
        have HZ := Lib.hid hz
        have S1 := Lib.hid s1
        have S2 := Lib.hid s2
        have S3 := Lib.hid s3
        have S4 := Lib.hid s4
        have S5 := Lib.hid s5
        have S6 := Lib.hid s6
        have S7 := Lib.hid s7
        clear hn0 hh hy hz s1 s2 s3 s4 s5 s6 s7
        have hkc0 := hkc
        go_wp2_with fail
        refine HH.out.mono ?_
        rintro e w3 ⟨rfl, h3, -⟩
        have H3 := Lib.hid h3
        clear h3 HH hkc
        go_wp2_with fail
        refine (H3.out.all).mono ?_
        rintro e w4 ⟨v, rfl, ho, h4, hb4⟩
        obtain ⟨q1, q2, rfl, -, -, -⟩ := ho.form
        have HLN := Lib.hid (show (List.map iv (sorted (allB y 257))).length = (allB y 257).length by rw [List.length_map, length_sorted])
        rw [HLN.out]
        have H4 := Lib.hid h4
        clear h4 H3 ho hb4
        go_wp2_with fail
        refine (H4.out.knows m).mono ?_
        rintro e w5 ⟨rfl, h5, hb5⟩
        rw [S1.out]
        have H5 := Lib.hid h5
        clear h5 H4 hb5 hkc0
        have hk5 := HK.out _ H5.out.below
        go_wp2_with fail
        refine (H5.out.knows n0).mono ?_
        rintro e w6 ⟨rfl, h6, -⟩
        rw [S2.out]
        have H6 := Lib.hid h6
        clear h6 H5 hk5
        go_wp2_with fail
        refine (H6.out.gone m).mono ?_
        rintro e w7 ⟨rfl, h7, -⟩
        rw [S3.out]
        rw [← HZ.out] at h7
        have H7 := Lib.hid h7
        clear h7 H6
        have hk7 := HK.out _ H7.out.below
        go_wp2_with fail
        refine (H7.out.knows n0).mono ?_
        rintro e w8 ⟨rfl, h8, -⟩
        rw [S4.out]
        have H8 := Lib.hid h8
        clear h8 H7 hk7
        go_wp2_with fail
        refine (H8.out.knows m).mono ?_
        rintro e w9 ⟨rfl, h9, -⟩
        rw [S5.out]
        have H9 := Lib.hid h9
        clear h9 H8
        go_wp2_with fail
        refine (H9.out.all).mono ?_
        rintro e w10 ⟨v, rfl, ho, h10, -⟩
        obtain ⟨q3, q4, rfl, -, -, -⟩ := ho.form
        have HLM := Lib.hid (show (List.map iv (sorted (allB z 257))).length = (allB y 257).length by rw [List.length_map, length_sorted, S6.out])
        rw [HLM.out]
        have HR := Lib.hid (show ∃ x : BS, noQ x ∧ x.own = o ∧ BT W [] tb x w10 from ⟨z, S7.out, HO3.out, h10⟩)
        clear h10 H9 ho
        go_wp2_with fail
        go_round
        case rel => exact ⟨k + 1, by omega, by go_num, HR⟩
        case measure => simp [intOf]; omega
    · have HG := Lib.hid (HB.out.gone o)
      have HGF := Lib.hid (show (goneT x o).2 = false by rw [← HXO.out]; exact gone_own HB.out.inv)
      rw [HGF.out] at HG
      have hcase : (¬ (k : Int) < (ks.length : Int)) ∨ ((k : Int) < (ks.length : Int) ∧ ¬ (k : Int) < 100) := by omega
      rcases hcase with hc1 | ⟨hc1, hc2⟩
      · have hd1 : decide ((k : Int) < (ks.length : Int)) = false := by simp; omega
        go_wp2_with fail
        refine HG.out.mono ?_
        rintro e w3 ⟨rfl, h3, -⟩
        have HE := Lib.hid h3.below
        clear h3 HG
        go_wp2_with fail
        go_ret
        exact ⟨rfl, HE.out⟩
      · have hd1 : decide ((k : Int) < (ks.length : Int)) = true := by simp; omega
        have hd2 : decide ((k : Int) < 100) = false := by simp; omega
        go_wp2_with fail
        refine HG.out.mono ?_
        rintro e w3 ⟨rfl, h3, -⟩
        have HE := Lib.hid h3.below
        clear h3 HG
        go_wp2_with fail
        go_ret
        exact ⟨rfl, HE.out⟩
end Go.Proofs.YtaicjdjfhbmfeaaDoor

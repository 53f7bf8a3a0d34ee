/-
  WeaveBad.
-/
import Derived.Test.YtjdhcanblpifcaaDoorWLaw1
import Derived.Test.YtjdhcanblpifcaaDoorMer5b
namespace Go.Proofs.YtjdhcanblpifcaaDoor
open Go.RowKit Crv
/-- What Give says of a root's bytes. -/
theorem give_root (t : List UInt8) (z : Int) : giveW ([((oidOf 2 t, z), -1)], [], 0) t = if (parseN t).2.2 ≠ 0 then (([((oidOf 2 t, z), -1)], [], 0), (parseN t).2.2) else if sumP (parseN t).2.1 ≠ z then (([((oidOf 2 t, z), -1)], [], 0), 2) else (((parseN t).2.1.map (fun p => (p, (parseN t).1 - 1)), [], 1), 0) := by
  unfold giveW
  dsimp only
  rw [if_neg (fun h => h rfl), if_neg (by decide)]
  by_cases h1 : (parseN t).2.2 = 0
  · rw [if_neg (Decidable.not_not.2 h1), if_neg (Decidable.not_not.2 h1)]
    by_cases h2 : sumP (parseN t).2.1 = z
    · rw [if_neg (fun h => h.elim (fun h => absurd h.1 (by decide)) (fun h => h h2)), if_neg (Decidable.not_not.2 h2), List.append_nil]
    · rw [if_pos (.inr h2), if_pos h2]
  · rw [if_pos h1, if_pos h1]
theorem parse_nil {t : List UInt8} (h : (parseN t).2.2 ≠ 0) : (parseN t).2.1 = [] := by
  unfold parseN at h ⊢
  simp only at h ⊢
  split
  · rfl
  · rename_i h2
    rw [if_neg h2] at h
    split
    · rfl
    · rename_i h3
      rw [if_neg h3] at h
      exact absurd rfl h
set_option maxRecDepth 100000 in
set_option maxHeartbeats 600000 in
theorem weaveBad_walk (t : List UInt8) (n : Int) (c : List UInt8) (w : World) (hc : Consts w) :
    Calls Tryd.prog 7 #[.string (str t), .int .i64 n, .string (str c)] w fun e w' => e = .returned (.bool true) ∧ Below w.heap.size w w' := by
  have HC := Lib.hid hc
  have HAW := Lib.hid (awake10_any w hc)
  clear hc
  by_cases hlong : 100 < t.length
  · have hd : decide (100 < t.length) = true := by simpa using hlong
    have hd2 : decide ((100 : Int) < (t.length : Int)) = true := by simp; omega
    go_enter Tryd.func7, Tryd.ntmps7
    go_wp2_with fail
    refine HAW.out.mono ?_
    rintro e w1 ⟨rfl, hb1⟩
    go_wp2_with fail
    go_ret
    exact ⟨rfl, hb1⟩
  have hd : decide (100 < t.length) = false := by simpa using hlong
  have hd2 : decide ((100 : Int) < (t.length : Int)) = false := by simp; omega
  obtain ⟨z, hz⟩ : ∃ z, z = min (max n 1) 32768 := ⟨_, rfl⟩
  have hz1 : 1 ≤ z ∧ z ≤ 32768 := by omega
  have HZM := Lib.hid hz.symm
  have HOF := Lib.hid (fun (W2 : World) hc => ofTxt 2 (by omega) t (by omega) W2 hc)
  have htl : t.length ≤ 1000000 := by omega
  have hR := length_oidOf 2 t
  have HGR := Lib.hid (give_root t z)
  have HRP := Lib.hid (fun W => rparse_own t W)
  have HPO := Lib.hid (parse_ok t)
  have HPN := Lib.hid (parse_nil (t := t))
  obtain ⟨pl, ps, pe, hpn⟩ : ∃ a b c, parseN t = (a, b, c) := ⟨_, _, _, rfl⟩
  rw [hpn] at HGR HRP HPO HPN
  simp only at HGR HRP HPO HPN
  have HPS := Lib.hid (show ps.length ≤ 8 ∧ ∀ p ∈ ps, 0 ≤ p.2 ∧ p.2 ≤ 32768 by
    by_cases h0 : pe = 0
    · have := HPO.out h0
      exact ⟨this.2.2.2.1, fun p hp => (this.2.2.1 p hp).2⟩
    · rw [HPN.out h0]
      simp)
  have hps8 := HPS.out.1
  obtain ⟨R, hRe⟩ : ∃ x, x = oidOf 2 t := ⟨_, rfl⟩
  rw [← hRe] at HOF hR HGR
  have HBP := Lib.hid (fun W => run_build_pt R z hR W)
  have HNEW := Lib.hid (fun W => wnew_any (R, z) hR W)
  have HRL := Lib.hid hR
  clear hz hRe hR hpn HPO HPN hlong
  go_enter Tryd.func7, Tryd.ntmps7
  go_wp2_with fail
  refine HAW.out.mono ?_
  rintro e w1 ⟨rfl, hb1⟩
  have HB1 := Lib.hid hb1
  clear hb1 HAW
  go_wp2_with (first
    | (refine wp_max0 (c := n) (d := 1) (.tmp 24) (.const (.int .i64 1)) rfl rfl rfl rfl ?_)
    | (refine wp_min0 (c := max n 1) (d := 32768) (.tmp 25) (.const (.int .i64 32768)) HZM.out rfl rfl rfl rfl ?_)
    | fail)
  refine (HOF.out w1 (HC.out.below (belowThen HB1.out (belowSelf _ _)))).mono ?_
  rintro e w2 ⟨rfl, hb2⟩
  have HB2 := Lib.hid (belowThen (belowThen HB1.out (belowSelf _ _)) hb2)
  clear hb2
  go_wp2_with (first
    | (refine wp_build2 (HBP.out _) rfl rfl rfl rfl ?_)
    | fail)
  refine (HNEW.out _).mono ?_
  rintro e w3 ⟨wb, vp, rfl, hw3, hb3⟩
  have HW3 := Lib.hid hw3
  have HB3 := Lib.hid (belowThen HB2.out hb3)
  have hz3 : w2.heap.size ≤ w3.heap.size := hb3.size
  clear hw3 hb3 HNEW
  go_wp2_with fail
  refine (HRP.out _).mono ?_
  rintro e w4 ⟨v, rfl, hr4, hb4⟩
  obtain ⟨a4, c4, hv4, -, -⟩ := hr4.rd
  rw [List.length_map] at hv4
  subst hv4
  have HB4 := Lib.hid (belowThen (belowThen HB3.out hb4) (belowSelf w4 (.cells #[.int .i64 pl, .slice a4 ps.length c4] Trn)))
  have HW4 := Lib.hid ((HW3.out.below hb4).below (belowSelf w4 (.cells #[.int .i64 pl, .slice a4 ps.length c4] Trn)))
  have HM4 := Lib.hid (Mem.new w4 Trn [.int .i64 pl, .slice a4 ps.length c4])
  have HR4 := Lib.hid (hr4.below (belowSelf w4 (.cells #[.int .i64 pl, .slice a4 ps.length c4] Trn)))
  have hz4 : w3.heap.size ≤ w4.heap.size := hb4.size
  have hwb : wb < w3.heap.size := HW3.out.1.lt
  have HGV := Lib.hid (give_any (w4.alloc (.cells #[.int .i64 pl, .slice a4 ps.length c4] Trn)) wb w2.heap.size vp (.slice none 0 0) _ t (HC.out.below HB4.out) (by simp) (by simp) (by simp) htl (by intro s hs; simp only [List.mem_singleton] at hs; subst hs; exact HRL.out) (by simp; omega) HW4.out)
  obtain ⟨G, hG⟩ : ∃ q, q = giveW ([((R, z), -1)], [], 0) t := ⟨_, rfl⟩
  rw [← hG] at HGV HGR
  clear hr4 hb4 HRP hG
  go_wp2_with fail
  refine HGV.out.mono ?_
  rintro e w5 ⟨rfl, vp5, vt5, hw5, hf5⟩
  have HW5 := Lib.hid hw5
  have HB5 := Lib.hid (HB4.out.trans (hf5.bel.mono HB2.out.size))
  have hvpl : ∀ r, vp.ownBlock = some r → r < w3.heap.size := fun r hr => (HW3.out.2.2.1.lt r hr).1
  have HM5 := Lib.hid (show Mem w5 w4.heap.size Trn [.int .i64 pl, .slice a4 ps.length c4] from (hf5.keep w4.heap.size HM4.out.lt (by omega) (fun e => by have := hvpl _ e; omega) (fun e => by cases e)).trans HM4.out)
  have HR5 := Lib.hid (HR4.out.of_block (fun b hb => hf5.keep b (HR4.out.lt b hb).1 (by have := (HR4.out.lt b hb).2; omega) (fun e => by have := hvpl _ e; have := (HR4.out.lt b hb).2; omega) (fun e => by cases e)))
  have n1 : w5.cell? ⟨w4.heap.size, 1, none⟩ = some (.slice a4 ps.length c4) := HM5.out.cell 1
  clear hw5 hf5 HGV HM4 HR4 HW4 hvpl
  go_wp2_with fail
  clear n1
  go_loopw [11, 44] (fun s i wx => ∃ k : Nat, k ≤ ps.length ∧ i = .int .i64 k ∧ s = .int .i64 (sumP (ps.take k)) ∧ 0 ≤ sumP (ps.take k) ∧ sumP (ps.take k) ≤ 1000000000 * (k : Int) ∧ Hid (Below w5.heap.size w5 wx)) (fun _ i _ => ps.length - (intOf i).toNat)
  case atStart => exact ⟨0, by omega, rfl, rfl, by simp [sumP], by simp [sumP], Lib.hid (Below.refl _ _)⟩
  case round =>
    obtain ⟨k, hk, rfl, rfl, hs0, hs1, HBX⟩ := hrel
    by_cases hltk : k < ps.length
    · have hrp : RPts wr (.slice a4 ps.length c4) ps := (HR5.out.below HBX.out).rd
      obtain ⟨a', cap', hv', -, hc'⟩ := hrp.form
      injection hv' with h1 h2 h3
      obtain ⟨g', off', ha, hgl', hx0, hx1⟩ := hc' k hltk
      rw [← h1] at ha
      subst ha
      have hpk := HPS.out.2 _ (List.getElem_mem hltk)
      have HSUM := Lib.hid (sumP_take_succ ps k hltk)
      obtain ⟨x, y, hp⟩ : ∃ x y, ps[k] = (x, y) := ⟨_, _, rfl⟩
      rw [hp] at hx0 hx1 HSUM hpk
      simp only at hx0 hx1 HSUM hpk
      obtain ⟨q, hq⟩ : ∃ q, q = sumP (ps.take k) := ⟨_, rfl⟩
      rw [← hq] at hs0 hs1 HSUM ⊢
      have hdk : decide (k < ps.length) = true := by simpa using hltk
      clear hp h1 h2 h3 hc' hq hrp
      go_wp2_with fail
      go_roundw
      case rel => exact ⟨k + 1, by omega, by go_num, by rw [HSUM.out], by rw [HSUM.out]; omega, by rw [HSUM.out]; push_cast; omega, Lib.hid (belowThen HBX.out (belowSelf _ _))⟩
      case measure => simp [intOf]; omega
    · have ek : k = ps.length := by omega
      subst ek
      have hdk : decide (ps.length < ps.length) = false := by simp
      rw [List.take_length] at hs0 hs1 ⊢
      have HGT := Lib.hid (got_any wr wb w2.heap.size vp5 vt5 _ (HW5.out.below HBX.out))
      have HWX := Lib.hid (HW5.out.below HBX.out)
      have HBE := Lib.hid (belowThen HB5.out HBX.out)
      by_cases hpe : pe = 0
      · by_cases hsum : sumP ps = z
        · have HGE := Lib.hid (show G = ((ps.map (fun p => (p, pl - 1)), [], 1), 0) by rw [HGR.out, if_neg (Decidable.not_not.2 hpe), if_neg (Decidable.not_not.2 hsum)])
          rw [HGE.out] at HGT ⊢
          have he0 : ((pe : Int) != 0) = false := by simpa using hpe
          have hes : ((sumP ps : Int) != z) = false := by simpa using hsum
          clear HGE HWX hpe hsum HGR HW5
          obtain ⟨q, hq⟩ : ∃ q, q = sumP ps := ⟨_, rfl⟩
          rw [← hq] at hs0 hs1 hes ⊢
          clear hq
          go_wp2_with fail
          refine HGT.out.mono ?_
          rintro e w6 ⟨rfl, hb6⟩
          go_wp2_with fail
          go_ret
          exact ⟨rfl, belowThen HBE.out hb6⟩
        · have HGE := Lib.hid (show G = (([((R, z), -1)], [], 0), 2) by rw [HGR.out, if_neg (Decidable.not_not.2 hpe), if_pos hsum])
          rw [HGE.out] at HGT ⊢
          have he0 : ((pe : Int) != 0) = false := by simpa using hpe
          have hes : ((sumP ps : Int) != z) = true := by simpa using hsum
          clear HGE HWX hpe hsum HGR HW5
          obtain ⟨q, hq⟩ : ∃ q, q = sumP ps := ⟨_, rfl⟩
          rw [← hq] at hs0 hs1 hes ⊢
          clear hq
          go_wp2_with fail
          refine HGT.out.mono ?_
          rintro e w6 ⟨rfl, hb6⟩
          go_wp2_with fail
          go_ret
          exact ⟨rfl, belowThen HBE.out hb6⟩
      · have HGE := Lib.hid (show G = (([((R, z), -1)], [], 0), pe) by rw [HGR.out, if_pos hpe])
        rw [HGE.out] at HGT HWX ⊢
        have he0 : ((pe : Int) != 0) = true := by simpa using hpe
        clear HGE hpe HGR HW5
        obtain ⟨q, hq⟩ : ∃ q, q = sumP ps := ⟨_, rfl⟩
        rw [← hq] at hs0 hs1 ⊢
        clear hq
        go_wp2_with fail
        refine HGT.out.mono ?_
        rintro e w6 ⟨rfl, hb6⟩
        have HOV := Lib.hid (over_any w6 wb w2.heap.size vp5 vt5 _ (HWX.out.below hb6))
        have HB6 := Lib.hid hb6
        clear hb6
        go_wp2_with fail
        refine HOV.out.mono ?_
        rintro e w7 ⟨rfl, rfl⟩
        go_wp2_with fail
        go_ret
        exact ⟨rfl, belowThen HBE.out HB6.out⟩
end Go.Proofs.YtjdhcanblpifcaaDoor

/-
  SectorPads: the walk.
-/
import Derived.Test.YthnkjgmoofhaoaaSec14
namespace Go.Proofs.Ythnkjgmoofhaoaa
open Go.RowKit Go.Maps Go.Sort Go.Shelf Crv

/-- How long a text value is. -/
def lenV : Value → Nat
  | .string s => s.size
  | _ => 0
theorem pad_step (l : List UInt8) (t : Nat) : str (l ++ List.replicate t 0) ++ ⟨#[0]⟩ = str (l ++ List.replicate (t + 1) 0) := by
  rw [show (⟨#[0]⟩ : ByteArray) = str [0] from rfl, str_plus, List.append_assoc]
  congr 2
  rw [List.replicate_succ']

set_option maxHeartbeats 2000000 in
set_option maxRecDepth 100000 in
theorem sectorPads_walk (o0 f0 : List UInt8) (n : Int) (w : World) :
    Calls Try.prog 7 #[.string (str o0), .string (str f0), .int .i64 n] w fun e w' => e = .returned (.bool true) ∧ Below w.heap.size w w' := by
  have HAW := Lib.hid awake3_any
  have HC1 := Lib.hid (fun W => cutB o0 64 (by omega) W)
  have HC2 := Lib.hid (fun W => cutB f0 64 (by omega) W)
  rw [show (64 : Int).toNat = 64 from rfl] at HC1 HC2
  obtain ⟨o, ho⟩ : ∃ s, s = o0.take 64 := ⟨_, rfl⟩
  obtain ⟨f, hf⟩ : ∃ s, s = f0.take 64 := ⟨_, rfl⟩
  have hol : o.length ≤ 64 := by rw [ho, List.length_take]; omega
  have hfl : f.length ≤ 64 := by rw [hf, List.length_take]; omega
  rw [← ho] at HC1
  rw [← hf] at HC2
  clear ho hf
  obtain ⟨k, hk⟩ : ∃ k : Nat, min (max n 0) 4 = (k : Int) := ⟨(min (max n 0) 4).toNat, by omega⟩
  have hk4 : k ≤ 4 := by omega
  have HK := Lib.hid hk
  clear hk
  obtain ⟨b0, hb0⟩ : ∃ b, b = List.replicate (64 * 5) (0 : UInt8) := ⟨_, rfl⟩
  have hbl : b0.length = 64 * 5 := by rw [hb0]; simp
  have hls : ∀ l ∈ [o, o, o, o, o], l.length ≤ 64 := by
    intro l hl
    simp only [List.mem_cons, List.not_mem_nil, or_false] at hl
    rcases hl with rfl | rfl | rfl | rfl | rfl <;> exact hol
  have HLS := Lib.hid hls
  have hl5 := length_wrTo (D := .map []) (ls := [o, o, o, o, o]) hbl (show 0 + 5 ≤ 5 by omega) hls 5 (Nat.le_refl _)
  have HR5 := Lib.hid (show ∀ q, q < 5 → rowS (wrTo b0 (.map []) 0 [o, o, o, o, o] 5).1 q 1 = padS o from fun q hq => by
    rw [row_wrTo hbl (show 0 + 5 ≤ 5 by omega) hls q 5 (Nat.le_refl _), if_pos ⟨by omega, by omega⟩]
    congr 1
    match q, hq with
    | 0, _ => rfl
    | 1, _ => rfl
    | 2, _ => rfl
    | 3, _ => rfl
    | 4, _ => rfl)
  have HD5 := Lib.hid (Du.write (ls := [o, o, o, o, o]) (Du.none 5) isMap_empty hbl (show 0 + 5 ≤ 5 by omega) hls 5 (Nat.le_refl _))
  have HM5 := Lib.hid (isMap_wrTo (bs := b0) (i := 0) (ls := [o, o, o, o, o]) isMap_empty 5)
  have HT5 := Lib.hid (show ∀ q, q < 5 → (duTo (fun _ => none) b0 (.map []) 0 [o, o, o, o, o] 5 q).isSome = true from fun q hq => by
    rw [some_duTo, decide_eq_true (by omega)]; simp)
  obtain ⟨b5, e5⟩ : ∃ b, b = (wrTo b0 (.map []) 0 [o, o, o, o, o] 5).1 := ⟨_, rfl⟩
  obtain ⟨D5, d5⟩ : ∃ b, b = (wrTo b0 (.map []) 0 [o, o, o, o, o] 5).2 := ⟨_, rfl⟩
  obtain ⟨T5, t5⟩ : ∃ b, b = duTo (fun _ => none) b0 (.map []) 0 [o, o, o, o, o] 5 := ⟨_, rfl⟩
  rw [← e5] at HR5 hl5
  rw [← d5, ← t5] at HD5
  rw [← d5] at HM5
  rw [← t5] at HT5
  have E5 := Lib.hid e5
  have F5 := Lib.hid d5
  have HD6 := Lib.hid (HD5.out.loose HM5.out (show k < 5 by omega) (length_rowS hl5 (show k + 1 ≤ 5 by omega)))
  have HL6 := Lib.hid (show (looseL (looseT T5 b5 k) 5).length = 5 by
    rw [looseL_all (fun i hi => by rw [some_looseT, HT5.out i hi]; rfl)]; rfl)
  have hl6 := length_putS hl5 (show k < 5 by omega) hfl
  rw [hl5] at hl6
  have HR6 := Lib.hid (show ∀ q, q < 5 → rowS (putS b5 k f) q 1 = if q = k then padS f else padS o from fun q hq => by
    by_cases hc : q = k
    · subst hc
      rw [if_pos rfl, row_put_same hl5 (by omega) hfl]
    · rw [if_neg hc, row_put_other hl5 (by omega) hfl hc, HR5.out q hq])
  obtain ⟨T6, t6⟩ : ∃ b, b = looseT T5 b5 k := ⟨_, rfl⟩
  obtain ⟨b6, e6⟩ : ∃ b, b = putS b5 k f := ⟨_, rfl⟩
  rw [← t6] at HD6 HL6
  rw [← e6] at HR6 hl6
  have E6 := Lib.hid e6
  have HRL := Lib.hid (length_rowS hl6 (show 0 + 5 ≤ 5 by omega))
  have HRR := Lib.hid (fun q (hq : q < 5) => row_of_row (bs := b6) (i := 0) hq)
  obtain ⟨all, hall⟩ : ∃ b, b = rowS b6 0 5 := ⟨_, rfl⟩
  have EALL := Lib.hid hall
  rw [← hall] at HRL
  simp only [← hall, Nat.zero_add] at HRR
  have hal : all.length = 320 := HRL.out
  clear hall e5 d5 t5 t6 e6 HD5 HM5 HT5 hl5 hl6 HR5 hbl hls HRL
  go_enter Try.func7, Try.ntmps7
  go_wp2_with fail
  refine (HC1.out _).mono ?_
  rintro e w1 ⟨rfl, rfl⟩
  go_wp2_with fail
  refine (HC2.out _).mono ?_
  rintro e w1 ⟨rfl, rfl⟩
  go_wp2_with fail
  refine (HAW.out _).mono ?_
  rintro e w1 ⟨rfl, hb1⟩
  have HN := Lib.hid (fun W => new_any 5 (by omega) W)
  simp only [← hb0] at HN
  clear hb0 HC1 HC2 HAW
  go_wp2_with (first
    | (refine wp_max0 (c := n) (d := 0) (.tmp 18) (.const (.int .i64 0)) rfl rfl rfl rfl ?_)
    | (refine wp_min0 (c := max n 0) (d := 4) (.tmp 19) (.const (.int .i64 4)) HK.out rfl rfl rfl rfl ?_)
    | fail)
  refine (HN.out _).mono ?_
  rintro e w2 ⟨fa, ca, ma, da, rfl, hda, hb2, k1, k2, k3, k4⟩
  have HB2 := Lib.hid (belowThen (belowThen hb1 hb2) (belowSelf w2 (.cells #[tx o, tx o, tx o, tx o, tx o] 9)))
  have hb1s := hb1.size
  have HG := Lib.hid (three_ge (Nat.le_trans hb1s k1) (Nat.le_trans hb1s k2) (Nat.le_trans hb1s k3))
  have HW := Lib.hid (write_ok 0 (.slice (some ⟨w2.heap.size, 0, none⟩) 5 5) [o, o, o, o, o] (Txs.new (w := w2) (t := 9) [o, o, o, o, o] 5) (by simp) (hda.below (belowSelf w2 _)) (show 0 + 5 ≤ 5 by omega) HLS.out rfl)
  rw [show ([o, o, o, o, o] : List (List UInt8)).length = 5 from rfl, ← E5.out, ← F5.out] at HW
  clear hb1 hb2 hda k1 k2 k3 k4 hb1s HN
  go_wp2_with fail
  refine HW.out.mono ?_
  rintro e w3 ⟨rfl, hd3, ho3⟩
  have HB3 := Lib.hid (belowThen (Only.belowW HB2.out ho3 HG.out) (belowSelf w3 (.cells #[tx f] 9)))
  have HW := Lib.hid (write_one k (.slice (some ⟨w3.heap.size, 0, none⟩) 1 1) f (Txs.new (w := w3) (t := 9) [f] 1) (by omega) (hd3.below (belowSelf w3 _)) (by omega) hfl rfl)
  rw [← E6.out] at HW
  clear HB2 hd3 ho3
  go_wp2_with fail
  refine HW.out.mono ?_
  rintro e w4 ⟨rfl, hd4, ho4⟩
  have HB4 := Lib.hid (Only.belowW HB3.out ho4 HG.out)
  have HR := Lib.hid (read_ok 0 5 hd4 (by omega) rfl)
  rw [← EALL.out] at HR
  clear HW HB3 hd4 ho4
  go_wp2_with fail
  refine HR.out.mono ?_
  rintro e w5 ⟨rfl, hd5, ho5, -⟩
  have HB5 := Lib.hid (Only.belowW HB4.out ho5 HG.out)
  have HLO := Lib.hid (loose_tab hd5 (by omega) HD6.out)
  rw [HL6.out] at HLO
  clear HR HB4 hd5 ho5
  go_wp2_with fail
  go_loopw [47] (fun v wr => ∃ j : Nat, j ≤ 5 ∧ v = .int .i64 j ∧ w5 = wr) (fun v _ => 5 - (intOf v).toNat)
  case atStart => exact ⟨0, by omega, rfl, rfl⟩
  case round =>
    obtain ⟨j, hj, rfl, rfl⟩ := hrel
    by_cases hlt : j < 5
    · have HRJ := Lib.hid (HRR.out j hlt)
      rw [HR6.out j hlt] at HRJ
      have hd : decide ((j : Int) < 5) = true := by simp; omega
      by_cases hjk : j = k
      · rw [if_pos hjk] at HRJ
        have hd2 : ((j : Int) == (k : Int)) = true := by simp; omega
        clear hjk
        have hex : (str all).extract (j * 64) (j * 64 + 64) = str (padS f) := by rw [extract_str, Nat.mul_comm j 64, HRJ.out]
        go_wp2_with fail
        go_loopw [11] (fun v wr => ∃ t : Nat, t ≤ 64 - f.length ∧ v = .string (str (f ++ List.replicate t 0)) ∧ w5 = wr) (fun v _ => 64 - lenV v)
        case atStart => exact ⟨0, by omega, by simp, rfl⟩
        case round =>
          obtain ⟨t, ht, rfl, rfl⟩ := hrel
          by_cases htl : f.length + t < 64
          · have hd3 : decide ((f.length : Int) + (t : Int) < 64) = true := by simp; omega
            have hps := pad_step f t
            go_wp2
            refine ⟨⟨t + 1, by omega, rfl, trivial⟩, ?_⟩
            simp only [lenV, size_str, List.length_append, List.length_replicate]
            omega
          · have hd3 : decide ((f.length : Int) + (t : Int) < 64) = false := by simp; omega
            have et : t = 64 - f.length := by omega
            have hpd : f ++ List.replicate t 0 = padS f := by rw [et]; rfl
            rw [hpd]
            have hpl : (padS f).length = 64 := length_padS hfl
            go_wp2
            refine ⟨⟨j + 1, by omega, by go_num, trivial⟩, ?_⟩
            simp [intOf]; omega
      · rw [if_neg hjk] at HRJ
        have hd2 : ((j : Int) == (k : Int)) = false := by simp; omega
        clear hjk
        have hex : (str all).extract (j * 64) (j * 64 + 64) = str (padS o) := by rw [extract_str, Nat.mul_comm j 64, HRJ.out]
        go_wp2_with fail
        go_loopw [11] (fun v wr => ∃ t : Nat, t ≤ 64 - o.length ∧ v = .string (str (o ++ List.replicate t 0)) ∧ w5 = wr) (fun v _ => 64 - lenV v)
        case atStart => exact ⟨0, by omega, by simp, rfl⟩
        case round =>
          obtain ⟨t, ht, rfl, rfl⟩ := hrel
          by_cases htl : o.length + t < 64
          · have hd3 : decide ((o.length : Int) + (t : Int) < 64) = true := by simp; omega
            have hps := pad_step o t
            go_wp2
            refine ⟨⟨t + 1, by omega, rfl, trivial⟩, ?_⟩
            simp only [lenV, size_str, List.length_append, List.length_replicate]
            omega
          · have hd3 : decide ((o.length : Int) + (t : Int) < 64) = false := by simp; omega
            have et : t = 64 - o.length := by omega
            have hpd : o ++ List.replicate t 0 = padS o := by rw [et]; rfl
            rw [hpd]
            have hpl : (padS o).length = 64 := length_padS hol
            go_wp2
            refine ⟨⟨j + 1, by omega, by go_num, trivial⟩, ?_⟩
            simp [intOf]; omega
    · have ek : j = 5 := by omega
      subst ek
      go_wp2_with fail
      refine HLO.out.mono ?_
      rintro e w6 ⟨ad, cap, rfl, -, hb6⟩
      have HB6 := Lib.hid (belowThen HB5.out hb6)
      clear hb6
      go_wp2
      go_ret
      exact ⟨rfl, HB6.out⟩
end Go.Proofs.Ythnkjgmoofhaoaa

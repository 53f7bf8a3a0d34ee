/-
  SectorFails: the walk.
-/
import Derived.Test.YthnkjgmoofhaoaaSec13
namespace Go.Proofs.Ythnkjgmoofhaoaa
open Go.RowKit Go.Maps Go.Sort Go.Shelf Crv

theorem pad_take (l : List UInt8) : (str (padS l)).extract 0 l.length = str l := by
  rw [extract_str]
  unfold padS
  rw [List.take_left']
  · rfl
  · rfl
theorem loose_one (b0 : List UInt8) : (looseL (looseT (fun _ => none) b0 1) 3).length = 1 := rfl

set_option maxHeartbeats 2000000 in
set_option maxRecDepth 100000 in
theorem sectorFails_walk (n : Int) (s0 : List UInt8) (w : World) :
    Calls Try.prog 6 #[.int .i64 n, .string (str s0)] w fun e w' => e = .returned (.bool true) ∧ Below w.heap.size w w' := by
  have HAW := Lib.hid awake3_any
  have HCUT := Lib.hid (fun W => cutB s0 64 (by omega) W)
  rw [show (64 : Int).toNat = 64 from rfl] at HCUT
  obtain ⟨s, hs⟩ : ∃ s, s = s0.take 64 := ⟨_, rfl⟩
  have hsl : s.length ≤ 64 := by rw [hs, List.length_take]; omega
  rw [← hs] at HCUT
  clear hs
  have hx := pad_take s
  have HPL := Lib.hid (length_padS hsl)
  obtain ⟨p, hp⟩ : ∃ p, p = padS s := ⟨_, rfl⟩
  have HP := Lib.hid hp
  rw [← hp] at hx HPL
  have hpl : p.length = 64 := HPL.out
  clear hp
  by_cases hn : n < 0
  · go_enter Try.func6, Try.ntmps6
    go_wp2_with fail
    refine (HCUT.out _).mono ?_
    rintro e w1 ⟨rfl, rfl⟩
    go_wp2_with fail
    refine (HAW.out _).mono ?_
    rintro e w1 ⟨rfl, hb1⟩
    go_wp2_with fail
    refine (HAW.out _).mono ?_
    rintro e w2 ⟨rfl, hb2⟩
    go_wp2
    go_ret
    exact ⟨rfl, belowThen hb1 hb2⟩
  by_cases hn3 : 30 < n
  · go_enter Try.func6, Try.ntmps6
    go_wp2_with fail
    refine (HCUT.out _).mono ?_
    rintro e w1 ⟨rfl, rfl⟩
    go_wp2_with fail
    refine (HAW.out _).mono ?_
    rintro e w1 ⟨rfl, hb1⟩
    go_wp2_with fail
    refine (HAW.out _).mono ?_
    rintro e w2 ⟨rfl, hb2⟩
    go_wp2
    go_ret
    exact ⟨rfl, belowThen hb1 hb2⟩
  obtain ⟨m, rfl⟩ : ∃ m : Nat, n = m := ⟨n.toNat, by omega⟩
  have hm : m ≤ 30 := by omega
  clear hn hn3
  have g1 : ¬ (m : Int) < 0 := by omega
  have g2 : ¬ 30 < (m : Int) := by omega
  go_enter Try.func6, Try.ntmps6
  go_wp2_with fail
  refine (HCUT.out _).mono ?_
  rintro e w1 ⟨rfl, rfl⟩
  go_wp2_with fail
  refine (HAW.out _).mono ?_
  rintro e w1 ⟨rfl, hb1⟩
  have HN := Lib.hid (new_any 3 (by omega) w1)
  obtain ⟨b0, hb0⟩ : ∃ b, b = List.replicate (64 * 3) (0 : UInt8) := ⟨_, rfl⟩
  rw [← hb0] at HN
  clear hb0 g1 g2
  go_wp2_with fail
  refine HN.out.mono ?_
  rintro e w2 ⟨fb, cb, mb, db, rfl, hd2, hb2, k1, k2, k3, k4⟩
  have hb1s := hb1.size
  have HG := Lib.hid (three_ge (Nat.le_trans hb1s k1) (Nat.le_trans hb1s k2) (Nat.le_trans hb1s k3))
  have HB2 := Lib.hid (belowThen (belowThen hb1 hb2) (belowSelf w2 (.cells #[.string (str s)] 9)))
  have HRW := Lib.hid (show rowS (putS b0 1 s) 1 1 = p by rw [row_put_same hd2.len (by omega) hsl, HP.out])
  have HDU := Lib.hid ((Du.none 3).loose (bs := b0) isMap_empty (show 1 < 3 by omega) (length_rowS hd2.len (show 1 + 1 ≤ 3 by omega)))
  have HL1 := Lib.hid (loose_one b0)
  have HW := Lib.hid (write_one 1 (.slice (some ⟨w2.heap.size, 0, none⟩) 1 1) s (Txs.new (w := w2) (t := 9) [s] 1) (by omega) (hd2.below (belowSelf w2 _)) (by omega) hsl rfl)
  obtain ⟨D1, hD1⟩ : ∃ D, D = looseD (.map []) b0 1 := ⟨_, rfl⟩
  obtain ⟨T1, hT1⟩ : ∃ T, T = looseT (fun _ => none) b0 1 := ⟨_, rfl⟩
  obtain ⟨b1, hb1e⟩ : ∃ b, b = putS b0 1 s := ⟨_, rfl⟩
  rw [← hD1, ← hT1] at HDU
  rw [← hT1] at HL1
  rw [← hb1e] at HRW HW
  rw [← hD1] at HW
  clear hD1 hT1 hb1e HN hd2 hb1 hb2 k1 k2 k3 k4 hb1s HP
  go_wp2_with fail
  refine HW.out.mono ?_
  rintro e w3 ⟨rfl, hd3, ho3⟩
  have HB3 := Lib.hid (Only.belowW HB2.out ho3 HG.out)
  have HA := Lib.hid (arm_any m (by omega) hd3)
  have c0 : w3.cell? ⟨db, 0, none⟩ = some (ptr fb) := hd3.d.cell 0
  clear HW HB2 hd3 ho3
  go_wp2_with fail
  refine HA.out.mono ?_
  rintro e w4 ⟨rfl, hd4, ho4, -⟩
  have HB4 := Lib.hid (Only.belowW HB3.out ho4 HG.out)
  have HD4 := Lib.hid hd4
  clear HA HB3 hd4 ho4 c0
  go_wp2_with fail
  go_loopw [6] (fun x wr => ∃ j : Nat, j ≤ m ∧ x = .int .i64 j ∧ Hid (Dk wr fb cb mb db 3 true ((m : Int) - j) b1 (0 + 1) D1) ∧ Hid (Below w.heap.size w wr)) (fun x _ => m - (intOf x).toNat)
  case atStart => exact ⟨0, by omega, rfl, Lib.hid (by simpa using HD4.out), HB4⟩
  case round =>
    obtain ⟨j, hj, rfl, HDR, HBR⟩ := hrel
    by_cases hlt : j < m
    · have hd : decide ((j : Int) < (m : Int)) = true := by simp; omega
      have HR := Lib.hid (read_ok 0 3 HDR.out (by omega) (by simp [okS]; omega))
      rw [show leftS true ((m : Int) - j) = (m : Int) - (j + 1 : Nat) by unfold leftS; rw [if_pos ⟨rfl, by omega⟩]; omega] at HR
      go_wp2_with fail
      refine HR.out.mono ?_
      rintro e w5 ⟨rfl, hd5, ho5, -⟩
      have HB5 := Lib.hid (Only.belowW HBR.out ho5 HG.out)
      have HD5 := Lib.hid hd5
      clear HR hd5 ho5
      go_wp2
      go_roundw
      case rel => exact ⟨j + 1, by omega, by go_num, HD5, HB5⟩
      case measure => simp [intOf]; omega
    · have ek : j = m := by omega
      subst ek
      have hd0 := HDR.out
      rw [show (j : Int) - j = 0 by omega] at hd0
      have HR := Lib.hid (read_io 1 1 (by omega) hd0 (by decide) rfl)
      clear HDR hd0
      go_wp2_with fail
      refine HR.out.mono ?_
      rintro e w5 ⟨rfl, hd5, ho5, -⟩
      have HB5 := Lib.hid (Only.belowW HBR.out ho5 HG.out)
      have HW := Lib.hid (write_io 1 (.slice (some ⟨w5.heap.size, 0, none⟩) 1 1) [[101, 108, 115, 101]] (Txs.new (w := w5) (t := 9) [[101, 108, 115, 101]] 1) (by simp) (by omega) (hd5.below (belowSelf w5 _)) (by decide) (by decide) rfl)
      have HB6 := Lib.hid (belowThen HB5.out (belowSelf w5 (.cells #[tx [101, 108, 115, 101]] 9)))
      clear HR hd5 ho5 HB5 HBR
      go_wp2_with fail
      refine HW.out.mono ?_
      rintro e w6 ⟨rfl, hd6, ho6, -⟩
      have HB7 := Lib.hid (Only.belowW HB6.out ho6 HG.out)
      have HS := Lib.hid (sync_io hd6 rfl)
      clear HW hd6 ho6 HB6
      go_wp2_with fail
      refine HS.out.mono ?_
      rintro e w7 ⟨rfl, hd7, ho7, -⟩
      have HB8 := Lib.hid (Only.belowW HB7.out ho7 HG.out)
      have HW := Lib.hid (write_out 9 (.slice (some ⟨w7.heap.size, 0, none⟩) 1 1) [[120]] (Txs.new (w := w7) (t := 9) [[120]] 1) (by omega) (hd7.below (belowSelf w7 _)) (by decide))
      have HD8 := Lib.hid (hd7.below (belowSelf w7 (.cells #[tx [120]] 9)))
      have HB9 := Lib.hid (belowThen HB8.out (belowSelf w7 (.cells #[tx [120]] 9)))
      clear HS hd7 ho7 HB7 HB8
      go_wp2_with fail
      refine HW.out.mono ?_
      rintro e w8 ⟨rfl, rfl⟩
      have HLO := Lib.hid (loose_tab HD8.out (by omega) HDU.out)
      rw [HL1.out] at HLO
      clear HW
      go_wp2_with fail
      refine HLO.out.mono ?_
      rintro e w9 ⟨ad, cap, rfl, -, hb9⟩
      have HD9 := Lib.hid (HD8.out.below hb9)
      have HB10 := Lib.hid (belowThen HB9.out hb9)
      have c0 : w9.cell? ⟨db, 0, none⟩ = some (ptr fb) := HD9.out.d.cell 0
      clear HLO hb9 HD8 HB9
      go_wp2_with fail
      refine (clear_any HD9.out).mono ?_
      rintro e w10 ⟨rfl, hd10, ho10, -⟩
      have HB11 := Lib.hid (Only.belowW HB10.out ho10 HG.out)
      have HR := Lib.hid (read_ok 1 1 hd10 (by omega) rfl)
      rw [HRW.out] at HR
      clear HD9 c0 hd10 ho10 HB10
      go_wp2_with fail
      refine HR.out.mono ?_
      rintro e w11 ⟨rfl, hd11, ho11, -⟩
      have HB12 := Lib.hid (Only.belowW HB11.out ho11 HG.out)
      have HS := Lib.hid (sync_ok hd11 rfl)
      clear HR hd11 ho11 HB11
      go_wp2_with fail
      refine HS.out.mono ?_
      rintro e w12 ⟨rfl, hd12, ho12, -⟩
      have HB13 := Lib.hid (Only.belowW HB12.out ho12 HG.out)
      clear hd12 ho12
      go_wp2
      go_ret
      exact ⟨rfl, HB13.out⟩
end Go.Proofs.Ythnkjgmoofhaoaa

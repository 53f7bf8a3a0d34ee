/-
  BaleStays: the walk.
-/
import Derived.Test.YtclggeicpdkkdaaBal10
import Derived.Test.YtclggeicpdkkdaaBLaw1
namespace Go.Proofs.Ytclggeicpdkkdaa
open Go.RowKit Crv
attribute [local go_sem] ByteArray.mk_append_mk

/-- A slice value that reads as a list of pairs of numbers. -/
def Pairs (w : World) (v : Value) (ts : List (Int × Int)) : Prop := ∃ a cap, v = .slice a ts.length cap ∧ ∀ i (h : i < ts.length), ∃ b off, a = some ⟨b, off, none⟩ ∧ w.cell? ⟨b, off + i * 2, none⟩ = some (.int .i64 (ts[i]).1) ∧ w.cell? ⟨b, off + i * 2 + 1, none⟩ = some (.int .i64 (ts[i]).2) ∧ b < w.heap.size ∧ -9223372036854775808 ≤ (ts[i]).2 ∧ (ts[i]).2 < 9223372036854775808

/-- The memory of BaleStays' loop. -/
def Stay (w0 w : World) (g X : Nat) : Prop := BM w g badS ∧ Mem w X Tr badCells ∧ Below w0.heap.size w0 w
theorem Stay.below {w0 w w' : World} {g X : Nat} (h : Stay w0 w g X) (hb : Below w.heap.size w w') : Stay w0 w' g X := ⟨h.1.below hb, h.2.1.below hb h.2.1.lt, belowThen h.2.2 hb⟩
theorem Stay.take {w0 w w' : World} {g X : Nat} (h : Stay w0 w g X) (hm : BM w' g badS) (hg : w.grownBy w' (some g)) (hX : g < X) (h0 : w0.heap.size ≤ g) : Stay w0 w' g X :=
  ⟨hm, h.2.1.grown hg (fun e => by injection e with e; omega), belowNew h.2.2 hg h0⟩

/-- What the loop's statement reads, at each of its steps. -/
abbrev StayS (w0 : World) (g X b o0 o1 : Nat) (kd n : Int) (w' : World) : Prop := w'.cell? ⟨X, 0, none⟩ = some (.string (str [])) ∧ w'.cell? ⟨X, 1, none⟩ = some (.int .i64 2) ∧ w'.cell? ⟨b, o0, none⟩ = some (.int .i64 kd) ∧ w'.cell? ⟨b, o1, none⟩ = some (.int .i64 n) ∧ Stay w0 w' g X
theorem stayS_of {w0 w' : World} {g X b o0 o1 : Nat} {kd n : Int} (hS : Stay w0 w' g X) (hq : w0.cell? ⟨b, o0, none⟩ = some (.int .i64 kd) ∧ w0.cell? ⟨b, o1, none⟩ = some (.int .i64 n)) (hb : b < w0.heap.size) : StayS w0 g X b o0 o1 kd n w' :=
  ⟨hS.2.1.cell 0, hS.2.1.cell 1, (hS.2.2.cell (p := ⟨b, o0, none⟩) hb).trans hq.1, (hS.2.2.cell (p := ⟨b, o1, none⟩) hb).trans hq.2, hS⟩
theorem Stay.drew {w0 w : World} {g X : Nat} (h : Stay w0 w g X) : Stay w0 w.drew g X := ⟨h.1, h.2.1, below_drewN h.2.2 1⟩
theorem Stay.set {w0 w : World} {g X : Nat} (h : Stay w0 w g X) {p : Addr} (hp : X < p.block) (hX : g < X) (h0 : w0.heap.size ≤ g) (u : Value) : Stay w0 (w.setCell p u) g X :=
  ⟨Mem.other h.1 (by omega) _, h.2.1.other (by omega) _, h.2.2.setCell (by omega) _⟩
theorem Stay.put {w0 w : World} {g X : Nat} (h : Stay w0 w g X) (hX : g < X) (h0 : w0.heap.size ≤ g) : Stay w0 ((w.setCell ⟨X, 0, none⟩ (.string (str []))).setCell ⟨X, 1, none⟩ (.int .i64 2)) g X :=
  ⟨Mem.other (Mem.other h.1 (by simp; omega) _) (by simp; omega) _, (h.2.1.set 0 _).set 1 _, (h.2.2.setCell (by simp; omega) _).setCell (by simp; omega) _⟩
theorem stayS_stay {w0 w' : World} {g X b o0 o1 : Nat} {kd n : Int} (h : w'.cell? ⟨X, 0, none⟩ = some (.string (str [])) ∧ w'.cell? ⟨X, 1, none⟩ = some (.int .i64 2) ∧ w'.cell? ⟨b, o0, none⟩ = some (.int .i64 kd) ∧ w'.cell? ⟨b, o1, none⟩ = some (.int .i64 n) ∧ Stay w0 w' g X) : Stay w0 w' g X := h.2.2.2.2
theorem bytes_behind (s : List UInt8) : bytesS (s ++ [9], 0) (s.length : Int) = (([9], 0), s) := by
  unfold bytesS
  rw [if_neg (by simp; omega)]
  simp
theorem num9 : numS (([9] : List UInt8), (0 : Int)) = (badS, 0) := by decide +kernel
theorem fail5 : failS badS 5 = badS := rfl

set_option maxRecDepth 100000 in
set_option maxHeartbeats 2000000 in
theorem baleStays_walk (s0 : List UInt8) (v1 : Value) (ts : List (Int × Int)) (w : World) (hv : Pairs w v1 ts) (hlen : ts.length ≤ 9223372036854775807) :
    Calls Try.prog 6 #[.string (str s0), v1] w fun e w' => e = .returned (.bool true) ∧ Below w.heap.size w w' := by
  obtain ⟨a1, cap1, rfl, hcell1⟩ := hv
  have HV := Lib.hid hcell1
  clear hcell1
  go_enter Try.func6, Try.ntmps6
  go_wp2_with fail
  refine (cutB s0 _ (by decide) _).mono ?_
  rintro e w' ⟨rfl, rfl⟩
  obtain ⟨s, hs⟩ : ∃ s, s = s0.take (60 : Int).toNat := ⟨_, rfl⟩
  have ls : s.length ≤ 60 := by rw [hs]; exact List.length_take_le _ _
  rw [← hs]
  clear hs
  go_wp2_with fail
  refine (open_any (s ++ [9]) _).mono ?_
  rintro e w1 ⟨rfl, hm1, hb1, hz1⟩
  have HM1 := Lib.hid hm1
  obtain ⟨g, hg⟩ : ∃ g, g = w.heap.size := ⟨_, rfl⟩
  rw [← hg] at HM1
  rw [← hg]
  have hg0 : w.heap.size ≤ g := by omega
  clear hm1 hz1 hg
  go_wp2_with fail
  refine (awake4_any _).mono ?_
  rintro e w2 ⟨rfl, hb2⟩
  have hb02 := belowThen hb1 hb2
  have HB := Lib.hid (bytesB_any w2 g _ (s.length : Int) (HM1.out.below hb2))
  rw [bytes_behind] at HB
  clear HM1 hb1 hb2
  go_wp2_with fail
  refine HB.out.mono ?_
  rintro e w3 ⟨rfl, hm3, hg3⟩
  have hb03 := belowNew hb02 hg3 hg0
  have HN := Lib.hid (numB_any w3 g _ hm3)
  rw [num9] at HN
  clear HB hb02 hg3 hm3
  go_wp2_with fail
  refine HN.out.mono ?_
  rintro e w4 ⟨rfl, hm4, hg4⟩
  have hb04 := belowNew hb03 hg4 hg0
  have HE := Lib.hid (err_any w4 g _ hm4)
  have HF := Lib.hid (fail_any w4 g _ 5 hm4)
  rw [fail5] at HF
  have hgX : g < w4.heap.size := Mem.lt hm4
  clear HN hb03 hg4 hm4
  go_wp2_with fail
  refine HE.out.mono ?_
  rintro e w5 ⟨rfl, rfl⟩
  clear HE
  go_wp2_with fail
  refine HF.out.mono ?_
  rintro e w5 ⟨rfl, hm5, hg5⟩
  have hb05 := belowNew hb04 hg5 hg0
  have hgX5 : g < w5.heap.size := Nat.lt_of_lt_of_le hgX hg5.size
  have HST := Lib.hid (show Stay w (w5.alloc (.cells badCells.toArray Tr)) g w5.heap.size from ⟨BM.below hm5 (belowSelf _ _), Mem.newAt w5 Tr badCells rfl, belowThen hb05 (belowSelf _ _)⟩)
  obtain ⟨X, hX⟩ : ∃ X, X = w5.heap.size := ⟨_, rfl⟩
  rw [← hX] at HST hgX5
  clear HF hb04 hg5 hm5 hgX hb05
  go_wp2_with fail
  rw [← hX]
  clear hX
  go_loopw [7] (fun i wr => ∃ k : Nat, k ≤ ts.length ∧ k ≤ 10 ∧ i = .int .i64 k ∧ Hid (Stay w wr g X)) (fun i _ => 10 - (intOf i).toNat)
  case atStart => exact ⟨0, by omega, by omega, rfl, HST⟩
  case round =>
    obtain ⟨k, hk, hk10, rfl, HS⟩ := hrel
    clear HST
    by_cases hlt : k < ts.length ∧ k < 10
    · obtain ⟨hlt1, hlt2⟩ := hlt
      obtain ⟨b, off, rfl, q0, q1, hbl, hn1, hn2⟩ := HV.out k hlt1
      obtain ⟨kd, hkd⟩ : ∃ kd, kd = ts[k].1 := ⟨_, rfl⟩
      obtain ⟨n, hn⟩ : ∃ n, n = ts[k].2 := ⟨_, rfl⟩
      rw [← hkd] at q0
      rw [← hn] at q1 hn1 hn2
      have hd1 : decide (k < ts.length) = true := by simpa using hlt1
      have hd2 : decide ((k : Int) < 10) = true := by simp; omega
      have HQ := Lib.hid (show w.cell? ⟨b, off + k * 2, none⟩ = some (.int .i64 kd) ∧ w.cell? ⟨b, off + k * 2 + 1, none⟩ = some (.int .i64 n) from ⟨q0, q1⟩)
      clear hkd hn q0 q1
      have hXr : X < wr.heap.size := HS.out.2.1.lt
      have HNE := Lib.hid (show some wr.heap.size ≠ some g by intro e; injection e with e; omega)
      go_wp2_with fail
      go_region_held3 (fun w' => w'.cell? ⟨X, 0, none⟩ = some (.string (str [])) ∧ w'.cell? ⟨X, 1, none⟩ = some (.int .i64 2) ∧ w'.cell? ⟨b, off + k * 2, none⟩ = some (.int .i64 kd) ∧ w'.cell? ⟨b, off + k * 2 + 1, none⟩ = some (.int .i64 n) ∧ Stay w w' g X)
        (first
          | (exact stayS_of (Stay.drew HS.out) HQ.out hbl)
          | (exact stayS_of (Stay.drew (Stay.below HS.out (belowSelf _ _))) HQ.out hbl)
          | (exact stayS_of (Stay.below (Stay.drew HS.out) (belowSelf _ _)) HQ.out hbl)
          | (exact stayS_of hst6 HQ.out hbl)
          | (exact stayS_of (Stay.below hst6 (belowSelf _ _)) HQ.out hbl)
          | (exact stayS_of (Stay.set (Stay.set hst6 hXr hgX5 hg0 _) hXr hgX5 hg0 _) HQ.out hbl)
          | (exact stayS_of (Stay.below (Stay.set (Stay.set hst6 hXr hgX5 hg0 _) hXr hgX5 hg0 _) (belowSelf _ _)) HQ.out hbl))
        (first
          | (go_at_call 28; refine (take_bad kd n _ g ?_ hn1 hn2).mono ?_; (exact (stayS_stay (by assumption)).1); rintro e w6 ⟨rfl, hm6, hg6⟩; have hst6 := Stay.take (stayS_stay (by assumption)) hm6 hg6 hgX5 hg0; have hX6 := hst6.2.1.lt;
              (first | have c80 := (memTwo (Mem.grown (Mem.drew (Mem.newAt wr Tr zeroCells rfl)) hg6 HNE.out)).1 | skip); (first | have c81 := (memTwo (Mem.grown (Mem.drew (Mem.newAt wr Tr zeroCells rfl)) hg6 HNE.out)).2.1 | skip); (first | have f80 := (memTwo (Mem.grown (Mem.drew (Mem.newAt wr Tr zeroCells rfl)) hg6 HNE.out)).2.2.1 | skip); (first | have f81 := (memTwo (Mem.grown (Mem.drew (Mem.newAt wr Tr zeroCells rfl)) hg6 HNE.out)).2.2.2 | skip)))
      · rename_i K1 hK1 K hK hHe
        refine hK _ _ ?_
        have HY7 := Lib.hid (Mem.newAt w6 Tr badCells rfl)
        have HST7 := Lib.hid (Stay.below hst6 (belowSelf w6 (.cells badCells.toArray Tr)))
        obtain ⟨W7, hW7⟩ : ∃ W7, W7 = w6.alloc (.cells badCells.toArray Tr) := ⟨_, rfl⟩
        obtain ⟨Y, hY⟩ : ∃ Y, Y = w6.heap.size := ⟨_, rfl⟩
        rw [← hW7, ← hY] at HY7
        rw [← hW7] at HST7
        rw [← hW7, ← hY]
        clear hY
        clear hW7 hst6 hX6 hm6 hg6 hHe
        obtain ⟨y0, y1, _, _⟩ := memTwo HY7.out
        obtain ⟨x0, x1, fx0, fx1⟩ := memTwo HST7.out.2.1
        have HST8 := Lib.hid (show Stay w ((W7.setCell ⟨X, 0, none⟩ (.string (str []))).setCell ⟨X, 1, none⟩ (.int .i64 2)) g X from HST7.out.put hgX5 hg0)
        have HE := Lib.hid (err_any _ g _ HST8.out.1)
        have HLF := Lib.hid (left_any _ g _ HST8.out.1)
        go_wp2_with fail
        refine HE.out.mono ?_
        rintro e w8 ⟨rfl, rfl⟩
        clear HE
        go_wp2_with fail
        refine HLF.out.mono ?_
        rintro e w8 ⟨rfl, rfl⟩
        clear HLF
        go_wp2_with fail
        go_roundw
        case rel => exact ⟨k + 1, by omega, by omega, by go_num, HST8⟩
        case measure => simp [intOf]; omega
      · rename_i K1 hK1 K hK hHe
        refine hK _ _ ?_
        have HY7 := Lib.hid (show Mem ((w6.setCell ⟨wr.heap.size, 0, none⟩ (.string (str []))).setCell ⟨wr.heap.size, 1, none⟩ (.int .i64 2)) wr.heap.size Tr badCells from ((Mem.grown (Mem.drew (Mem.newAt wr Tr zeroCells rfl)) hg6 HNE.out).set 0 _).set 1 _)
        have HST7 := Lib.hid (show Stay w ((w6.setCell ⟨wr.heap.size, 0, none⟩ (.string (str []))).setCell ⟨wr.heap.size, 1, none⟩ (.int .i64 2)) g X from Stay.set (Stay.set hst6 hXr hgX5 hg0 _) hXr hgX5 hg0 _)
        obtain ⟨W7, hW7⟩ : ∃ W7, W7 = (w6.setCell ⟨wr.heap.size, 0, none⟩ (.string (str []))).setCell ⟨wr.heap.size, 1, none⟩ (.int .i64 2) := ⟨_, rfl⟩
        rw [← hW7] at HY7 HST7
        rw [← hW7]
        clear c80 c81 f80 f81
        clear hW7 hst6 hX6 hm6 hg6 hHe
        obtain ⟨y0, y1, _, _⟩ := memTwo HY7.out
        obtain ⟨x0, x1, fx0, fx1⟩ := memTwo HST7.out.2.1
        have HST8 := Lib.hid (show Stay w ((W7.setCell ⟨X, 0, none⟩ (.string (str []))).setCell ⟨X, 1, none⟩ (.int .i64 2)) g X from HST7.out.put hgX5 hg0)
        have HE := Lib.hid (err_any _ g _ HST8.out.1)
        have HLF := Lib.hid (left_any _ g _ HST8.out.1)
        go_wp2_with fail
        refine HE.out.mono ?_
        rintro e w8 ⟨rfl, rfl⟩
        clear HE
        go_wp2_with fail
        refine HLF.out.mono ?_
        rintro e w8 ⟨rfl, rfl⟩
        clear HLF
        go_wp2_with fail
        go_roundw
        case rel => exact ⟨k + 1, by omega, by omega, by go_num, HST8⟩
        case measure => simp [intOf]; omega
    · have HC := Lib.hid (close_any _ g _ HS.out.1)
      simp only [if_true] at HC
      have hbw : Below w.heap.size w wr := HS.out.2.2
      have hd : (decide (k < ts.length) && decide ((k : Int) < 10)) = false := by
        by_cases h1 : k < ts.length
        · have h2 : ¬ k < 10 := fun h => hlt ⟨h1, h⟩
          simp [h1]; omega
        · simp [h1]
      clear hlt HS
      by_cases h1 : k < ts.length
      · have h2 : decide ((k : Int) < 10) = false := by simpa [h1] using hd
        have h1' : decide (k < ts.length) = true := by simpa using h1
        clear hd
        go_wp2_with fail
        refine HC.out.mono ?_
        rintro e w7 ⟨rfl, hm7, hg7⟩
        clear hm7
        go_wp2_with fail
        go_ret
        exact ⟨rfl, belowNew hbw hg7 hg0⟩
      · have h1' : decide (k < ts.length) = false := by simpa using h1
        clear hd
        go_wp2_with fail
        refine HC.out.mono ?_
        rintro e w7 ⟨rfl, hm7, hg7⟩
        clear hm7
        go_wp2_with fail
        go_ret
        exact ⟨rfl, belowNew hbw hg7 hg0⟩
end Go.Proofs.Ytclggeicpdkkdaa

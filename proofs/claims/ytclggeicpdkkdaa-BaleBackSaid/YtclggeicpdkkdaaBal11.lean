/-
  The reference's Num and Str of layer 4.
-/
import Derived.Test.YtclggeicpdkkdaaBal6
namespace Go.Proofs.Ytclggeicpdkkdaa
open Go.RowKit Crv
attribute [local go_sem] ByteArray.mk_append_mk

theorem be_front : ∀ (k n : Nat), be (k + 1) n = UInt8.ofNat (n / 256 ^ k) :: be k n
  | 0, n => by simp [be]
  | k + 1, n => by
    have h := be_front k (n / 256)
    rw [be, h, Nat.div_div_eq_div_mul, List.cons_append]
    rw [show 256 * 256 ^ k = 256 ^ (k + 1) from by rw [Nat.pow_succ, Nat.mul_comm]]
    rfl
theorem lt_numLen (n i : Nat) : i < numLen n ↔ 0 < n / 256 ^ i := by
  have hp : 0 < 256 ^ i := Nat.pow_pos (by omega)
  rw [Nat.div_pos_iff, pow256]
  unfold numLen
  constructor
  · intro h
    refine ⟨Nat.pow_pos (by omega), ?_⟩
    by_cases h0 : n = 0
    · subst h0
      simp [len64] at h
    · refine Nat.le_trans ?_ (len64_ge n h0)
      exact Nat.pow_le_pow_right (by omega) (by omega)
  · rintro ⟨_, h⟩
    have := (Nat.pow_lt_pow_iff_right (by omega : 1 < 2)).1 (Nat.lt_of_le_of_lt h (len64_lt n))
    omega

theorem byte_string (x : Int) (b : UInt8) (hx : x = (b.toNat : Int)) (W : World) :
    (convert 32 9 (.slice (some ⟨W.heap.size, 0, none⟩) 1 1)).run Try.prog (W.alloc (.cells #[.int .u8 x] 5)) = .ok (.string (str [b])) (W.alloc (.cells #[.int .u8 x] 5)) := by
  subst hx
  exact (Owns.of_mem (Mem.new W 5 ([b].map byteV)) (Nat.zero_le _) 1 1 (Nat.le_refl _) rfl (by simp [maxLen]) rfl).string Try.underlying32 Try.underlying5 Try.underlying9

set_option maxRecDepth 100000 in
set_option maxHeartbeats 1000000 in
theorem refNum_any (n : Nat) (w : World) (hn : n < 18446744073709551616) :
    Calls Try.prog 7 #[.int .u64 (n : Int)] w fun e w' => e = .returned (.string (str (numOf n))) ∧ Below w.heap.size w w' := by
  have hnl := numLen_le hn
  go_enter Try.func7, Try.ntmps7
  go_wp2_with fail
  go_loopw [0, 3, 4] (fun v s i wr => ∃ (k q : Nat), k ≤ numLen n ∧ i = .int .i64 k ∧ Hid (q = n / 256 ^ k) ∧ v = .int .u64 (q : Int) ∧ s = .string (str (be k n)) ∧ Below w.heap.size w wr) (fun _ _ i _ => 8 - (intOf i).toNat)
  case atStart => exact ⟨0, n, by omega, rfl, Lib.hid (by simp), rfl, rfl, Below.refl _ _⟩
  case round =>
    obtain ⟨k, q, hk, rfl, HQ, rfl, rfl, hb⟩ := hrel
    have hbl := length_be k n
    by_cases hlt : k < numLen n
    · have hq0 : 0 < q := by rw [HQ.out]; exact (lt_numLen n k).1 hlt
      have hql : q < 18446744073709551616 := by rw [HQ.out]; exact Nat.lt_of_le_of_lt (Nat.div_le_self _ _) hn
      have HQ2 := Lib.hid (show q / 256 = n / 256 ^ (k + 1) by rw [HQ.out, Nat.div_div_eq_div_mul, ← Nat.pow_succ])
      have HB := Lib.hid (show be (k + 1) n = UInt8.ofNat q :: be k n by rw [HQ.out]; exact be_front k n)
      have hcv := fun W => byte_string ((q : Int) % 256) (UInt8.ofNat q) (by rw [UInt8.toNat_ofNat']; omega) W
      obtain ⟨l, hl⟩ : ∃ l, l = be k n := ⟨_, rfl⟩
      rw [← hl] at HB hbl ⊢
      have hbl8 : l.length ≤ 8 := by omega
      have hk8 : (k : Int) < 8 := by omega
      have hd : decide ((k : Int) < 8) = true := by simpa using hk8
      have hd2 : decide (0 < q) = true := by simpa using hq0
      clear hl hbl
      go_wp2_with fail
      go_roundw
      case rel => exact ⟨k + 1, q / 256, by omega, by go_num, HQ2, by go_num, by rw [HB.out], hb.alloc hb.size _⟩
      case measure => simp [intOf]; omega
    · have ek : k = numLen n := by omega
      have hq0 : q = 0 := by
        rw [HQ.out]
        exact Nat.eq_zero_of_not_pos (mt (lt_numLen n k).2 hlt)
      subst hq0
      have hcv := fun W => byte_string ((numLen n : Nat) : Int) (UInt8.ofNat (numLen n)) (by rw [UInt8.toNat_ofNat']; omega) W
      rw [← ek] at hcv hnl
      have HNUM := Lib.hid (show numOf n = UInt8.ofNat k :: be k n by rw [ek]; rfl)
      obtain ⟨l, hl⟩ : ∃ l, l = be k n := ⟨_, rfl⟩
      rw [← hl] at HNUM hbl ⊢
      have HBL := Lib.hid hbl
      clear hl hbl ek hlt hk HQ
      by_cases hk8 : k < 8
      · have hd : decide ((k : Int) < 8) = true := by simp; omega
        have hll : (l.length : Int) = (k : Int) := by rw [HBL.out]
        go_wp2_with fail
        go_ret
        exact ⟨by rw [HNUM.out]; rfl, hb.alloc hb.size _⟩
      · have hd : decide ((k : Int) < 8) = false := by simp; omega
        have hll : (l.length : Int) = (k : Int) := by rw [HBL.out]
        go_wp2_with fail
        go_ret
        exact ⟨by rw [HNUM.out]; rfl, hb.alloc hb.size _⟩

set_option maxRecDepth 100000 in
theorem refStr_any (s : List UInt8) (w : World) (hs : s.length ≤ 1099511627776) :
    Calls Try.prog 9 #[.string (str s)] w fun e w' => e = .returned (.string (str (strOf s))) ∧ Below w.heap.size w w' := by
  have hnl := length_numOf (n := s.length) (by omega)
  have HC := Lib.hid (refNum_any s.length w (by omega))
  have HS := Lib.hid (show strOf s = numOf s.length ++ s from rfl)
  obtain ⟨m, hm⟩ : ∃ m, m = numOf s.length := ⟨_, rfl⟩
  rw [← hm] at HC HS hnl
  clear hm
  go_enter Try.func9, Try.ntmps9
  go_wp2_with fail
  refine HC.out.mono ?_
  rintro e w1 ⟨rfl, hb⟩
  clear HC
  go_wp2_with fail
  go_ret
  exact ⟨by rw [HS.out]; rfl, hb⟩

/-- The encoding of names. -/
def idsOf (xs : List (List UInt8)) : List UInt8 := numOf xs.length ++ xs.flatten

theorem flatten_len32 : ∀ (xs : List (List UInt8)), (∀ x ∈ xs, x.length = 32) → xs.flatten.length = 32 * xs.length
  | [], _ => by simp
  | a :: r, h => by
    have h1 := h a (by simp)
    have h2 := flatten_len32 r (fun l hl => h l (by simp [hl]))
    simp only [List.flatten_cons, List.length_append, List.length_cons]
    omega

set_option maxRecDepth 100000 in
set_option maxHeartbeats 1000000 in
theorem refIDs_any (w : World) (v : Value) (xs : List (List UInt8)) (hv : Txs w v xs) (hn : xs.length ≤ 1000) (h32 : ∀ x ∈ xs, x.length = 32) :
    Calls Try.prog 16 #[v] w fun e w' => e = .returned (.string (str (idsOf xs))) ∧ Below w.heap.size w w' := by
  obtain ⟨a, cap, rfl, hcell⟩ := hv
  have HV := Lib.hid (show Txs w (.slice a xs.length cap) xs from ⟨a, cap, rfl, hcell⟩)
  have HL := Lib.hid h32
  have hnl := length_numOf (n := xs.length) (by omega)
  have HC := Lib.hid (refNum_any xs.length w (by omega))
  have HS := Lib.hid (show ∀ k, numOf xs.length ++ (xs.take k).flatten = numOf xs.length ++ (xs.take k).flatten from fun _ => rfl)
  obtain ⟨m, hm⟩ : ∃ m, m = numOf xs.length := ⟨_, rfl⟩
  have HM := Lib.hid (show idsOf xs = m ++ xs.flatten by rw [hm]; rfl)
  rw [← hm] at HC hnl
  clear hcell h32 hm HS
  go_enter Try.func16, Try.ntmps16
  go_wp2_with fail
  refine HC.out.mono ?_
  rintro e w1 ⟨rfl, hb1⟩
  clear HC
  go_wp2_with fail
  go_loop [3, 12] (fun v i => ∃ k : Nat, k ≤ xs.length ∧ i = .int .i64 k ∧ v = .string (str (m ++ (xs.take k).flatten))) (fun _ i => xs.length - (intOf i).toNat)
  case atStart => exact ⟨0, by omega, rfl, by simp⟩
  case round =>
    obtain ⟨k, hk, rfl, rfl⟩ := hrel
    by_cases hlt : k < xs.length
    · obtain ⟨s, hs⟩ : ∃ s, s = xs.getD k [] := ⟨_, rfl⟩
      obtain ⟨a', cap', hv', hc'⟩ := HV.out.below hb1
      injection hv' with h1 h2 h3
      obtain ⟨b, off, ha, hcell⟩ := hc' k hlt
      rw [← h1] at ha
      subst ha
      rw [← hs] at hcell
      have hsk : s = xs[k] := by rw [hs, List.getD_eq_getElem?_getD, List.getElem?_eq_getElem hlt]; rfl
      have hsl : s.length = 32 := HL.out s (by rw [hsk]; exact List.getElem_mem hlt)
      have hsl' : s.length ≤ 32 := by omega
      have HSUM := Lib.hid (show m ++ (xs.take (k + 1)).flatten = m ++ (xs.take k).flatten ++ s by
        rw [List.take_succ_eq_append_getElem hlt, List.flatten_append, ← hsk]; simp)
      have hq : (m ++ (xs.take k).flatten).length ≤ 40000 := by
        have h4 := flatten_len32 (xs.take k) (fun l hl => HL.out l (List.mem_of_mem_take hl))
        have h5 := List.length_take_le k xs
        rw [List.length_append]
        omega
      obtain ⟨q, hq'⟩ : ∃ q, q = m ++ (xs.take k).flatten := ⟨_, rfl⟩
      rw [← hq'] at HSUM hq ⊢
      clear hs h1 h2 h3 hc' hsk hsl hq'
      have hd : decide (k < xs.length) = true := by simp; omega
      go_wp2_with fail
      go_round
      case rel => exact ⟨k + 1, by omega, by go_num, by rw [HSUM.out]⟩
      case measure => simp [intOf]; omega
    · have ek : k = xs.length := by omega
      subst ek
      rw [List.take_length]
      go_wp2
      go_ret
      exact ⟨by rw [HM.out]; rfl, hb1⟩
end Go.Proofs.Ytclggeicpdkkdaa

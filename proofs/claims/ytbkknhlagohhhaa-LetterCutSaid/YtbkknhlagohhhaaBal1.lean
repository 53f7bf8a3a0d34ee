/-
  Package bale: numbers: Len64, appendNum, Num.
-/
import Derived.Test.YtbkknhlagohhhaaBase
namespace Go.Proofs.Ytbkknhlagohhhaa
open Go.RowKit Crv

/-- The last k bytes of a number, the most significant first. -/
def be : Nat → Nat → List UInt8
  | 0, _ => []
  | k + 1, n => be k (n / 256) ++ [UInt8.ofNat n]
theorem length_be : ∀ k n, (be k n).length = k
  | 0, _ => rfl
  | k + 1, n => by simp [be, length_be k]
/-- How many bits a number has. -/
def len64 (n : Nat) : Nat := if n = 0 then 0 else Nat.log2 n + 1
theorem len64_lt (n : Nat) : n < 2 ^ len64 n := by
  unfold len64
  split
  · omega
  · exact Nat.lt_log2_self
theorem len64_ge (n : Nat) (h : n ≠ 0) : 2 ^ (len64 n - 1) ≤ n := by
  unfold len64
  rw [if_neg h]
  exact Nat.log2_self_le h
theorem len64_unique (n k : Nat) (h1 : n < 2 ^ k) (h2 : n = 0 → k = 0) (h3 : n ≠ 0 → 2 ^ (k - 1) ≤ n) : len64 n = k := by
  by_cases h : n = 0
  · rw [h2 h]; simp [len64, h]
  · have a := len64_lt n
    have b := len64_ge n h
    have c := h3 h
    have hk : k ≠ 0 := by rintro rfl; simp at h1; omega
    have hl : len64 n ≠ 0 := by intro e; rw [e] at a; simp at a; omega
    have l1 : 2 ^ (len64 n - 1) < 2 ^ k := Nat.lt_of_le_of_lt b h1
    have l2 : 2 ^ (k - 1) < 2 ^ len64 n := Nat.lt_of_le_of_lt c a
    have m1 := (Nat.pow_lt_pow_iff_right (by omega : 1 < 2)).1 l1
    have m2 := (Nat.pow_lt_pow_iff_right (by omega : 1 < 2)).1 l2
    omega
theorem len64_shift (n s : Nat) (h : 2 ^ s ≤ n) : len64 n = s + len64 (n / 2 ^ s) := by
  have hp : 0 < 2 ^ s := Nat.pow_pos (by omega)
  have hq : n / 2 ^ s ≠ 0 := by
    intro e
    have := (Nat.div_eq_zero_iff).1 e
    omega
  have a := len64_lt (n / 2 ^ s)
  have b := len64_ge (n / 2 ^ s) hq
  have hl : len64 (n / 2 ^ s) ≠ 0 := by intro e; rw [e] at a; simp at a; omega
  refine len64_unique n _ ?_ (fun e => by omega) (fun _ => ?_)
  · rw [Nat.pow_add]
    exact (Nat.div_lt_iff_lt_mul hp).1 a |> fun h => by rw [Nat.mul_comm]; exact h
  · rw [show s + len64 (n / 2 ^ s) - 1 = s + (len64 (n / 2 ^ s) - 1) from by omega, Nat.pow_add, Nat.mul_comm]
    exact (Nat.le_div_iff_mul_le hp).1 b
theorem len64_le {n k : Nat} (h : n < 2 ^ k) : len64 n ≤ k := by
  by_cases h0 : n = 0
  · simp [len64, h0]
  · have b := len64_ge n h0
    have := (Nat.pow_lt_pow_iff_right (by omega : 1 < 2)).1 (Nat.lt_of_le_of_lt b h)
    omega
def lenTab : List UInt8 := (List.range 256).map fun n => UInt8.ofNat (len64 n)
theorem lenTab_get (n : Nat) (h : n < 256) : ((lenTab.getD n 0).toNat : Int) = (len64 n : Int) := by
  have hl : len64 n ≤ 8 := len64_le (k := 8) (by omega)
  rw [lenTab, List.getD_eq_getElem?_getD, List.getElem?_map, List.getElem?_range h]
  simp only [Option.map_some, Option.getD_some, UInt8.toNat_ofNat']
  omega

theorem len_tab (q : Nat) (h : q < 256) (T : ByteArray) (hT : T = str lenTab) (p : q < T.size) : ((T[q]'p).toNat : Int) = (len64 q : Int) := by
  subst hT
  have e : (str lenTab)[q]'p = lenTab.getD q 0 := by
    rw [List.getD_eq_getElem?_getD, List.getElem?_eq_getElem (by simpa [lenTab] using h)]
    rfl
  rw [e]
  exact lenTab_get q h
theorem retInt {k : IntKind} {a b : Int} (h : a = b) : Ending.returned (.int k a) = .returned (.int k b) := by rw [h]
set_option maxRecDepth 100000 in
set_option maxHeartbeats 1000000 in
theorem len64_0 (n : Nat) (w : World) (hn : n < 18446744073709551616) (h32 : n < 4294967296) (h16 : n < 65536) (h8 : n < 256) :
    Calls Try.prog 94 #[.int .u64 (n : Int)] w fun e w' => e = .returned (.int .i64 (len64 n : Int)) ∧ w = w' := by
  have k32 : ¬ ((4294967296 : Int) ≤ (n : Int)) := by omega
  have k16 : ¬ ((65536 : Int) ≤ (n : Int)) := by omega
  have k8 : ¬ ((256 : Int) ≤ (n : Int)) := by omega
  have hc : n < 256 := by omega
  have hd : (n : Int) < 256 := by omega
  have hl := len64_le (n := n) (k := 8) hc
  go_enter Try.func94, Try.ntmps94
  go_wp2_with fail
  go_ret
  refine ⟨retInt ?_, rfl⟩
  rw [len_tab n hc _ ?hT _]
  · simp only [wrap64]; omega
  · kernel_rfl
set_option maxRecDepth 100000 in
set_option maxHeartbeats 1000000 in
theorem len64_8 (n q8 : Nat) (w : World) (hn : n < 18446744073709551616) (h32 : n < 4294967296) (h16 : n < 65536) (h8 : 256 ≤ n) (e8 : q8 = n / 256) (HL : Hid (len64 n = 8 + len64 q8)) :
    Calls Try.prog 94 #[.int .u64 (n : Int)] w fun e w' => e = .returned (.int .i64 (len64 n : Int)) ∧ w = w' := by
  have k32 : ¬ ((4294967296 : Int) ≤ (n : Int)) := by omega
  have k16 : ¬ ((65536 : Int) ≤ (n : Int)) := by omega
  have k8 : (256 : Int) ≤ (n : Int) := by omega
  have f8 : (n : Int) / 256 = (q8 : Int) := by omega
  have hc : q8 < 256 := by omega
  have hd : (q8 : Int) < 256 := by omega
  have hl := len64_le (n := q8) (k := 8) hc
  clear e8
  go_enter Try.func94, Try.ntmps94
  go_wp2_with fail
  go_ret
  refine ⟨retInt ?_, rfl⟩
  rw [len_tab q8 hc _ ?hT _]
  rw [HL.out]
  · simp only [wrap64]; omega
  · kernel_rfl
set_option maxRecDepth 100000 in
set_option maxHeartbeats 1000000 in
theorem len64_16 (n q16 : Nat) (w : World) (hn : n < 18446744073709551616) (h32 : n < 4294967296) (h16 : 65536 ≤ n) (e16 : q16 = n / 65536) (h8 : q16 < 256) (HL : Hid (len64 n = 16 + len64 q16)) :
    Calls Try.prog 94 #[.int .u64 (n : Int)] w fun e w' => e = .returned (.int .i64 (len64 n : Int)) ∧ w = w' := by
  have k32 : ¬ ((4294967296 : Int) ≤ (n : Int)) := by omega
  have k16 : (65536 : Int) ≤ (n : Int) := by omega
  have f16 : (n : Int) / 65536 = (q16 : Int) := by omega
  have k8 : ¬ ((256 : Int) ≤ (q16 : Int)) := by omega
  have hc : q16 < 256 := by omega
  have hd : (q16 : Int) < 256 := by omega
  have hl := len64_le (n := q16) (k := 8) hc
  clear e16
  go_enter Try.func94, Try.ntmps94
  go_wp2_with fail
  go_ret
  refine ⟨retInt ?_, rfl⟩
  rw [len_tab q16 hc _ ?hT _]
  rw [HL.out]
  · simp only [wrap64]; omega
  · kernel_rfl
set_option maxRecDepth 100000 in
set_option maxHeartbeats 1000000 in
theorem len64_16_8 (n q16 q8 : Nat) (w : World) (hn : n < 18446744073709551616) (h32 : n < 4294967296) (h16 : 65536 ≤ n) (e16 : q16 = n / 65536) (h8 : 256 ≤ q16) (e8 : q8 = q16 / 256) (HL : Hid (len64 n = 24 + len64 q8)) :
    Calls Try.prog 94 #[.int .u64 (n : Int)] w fun e w' => e = .returned (.int .i64 (len64 n : Int)) ∧ w = w' := by
  have k32 : ¬ ((4294967296 : Int) ≤ (n : Int)) := by omega
  have k16 : (65536 : Int) ≤ (n : Int) := by omega
  have f16 : (n : Int) / 65536 = (q16 : Int) := by omega
  have k8 : (256 : Int) ≤ (q16 : Int) := by omega
  have f8 : (q16 : Int) / 256 = (q8 : Int) := by omega
  have hc : q8 < 256 := by omega
  have hd : (q8 : Int) < 256 := by omega
  have hl := len64_le (n := q8) (k := 8) hc
  clear e16
  clear e8
  go_enter Try.func94, Try.ntmps94
  go_wp2_with fail
  go_ret
  refine ⟨retInt ?_, rfl⟩
  rw [len_tab q8 hc _ ?hT _]
  rw [HL.out]
  · simp only [wrap64]; omega
  · kernel_rfl
set_option maxRecDepth 100000 in
set_option maxHeartbeats 1000000 in
theorem len64_32 (n q32 : Nat) (w : World) (hn : n < 18446744073709551616) (h32 : 4294967296 ≤ n) (e32 : q32 = n / 4294967296) (h16 : q32 < 65536) (h8 : q32 < 256) (HL : Hid (len64 n = 32 + len64 q32)) :
    Calls Try.prog 94 #[.int .u64 (n : Int)] w fun e w' => e = .returned (.int .i64 (len64 n : Int)) ∧ w = w' := by
  have k32 : (4294967296 : Int) ≤ (n : Int) := by omega
  have f32 : (n : Int) / 4294967296 = (q32 : Int) := by omega
  have k16 : ¬ ((65536 : Int) ≤ (q32 : Int)) := by omega
  have k8 : ¬ ((256 : Int) ≤ (q32 : Int)) := by omega
  have hc : q32 < 256 := by omega
  have hd : (q32 : Int) < 256 := by omega
  have hl := len64_le (n := q32) (k := 8) hc
  clear e32
  go_enter Try.func94, Try.ntmps94
  go_wp2_with fail
  go_ret
  refine ⟨retInt ?_, rfl⟩
  rw [len_tab q32 hc _ ?hT _]
  rw [HL.out]
  · simp only [wrap64]; omega
  · kernel_rfl
set_option maxRecDepth 100000 in
set_option maxHeartbeats 1000000 in
theorem len64_32_8 (n q32 q8 : Nat) (w : World) (hn : n < 18446744073709551616) (h32 : 4294967296 ≤ n) (e32 : q32 = n / 4294967296) (h16 : q32 < 65536) (h8 : 256 ≤ q32) (e8 : q8 = q32 / 256) (HL : Hid (len64 n = 40 + len64 q8)) :
    Calls Try.prog 94 #[.int .u64 (n : Int)] w fun e w' => e = .returned (.int .i64 (len64 n : Int)) ∧ w = w' := by
  have k32 : (4294967296 : Int) ≤ (n : Int) := by omega
  have f32 : (n : Int) / 4294967296 = (q32 : Int) := by omega
  have k16 : ¬ ((65536 : Int) ≤ (q32 : Int)) := by omega
  have k8 : (256 : Int) ≤ (q32 : Int) := by omega
  have f8 : (q32 : Int) / 256 = (q8 : Int) := by omega
  have hc : q8 < 256 := by omega
  have hd : (q8 : Int) < 256 := by omega
  have hl := len64_le (n := q8) (k := 8) hc
  clear e32
  clear e8
  go_enter Try.func94, Try.ntmps94
  go_wp2_with fail
  go_ret
  refine ⟨retInt ?_, rfl⟩
  rw [len_tab q8 hc _ ?hT _]
  rw [HL.out]
  · simp only [wrap64]; omega
  · kernel_rfl
set_option maxRecDepth 100000 in
set_option maxHeartbeats 1000000 in
theorem len64_32_16 (n q32 q16 : Nat) (w : World) (hn : n < 18446744073709551616) (h32 : 4294967296 ≤ n) (e32 : q32 = n / 4294967296) (h16 : 65536 ≤ q32) (e16 : q16 = q32 / 65536) (h8 : q16 < 256) (HL : Hid (len64 n = 48 + len64 q16)) :
    Calls Try.prog 94 #[.int .u64 (n : Int)] w fun e w' => e = .returned (.int .i64 (len64 n : Int)) ∧ w = w' := by
  have k32 : (4294967296 : Int) ≤ (n : Int) := by omega
  have f32 : (n : Int) / 4294967296 = (q32 : Int) := by omega
  have k16 : (65536 : Int) ≤ (q32 : Int) := by omega
  have f16 : (q32 : Int) / 65536 = (q16 : Int) := by omega
  have k8 : ¬ ((256 : Int) ≤ (q16 : Int)) := by omega
  have hc : q16 < 256 := by omega
  have hd : (q16 : Int) < 256 := by omega
  have hl := len64_le (n := q16) (k := 8) hc
  clear e32
  clear e16
  go_enter Try.func94, Try.ntmps94
  go_wp2_with fail
  go_ret
  refine ⟨retInt ?_, rfl⟩
  rw [len_tab q16 hc _ ?hT _]
  rw [HL.out]
  · simp only [wrap64]; omega
  · kernel_rfl
set_option maxRecDepth 100000 in
set_option maxHeartbeats 1000000 in
theorem len64_32_16_8 (n q32 q16 q8 : Nat) (w : World) (hn : n < 18446744073709551616) (h32 : 4294967296 ≤ n) (e32 : q32 = n / 4294967296) (h16 : 65536 ≤ q32) (e16 : q16 = q32 / 65536) (h8 : 256 ≤ q16) (e8 : q8 = q16 / 256) (HL : Hid (len64 n = 56 + len64 q8)) :
    Calls Try.prog 94 #[.int .u64 (n : Int)] w fun e w' => e = .returned (.int .i64 (len64 n : Int)) ∧ w = w' := by
  have k32 : (4294967296 : Int) ≤ (n : Int) := by omega
  have f32 : (n : Int) / 4294967296 = (q32 : Int) := by omega
  have k16 : (65536 : Int) ≤ (q32 : Int) := by omega
  have f16 : (q32 : Int) / 65536 = (q16 : Int) := by omega
  have k8 : (256 : Int) ≤ (q16 : Int) := by omega
  have f8 : (q16 : Int) / 256 = (q8 : Int) := by omega
  have hc : q8 < 256 := by omega
  have hd : (q8 : Int) < 256 := by omega
  have hl := len64_le (n := q8) (k := 8) hc
  clear e32
  clear e16
  clear e8
  go_enter Try.func94, Try.ntmps94
  go_wp2_with fail
  go_ret
  refine ⟨retInt ?_, rfl⟩
  rw [len_tab q8 hc _ ?hT _]
  rw [HL.out]
  · simp only [wrap64]; omega
  · kernel_rfl
theorem len64_any (n : Nat) (w : World) (hn : n < 18446744073709551616) :
    Calls Try.prog 94 #[.int .u64 (n : Int)] w fun e w' => e = .returned (.int .i64 (len64 n : Int)) ∧ w = w' := by
  by_cases h1 : 4294967296 ≤ n
  · have s1 : len64 n = 32 + len64 (n / 4294967296) := len64_shift n 32 h1
    by_cases h2 : 65536 ≤ n / 4294967296
    · have s2 : len64 (n / 4294967296) = 16 + len64 (n / 4294967296 / 65536) := len64_shift (n / 4294967296) 16 h2
      by_cases h3 : 256 ≤ n / 4294967296 / 65536
      · have s3 : len64 (n / 4294967296 / 65536) = 8 + len64 (n / 4294967296 / 65536 / 256) := len64_shift (n / 4294967296 / 65536) 8 h3
        exact len64_32_16_8 n _ _ _ w hn h1 rfl h2 rfl h3 rfl (Lib.hid (by rw [s1, s2, s3]; omega))
      · exact len64_32_16 n _ _ w hn h1 rfl h2 rfl (by omega) (Lib.hid (by rw [s1, s2]; omega))
    · by_cases h3 : 256 ≤ n / 4294967296
      · have s3 : len64 (n / 4294967296) = 8 + len64 (n / 4294967296 / 256) := len64_shift (n / 4294967296) 8 h3
        exact len64_32_8 n _ _ w hn h1 rfl (by omega) h3 rfl (Lib.hid (by rw [s1, s3]; omega))
      · exact len64_32 n _ w hn h1 rfl (by omega) (by omega) (Lib.hid s1)
  · by_cases h2 : 65536 ≤ n
    · have s2 : len64 n = 16 + len64 (n / 65536) := len64_shift n 16 h2
      by_cases h3 : 256 ≤ n / 65536
      · have s3 : len64 (n / 65536) = 8 + len64 (n / 65536 / 256) := len64_shift (n / 65536) 8 h3
        exact len64_16_8 n _ _ w hn (by omega) h2 rfl h3 rfl (Lib.hid (by rw [s2, s3]; omega))
      · exact len64_16 n _ w hn (by omega) h2 rfl (by omega) (Lib.hid s2)
    · by_cases h3 : 256 ≤ n
      · exact len64_8 n _ w hn (by omega) (by omega) h3 rfl (Lib.hid (len64_shift n 8 h3))
      · exact len64_0 n w hn (by omega) (by omega) (by omega)
end Go.Proofs.Ytbkknhlagohhhaa

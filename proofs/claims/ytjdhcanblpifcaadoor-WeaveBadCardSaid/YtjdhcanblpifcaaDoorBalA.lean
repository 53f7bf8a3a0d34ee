/-
  Several texts in one: their sentences stand at their heads.
-/
import Derived.Test.YtjdhcanblpifcaaDoorBase
import Derived.Lib.AppendStr
/-
  Package bale: numbers: Len64, appendNum, Num.
-/
namespace Go.Proofs.YtjdhcanblpifcaaDoor
open Go.RowKit Crv

/-- The last k bytes of a number, the most significant first. -/
def be : Nat → Nat → List UInt8
  | 0, _ => []
  | k + 1, n => be k (n / 256) ++ [UInt8.ofNat n]
theorem length_be : ∀ k n, (be k n).length = k
  | 0, _ => rfl
  | k + 1, n => by simp [be, length_be k]
/-- How many bits a number has. -/
def len64 (n : Nat) : Nat := if n = 0 then 0 else Nat.log2 n + 1
theorem len64_lt (n : Nat) : n < 2 ^ len64 n := by
  unfold len64
  split
  · omega
  · exact Nat.lt_log2_self
theorem len64_ge (n : Nat) (h : n ≠ 0) : 2 ^ (len64 n - 1) ≤ n := by
  unfold len64
  rw [if_neg h]
  exact Nat.log2_self_le h
theorem len64_unique (n k : Nat) (h1 : n < 2 ^ k) (h2 : n = 0 → k = 0) (h3 : n ≠ 0 → 2 ^ (k - 1) ≤ n) : len64 n = k := by
  by_cases h : n = 0
  · rw [h2 h]; simp [len64, h]
  · have a := len64_lt n
    have b := len64_ge n h
    have c := h3 h
    have hk : k ≠ 0 := by rintro rfl; simp at h1; omega
    have hl : len64 n ≠ 0 := by intro e; rw [e] at a; simp at a; omega
    have l1 : 2 ^ (len64 n - 1) < 2 ^ k := Nat.lt_of_le_of_lt b h1
    have l2 : 2 ^ (k - 1) < 2 ^ len64 n := Nat.lt_of_le_of_lt c a
    have m1 := (Nat.pow_lt_pow_iff_right (by omega : 1 < 2)).1 l1
    have m2 := (Nat.pow_lt_pow_iff_right (by omega : 1 < 2)).1 l2
    omega
theorem len64_shift (n s : Nat) (h : 2 ^ s ≤ n) : len64 n = s + len64 (n / 2 ^ s) := by
  have hp : 0 < 2 ^ s := Nat.pow_pos (by omega)
  have hq : n / 2 ^ s ≠ 0 := by
    intro e
    have := (Nat.div_eq_zero_iff).1 e
    omega
  have a := len64_lt (n / 2 ^ s)
  have b := len64_ge (n / 2 ^ s) hq
  have hl : len64 (n / 2 ^ s) ≠ 0 := by intro e; rw [e] at a; simp at a; omega
  refine len64_unique n _ ?_ (fun e => by omega) (fun _ => ?_)
  · rw [Nat.pow_add]
    exact (Nat.div_lt_iff_lt_mul hp).1 a |> fun h => by rw [Nat.mul_comm]; exact h
  · rw [show s + len64 (n / 2 ^ s) - 1 = s + (len64 (n / 2 ^ s) - 1) from by omega, Nat.pow_add, Nat.mul_comm]
    exact (Nat.le_div_iff_mul_le hp).1 b
theorem len64_le {n k : Nat} (h : n < 2 ^ k) : len64 n ≤ k := by
  by_cases h0 : n = 0
  · simp [len64, h0]
  · have b := len64_ge n h0
    have := (Nat.pow_lt_pow_iff_right (by omega : 1 < 2)).1 (Nat.lt_of_le_of_lt b h)
    omega
def lenTab : List UInt8 := (List.range 256).map fun n => UInt8.ofNat (len64 n)
theorem lenTab_get (n : Nat) (h : n < 256) : ((lenTab.getD n 0).toNat : Int) = (len64 n : Int) := by
  have hl : len64 n ≤ 8 := len64_le (k := 8) (by omega)
  rw [lenTab, List.getD_eq_getElem?_getD, List.getElem?_map, List.getElem?_range h]
  simp only [Option.map_some, Option.getD_some, UInt8.toNat_ofNat']
  omega

theorem len_tab (q : Nat) (h : q < 256) (T : ByteArray) (hT : T = str lenTab) (p : q < T.size) : ((T[q]'p).toNat : Int) = (len64 q : Int) := by
  subst hT
  have e : (str lenTab)[q]'p = lenTab.getD q 0 := by
    rw [List.getD_eq_getElem?_getD, List.getElem?_eq_getElem (by simpa [lenTab] using h)]
    rfl
  rw [e]
  exact lenTab_get q h
theorem retInt {k : IntKind} {a b : Int} (h : a = b) : Ending.returned (.int k a) = .returned (.int k b) := by rw [h]
set_option maxRecDepth 100000 in
set_option maxHeartbeats 1000000 in
theorem len64_0 (n : Nat) (w : World) (hn : n < 18446744073709551616) (h32 : n < 4294967296) (h16 : n < 65536) (h8 : n < 256) :
    Calls Tryd.prog 77 #[.int .u64 (n : Int)] w fun e w' => e = .returned (.int .i64 (len64 n : Int)) ∧ w = w' := by
  have k32 : ¬ ((4294967296 : Int) ≤ (n : Int)) := by omega
  have k16 : ¬ ((65536 : Int) ≤ (n : Int)) := by omega
  have k8 : ¬ ((256 : Int) ≤ (n : Int)) := by omega
  have hc : n < 256 := by omega
  have hd : (n : Int) < 256 := by omega
  have hl := len64_le (n := n) (k := 8) hc
  go_enter Tryd.func77, Tryd.ntmps77
  go_wp2_with fail
  go_ret
  refine ⟨retInt ?_, rfl⟩
  rw [len_tab n hc _ ?hT _]
  · simp only [wrap64]; omega
  · kernel_rfl
set_option maxRecDepth 100000 in
set_option maxHeartbeats 1000000 in
theorem len64_8 (n q8 : Nat) (w : World) (hn : n < 18446744073709551616) (h32 : n < 4294967296) (h16 : n < 65536) (h8 : 256 ≤ n) (e8 : q8 = n / 256) (HL : Hid (len64 n = 8 + len64 q8)) :
    Calls Tryd.prog 77 #[.int .u64 (n : Int)] w fun e w' => e = .returned (.int .i64 (len64 n : Int)) ∧ w = w' := by
  have k32 : ¬ ((4294967296 : Int) ≤ (n : Int)) := by omega
  have k16 : ¬ ((65536 : Int) ≤ (n : Int)) := by omega
  have k8 : (256 : Int) ≤ (n : Int) := by omega
  have f8 : (n : Int) / 256 = (q8 : Int) := by omega
  have hc : q8 < 256 := by omega
  have hd : (q8 : Int) < 256 := by omega
  have hl := len64_le (n := q8) (k := 8) hc
  clear e8
  go_enter Tryd.func77, Tryd.ntmps77
  go_wp2_with fail
  go_ret
  refine ⟨retInt ?_, rfl⟩
  rw [len_tab q8 hc _ ?hT _]
  rw [HL.out]
  · simp only [wrap64]; omega
  · kernel_rfl
set_option maxRecDepth 100000 in
set_option maxHeartbeats 1000000 in
theorem len64_16 (n q16 : Nat) (w : World) (hn : n < 18446744073709551616) (h32 : n < 4294967296) (h16 : 65536 ≤ n) (e16 : q16 = n / 65536) (h8 : q16 < 256) (HL : Hid (len64 n = 16 + len64 q16)) :
    Calls Tryd.prog 77 #[.int .u64 (n : Int)] w fun e w' => e = .returned (.int .i64 (len64 n : Int)) ∧ w = w' := by
  have k32 : ¬ ((4294967296 : Int) ≤ (n : Int)) := by omega
  have k16 : (65536 : Int) ≤ (n : Int) := by omega
  have f16 : (n : Int) / 65536 = (q16 : Int) := by omega
  have k8 : ¬ ((256 : Int) ≤ (q16 : Int)) := by omega
  have hc : q16 < 256 := by omega
  have hd : (q16 : Int) < 256 := by omega
  have hl := len64_le (n := q16) (k := 8) hc
  clear e16
  go_enter Tryd.func77, Tryd.ntmps77
  go_wp2_with fail
  go_ret
  refine ⟨retInt ?_, rfl⟩
  rw [len_tab q16 hc _ ?hT _]
  rw [HL.out]
  · simp only [wrap64]; omega
  · kernel_rfl
set_option maxRecDepth 100000 in
set_option maxHeartbeats 1000000 in
theorem len64_16_8 (n q16 q8 : Nat) (w : World) (hn : n < 18446744073709551616) (h32 : n < 4294967296) (h16 : 65536 ≤ n) (e16 : q16 = n / 65536) (h8 : 256 ≤ q16) (e8 : q8 = q16 / 256) (HL : Hid (len64 n = 24 + len64 q8)) :
    Calls Tryd.prog 77 #[.int .u64 (n : Int)] w fun e w' => e = .returned (.int .i64 (len64 n : Int)) ∧ w = w' := by
  have k32 : ¬ ((4294967296 : Int) ≤ (n : Int)) := by omega
  have k16 : (65536 : Int) ≤ (n : Int) := by omega
  have f16 : (n : Int) / 65536 = (q16 : Int) := by omega
  have k8 : (256 : Int) ≤ (q16 : Int) := by omega
  have f8 : (q16 : Int) / 256 = (q8 : Int) := by omega
  have hc : q8 < 256 := by omega
  have hd : (q8 : Int) < 256 := by omega
  have hl := len64_le (n := q8) (k := 8) hc
  clear e16
  clear e8
  go_enter Tryd.func77, Tryd.ntmps77
  go_wp2_with fail
  go_ret
  refine ⟨retInt ?_, rfl⟩
  rw [len_tab q8 hc _ ?hT _]
  rw [HL.out]
  · simp only [wrap64]; omega
  · kernel_rfl
set_option maxRecDepth 100000 in
set_option maxHeartbeats 1000000 in
theorem len64_32 (n q32 : Nat) (w : World) (hn : n < 18446744073709551616) (h32 : 4294967296 ≤ n) (e32 : q32 = n / 4294967296) (h16 : q32 < 65536) (h8 : q32 < 256) (HL : Hid (len64 n = 32 + len64 q32)) :
    Calls Tryd.prog 77 #[.int .u64 (n : Int)] w fun e w' => e = .returned (.int .i64 (len64 n : Int)) ∧ w = w' := by
  have k32 : (4294967296 : Int) ≤ (n : Int) := by omega
  have f32 : (n : Int) / 4294967296 = (q32 : Int) := by omega
  have k16 : ¬ ((65536 : Int) ≤ (q32 : Int)) := by omega
  have k8 : ¬ ((256 : Int) ≤ (q32 : Int)) := by omega
  have hc : q32 < 256 := by omega
  have hd : (q32 : Int) < 256 := by omega
  have hl := len64_le (n := q32) (k := 8) hc
  clear e32
  go_enter Tryd.func77, Tryd.ntmps77
  go_wp2_with fail
  go_ret
  refine ⟨retInt ?_, rfl⟩
  rw [len_tab q32 hc _ ?hT _]
  rw [HL.out]
  · simp only [wrap64]; omega
  · kernel_rfl
set_option maxRecDepth 100000 in
set_option maxHeartbeats 1000000 in
theorem len64_32_8 (n q32 q8 : Nat) (w : World) (hn : n < 18446744073709551616) (h32 : 4294967296 ≤ n) (e32 : q32 = n / 4294967296) (h16 : q32 < 65536) (h8 : 256 ≤ q32) (e8 : q8 = q32 / 256) (HL : Hid (len64 n = 40 + len64 q8)) :
    Calls Tryd.prog 77 #[.int .u64 (n : Int)] w fun e w' => e = .returned (.int .i64 (len64 n : Int)) ∧ w = w' := by
  have k32 : (4294967296 : Int) ≤ (n : Int) := by omega
  have f32 : (n : Int) / 4294967296 = (q32 : Int) := by omega
  have k16 : ¬ ((65536 : Int) ≤ (q32 : Int)) := by omega
  have k8 : (256 : Int) ≤ (q32 : Int) := by omega
  have f8 : (q32 : Int) / 256 = (q8 : Int) := by omega
  have hc : q8 < 256 := by omega
  have hd : (q8 : Int) < 256 := by omega
  have hl := len64_le (n := q8) (k := 8) hc
  clear e32
  clear e8
  go_enter Tryd.func77, Tryd.ntmps77
  go_wp2_with fail
  go_ret
  refine ⟨retInt ?_, rfl⟩
  rw [len_tab q8 hc _ ?hT _]
  rw [HL.out]
  · simp only [wrap64]; omega
  · kernel_rfl
set_option maxRecDepth 100000 in
set_option maxHeartbeats 1000000 in
theorem len64_32_16 (n q32 q16 : Nat) (w : World) (hn : n < 18446744073709551616) (h32 : 4294967296 ≤ n) (e32 : q32 = n / 4294967296) (h16 : 65536 ≤ q32) (e16 : q16 = q32 / 65536) (h8 : q16 < 256) (HL : Hid (len64 n = 48 + len64 q16)) :
    Calls Tryd.prog 77 #[.int .u64 (n : Int)] w fun e w' => e = .returned (.int .i64 (len64 n : Int)) ∧ w = w' := by
  have k32 : (4294967296 : Int) ≤ (n : Int) := by omega
  have f32 : (n : Int) / 4294967296 = (q32 : Int) := by omega
  have k16 : (65536 : Int) ≤ (q32 : Int) := by omega
  have f16 : (q32 : Int) / 65536 = (q16 : Int) := by omega
  have k8 : ¬ ((256 : Int) ≤ (q16 : Int)) := by omega
  have hc : q16 < 256 := by omega
  have hd : (q16 : Int) < 256 := by omega
  have hl := len64_le (n := q16) (k := 8) hc
  clear e32
  clear e16
  go_enter Tryd.func77, Tryd.ntmps77
  go_wp2_with fail
  go_ret
  refine ⟨retInt ?_, rfl⟩
  rw [len_tab q16 hc _ ?hT _]
  rw [HL.out]
  · simp only [wrap64]; omega
  · kernel_rfl
set_option maxRecDepth 100000 in
set_option maxHeartbeats 1000000 in
theorem len64_32_16_8 (n q32 q16 q8 : Nat) (w : World) (hn : n < 18446744073709551616) (h32 : 4294967296 ≤ n) (e32 : q32 = n / 4294967296) (h16 : 65536 ≤ q32) (e16 : q16 = q32 / 65536) (h8 : 256 ≤ q16) (e8 : q8 = q16 / 256) (HL : Hid (len64 n = 56 + len64 q8)) :
    Calls Tryd.prog 77 #[.int .u64 (n : Int)] w fun e w' => e = .returned (.int .i64 (len64 n : Int)) ∧ w = w' := by
  have k32 : (4294967296 : Int) ≤ (n : Int) := by omega
  have f32 : (n : Int) / 4294967296 = (q32 : Int) := by omega
  have k16 : (65536 : Int) ≤ (q32 : Int) := by omega
  have f16 : (q32 : Int) / 65536 = (q16 : Int) := by omega
  have k8 : (256 : Int) ≤ (q16 : Int) := by omega
  have f8 : (q16 : Int) / 256 = (q8 : Int) := by omega
  have hc : q8 < 256 := by omega
  have hd : (q8 : Int) < 256 := by omega
  have hl := len64_le (n := q8) (k := 8) hc
  clear e32
  clear e16
  clear e8
  go_enter Tryd.func77, Tryd.ntmps77
  go_wp2_with fail
  go_ret
  refine ⟨retInt ?_, rfl⟩
  rw [len_tab q8 hc _ ?hT _]
  rw [HL.out]
  · simp only [wrap64]; omega
  · kernel_rfl
theorem len64_any (n : Nat) (w : World) (hn : n < 18446744073709551616) :
    Calls Tryd.prog 77 #[.int .u64 (n : Int)] w fun e w' => e = .returned (.int .i64 (len64 n : Int)) ∧ w = w' := by
  by_cases h1 : 4294967296 ≤ n
  · have s1 : len64 n = 32 + len64 (n / 4294967296) := len64_shift n 32 h1
    by_cases h2 : 65536 ≤ n / 4294967296
    · have s2 : len64 (n / 4294967296) = 16 + len64 (n / 4294967296 / 65536) := len64_shift (n / 4294967296) 16 h2
      by_cases h3 : 256 ≤ n / 4294967296 / 65536
      · have s3 : len64 (n / 4294967296 / 65536) = 8 + len64 (n / 4294967296 / 65536 / 256) := len64_shift (n / 4294967296 / 65536) 8 h3
        exact len64_32_16_8 n _ _ _ w hn h1 rfl h2 rfl h3 rfl (Lib.hid (by rw [s1, s2, s3]; omega))
      · exact len64_32_16 n _ _ w hn h1 rfl h2 rfl (by omega) (Lib.hid (by rw [s1, s2]; omega))
    · by_cases h3 : 256 ≤ n / 4294967296
      · have s3 : len64 (n / 4294967296) = 8 + len64 (n / 4294967296 / 256) := len64_shift (n / 4294967296) 8 h3
        exact len64_32_8 n _ _ w hn h1 rfl (by omega) h3 rfl (Lib.hid (by rw [s1, s3]; omega))
      · exact len64_32 n _ w hn h1 rfl (by omega) (by omega) (Lib.hid s1)
  · by_cases h2 : 65536 ≤ n
    · have s2 : len64 n = 16 + len64 (n / 65536) := len64_shift n 16 h2
      by_cases h3 : 256 ≤ n / 65536
      · have s3 : len64 (n / 65536) = 8 + len64 (n / 65536 / 256) := len64_shift (n / 65536) 8 h3
        exact len64_16_8 n _ _ w hn (by omega) h2 rfl h3 rfl (Lib.hid (by rw [s2, s3]; omega))
      · exact len64_16 n _ w hn (by omega) h2 rfl (by omega) (Lib.hid s2)
    · by_cases h3 : 256 ≤ n
      · exact len64_8 n _ w hn (by omega) (by omega) h3 rfl (Lib.hid (len64_shift n 8 h3))
      · exact len64_0 n w hn (by omega) (by omega) (by omega)
end Go.Proofs.YtjdhcanblpifcaaDoor

/-
  Package bale: appendNum, Num.
-/
namespace Go.Proofs.YtjdhcanblpifcaaDoor
open Go.RowKit Crv

/-- How many bytes a number takes. -/
def numLen (n : Nat) : Nat := (len64 n + 7) / 8
/-- The encoding of a number. -/
def numOf (n : Nat) : List UInt8 := UInt8.ofNat (numLen n) :: be (numLen n) n
theorem numLen_le {n : Nat} (h : n < 18446744073709551616) : numLen n ≤ 8 := by
  have := len64_le (n := n) (k := 64) h
  unfold numLen
  omega
theorem length_numOf {n : Nat} (h : n < 18446744073709551616) : (numOf n).length ≤ 9 := by
  have := numLen_le h
  simp [numOf, length_be]
  omega
theorem be_step (k j n : Nat) : be (k + 1) (n / 256 ^ j) = be k (n / 256 ^ (j + 1)) ++ [UInt8.ofNat (n / 256 ^ j)] := by
  rw [be, Nat.div_div_eq_div_mul, ← Nat.pow_succ]
theorem byte_shift (n j : Nat) : ((n : Int) / 2 ^ (8 * j)) % 256 = ((UInt8.ofNat (n / 256 ^ j)).toNat : Int) := by
  have e : (256 : Nat) ^ j = 2 ^ (8 * j) := by rw [show (256 : Nat) = 2 ^ 8 from rfl, ← Nat.pow_mul]
  rw [UInt8.toNat_ofNat', e]
  simp [Int.natCast_ediv, Int.natCast_pow]

set_option maxRecDepth 100000 in
set_option maxHeartbeats 1000000 in
/-- appendNum onto a slice of the call's own. -/
theorem appendNum_any (w : World) (base : Nat) (v : Value) (l : List UInt8) (n : Nat) (hn : n < 18446744073709551616) (hown : Owns w base 5 v (l.map byteV)) (hbase : base ≤ w.heap.size) (hl : l.length ≤ 1099511627000) :
    Calls Tryd.prog 65 #[v, .int .u64 (n : Int)] w fun e w' => ∃ v', e = .returned v' ∧ Owns w' base 5 v' ((l ++ numOf n).map byteV) ∧ Below base w w' := by
  obtain ⟨i, hi, hz, hs, hby⟩ : ∃ i, Tryd.prog.info? 5 = some i ∧ i.zero = some (.int .u8 0) ∧ i.size = 1 ∧ i.bytes = 1 := info_of (by kernel_rfl)
  have HBY : i.bytes ≤ 64 := by omega
  have HI := Lib.hid hi
  have HZ := Lib.hid hz
  have HS := Lib.hid hs
  clear hi hz hs hby
  have HO := Lib.hid hown
  clear hown
  have hk := numLen_le hn
  obtain ⟨m, hm⟩ : ∃ m, m = len64 n := ⟨_, rfl⟩
  have hm64 : m ≤ 64 := by rw [hm]; exact len64_le (n := n) (k := 64) hn
  have HL : Hid (∀ W, Calls Tryd.prog 77 #[.int .u64 (n : Int)] W fun e w' => e = .returned (.int .i64 (m : Int)) ∧ W = w') := Lib.hid (fun W => by rw [hm]; exact len64_any n W hn)
  obtain ⟨z, hz⟩ : ∃ z, z = numLen n := ⟨_, rfl⟩
  have hzm : ((m : Int) + 7) / 8 = (z : Int) := by rw [hz, hm]; unfold numLen; omega
  have HNUM := Lib.hid (show numOf n = UInt8.ofNat z :: be z n by rw [hz]; rfl)
  rw [← hz] at hk
  clear hz hm
  have hone : ∀ u ∈ [Value.int .u8 (z : Int)], u.oneCell' = true := by intro u hu; simp at hu; subst hu; rfl
  have HONE := Lib.hid hone
  clear hone
  go_enter Tryd.func65, Tryd.ntmps65
  go_wp2_with fail
  refine (HL.out _).mono ?_
  rintro e w' ⟨rfl, rfl⟩
  go_wp2_with (first
    | (at_builtin; refine wp_append_keep (HO.out.alloc _) base ((Below.refl base w).alloc hbase _) (Nat.le_refl _) [.int .u8 (z : Int)] (.tmp 11) (.tmp 14) 59 i (.int .u8 0) rfl rfl Tryd.underlying59 HI.out HZ.out HS.out HBY rfl rfl rfl (fun j u hu => cell_news_one _ _ _ j u hu) HONE.out (by simp; omega) (by simp; omega) ?_; intro v1 w1 hown1 hb1 hz1 hkp1; have HO1 := Lib.hid hown1; clear hown1 hkp1)
    | fail)
  have hs1 : base ≤ w1.heap.size := by simp at hz1; omega
  have HA : Hid (Owns w1 base 5 v1 ((l ++ (UInt8.ofNat z :: be (z - z) (n / 256 ^ z))).map byteV)) := Lib.hid (by
    have h := HO1.out
    rw [Nat.sub_self, be, List.map_append]
    have e : [UInt8.ofNat z].map byteV = [Value.int .u8 (z : Int)] := by
      simp only [List.map_cons, List.map_nil, byteV]
      rw [UInt8.toNat_ofNat', Nat.mod_eq_of_lt (by omega)]
    rw [e]
    exact h)
  clear HO1 hz1
  go_loopw [0, 6] (fun v i wr => ∃ (j : Nat) (a : Int), j ≤ z ∧ a = (j : Int) - 1 ∧ i = .int .i64 a ∧ Hid (Owns wr base 5 v ((l ++ (UInt8.ofNat z :: be (z - j) (n / 256 ^ j))).map byteV)) ∧ Below base w wr ∧ base ≤ wr.heap.size) (fun _ i _ => (intOf i + 1).toNat)
  case atStart => exact ⟨z, _, Nat.le_refl _, rfl, rfl, HA, hb1, hs1⟩
  case round =>
    obtain ⟨j, a, hj, ha, rfl, HR, hb, hbs⟩ := hrel
    clear HA hb1 hs1
    cases j with
    | zero =>
      have ha' : a = -1 := by omega
      subst ha'
      clear ha
      go_wp2
      go_ret
      refine ⟨_, rfl, ?_, hb⟩
      have h := HR.out
      rw [HNUM.out]
      simpa using h
    | succ q =>
      have ha' : a = (q : Int) := by omega
      subst ha'
      clear ha
      have HB := Lib.hid (byte_shift n q)
      have HONE2 := Lib.hid (show ∀ u ∈ [Value.int .u8 ((n : Int) / 2 ^ (8 * q) % 256)], u.oneCell' = true by intro u hu; simp at hu; subst hu; rfl)
      have HLEN := Lib.hid (show ((l ++ (UInt8.ofNat z :: be (z - (q + 1)) (n / 256 ^ (q + 1)))).map byteV).length ≤ 1099511627100 by simp [length_be]; omega)
      go_wp2_with (first
        | (at_builtin; refine wp_append_keep (HR.out.alloc _) base (hb.alloc hbs _) (Nat.le_refl _) [.int .u8 ((n : Int) / 2 ^ (8 * q) % 256)] (.tmp 22) (.tmp 28) 59 i (.int .u8 0) rfl rfl Tryd.underlying59 HI.out HZ.out HS.out HBY rfl rfl rfl (fun j u hu => cell_news_one _ _ _ j u hu) HONE2.out (Nat.le_trans (Nat.add_le_add_right HLEN.out _) (by simp)) (by simp; omega) ?_; intro v2 w2 hown2 hb2 hz2 hkp2; have HO2 := Lib.hid hown2; clear hown2 hkp2)
        | fail)
      have hs2 : base ≤ w2.heap.size := by simp at hz2; omega
      have HA2 : Hid (Owns w2 base 5 v2 ((l ++ (UInt8.ofNat z :: be (z - q) (n / 256 ^ q))).map byteV)) := Lib.hid (by
        have h := HO2.out
        rw [show z - q = z - (q + 1) + 1 from by omega, be_step]
        rw [HB.out] at h
        have e : ∀ (k : List UInt8) (x : UInt8), (l ++ (UInt8.ofNat z :: (k ++ [x]))).map byteV = (l ++ (UInt8.ofNat z :: k)).map byteV ++ [byteV x] := by simp
        rw [e]
        exact h)
      clear hz2 HO2
      go_roundw
      case rel => exact ⟨q, _, by omega, rfl, by go_num, HA2, hb2, hs2⟩
      case measure => simp [intOf]

/-- A post with a value that lies in memory. -/
def RetOwn (w : World) (base : Nat) (l : List UInt8) (e : Ending) (w' : World) : Prop := ∃ v', e = .returned v' ∧ Owns w' base 5 v' (l.map byteV) ∧ Below base w w'

end Go.Proofs.YtjdhcanblpifcaaDoor

/-
  Package bale: appendStr, Str, Strs, Nums.
-/
namespace Go.Proofs.YtjdhcanblpifcaaDoor
open Go.RowKit Crv

/-- append(b, s...) of a text onto bytes of the call's own. -/
theorem wp_append_str {P : Program} {ops : Array Oper} {rest : List Oper} {o : Oper} {a : Act} {w0 w : World} {Q : Exit → Act → World → Prop} {base : Nat} {e : TypeId} {v : Value} {xs : List Value} (hown : Owns w base e v xs) (B : Nat) (hB : Below B w0 w) (hBb : B ≤ base)
    (l : List UInt8) (s x : Operand) (t u : TypeId) (i : TypeInfo) (hgd : o.guard = none) (ho : o.op = .call { callee := .builtin .append, args := #[s, x], argTypes := #[t, u] })
    (ht : P.underlying t = some (.slice e)) (hu : P.underlying u = some .string) (hi : P.info? e = some i) (hz : i.zero = some (.int .u8 0)) (hsize : i.size = 1) (hby : i.bytes = 1)
    (hs : a.eval s = v) (hx : a.eval x = .string (str l)) (hlen : xs.length + l.length ≤ 140737488355328) (hbase : base ≤ w.heap.size)
    (h : ∀ v' w', Owns w' base e v' (xs ++ l.map byteV) → Below B w0 w' → w.heap.size ≤ w'.heap.size → wpList P ops Q rest (a.put o.dst v') w') : wpList P ops Q (o :: rest) a w := by
  refine Lib.wpList_append_own_string (P := P) w hgd s x t u ho base e i ht hu hi hz hsize hby v xs.length xs hs hown (str l) hx (by simp only [maxLen, size_str]; omega) (by simp only [size_str]; omega) hbase ?_
  intro v' w' ho' hg _
  refine h v' w' ?_ ?_ hg.size
  · unfold Owns
    rw [List.length_append, List.length_map]
    exact ho'
  · exact hB.trans ⟨hg.os, hg.tape, hg.output, hg.size, fun k hk => hg.block k (by omega) (fun e => by have := (hown.lt k e.symm).2; omega)⟩

/-- The encoding of a text. -/
def strOf (s : List UInt8) : List UInt8 := numOf s.length ++ s

theorem flatMap_take_succ {α β : Type} (f : α → List β) (ls : List α) (k : Nat) (h : k < ls.length) : (ls.take (k + 1)).flatMap f = (ls.take k).flatMap f ++ f ls[k] := by
  rw [List.take_succ_eq_append_getElem h, List.flatMap_append]
  simp
theorem length_strs : ∀ (ls : List (List UInt8)), (∀ l ∈ ls, l.length ≤ 1000) → (ls.flatMap strOf).length ≤ 1009 * ls.length
  | [], _ => by simp
  | a :: r, h => by
    have h1 := h a (by simp)
    have h2 := length_strs r (fun l hl => h l (by simp [hl]))
    have h3 := length_numOf (n := a.length) (by omega)
    simp only [List.flatMap_cons, List.length_append, List.length_cons, strOf]
    omega

end Go.Proofs.YtjdhcanblpifcaaDoor

/-
  Package bale: Nums.
-/
namespace Go.Proofs.YtjdhcanblpifcaaDoor
open Go.RowKit Crv

/-- A slice value that reads as a list of numbers. -/
abbrev Ints (w : World) (v : Value) (ks : List Int) : Prop := Reads w v (ks.map fun k => Value.int .i64 k)
def nat0 (k : Int) : Nat := (max k 0).toNat
theorem length_nums : ∀ (ks : List Int), (∀ k ∈ ks, k < 9223372036854775808) → (ks.flatMap fun k => numOf (nat0 k)).length ≤ 9 * ks.length
  | [], _ => by simp
  | a :: r, h => by
    have h1 := h a (by simp)
    have h2 := length_nums r (fun l hl => h l (by simp [hl]))
    have h3 := length_numOf (n := nat0 a) (by unfold nat0; omega)
    simp only [List.flatMap_cons, List.length_append, List.length_cons]
    omega

set_option maxRecDepth 100000 in
set_option maxHeartbeats 1000000 in
theorem nums_any (w : World) (v : Value) (ks : List Int) (hv : Ints w v ks) (hn : ks.length ≤ 1000) (hl : ∀ k ∈ ks, -9223372036854775808 ≤ k ∧ k < 9223372036854775808) :
    Calls Tryd.prog 40 #[v] w fun e w' => e = .returned (.string (str (ks.flatMap fun k => numOf (nat0 k)))) ∧ Below w.heap.size w w' := by
  obtain ⟨a, cap, rfl, hcell⟩ := hv
  have HV := Lib.hid (show Ints w (.slice a (ks.map fun k => Value.int .i64 k).length cap) ks from ⟨a, cap, rfl, hcell⟩)
  rw [List.length_map] at HV ⊢
  have HL := Lib.hid hl
  clear hcell hl
  go_enter Tryd.func40, Tryd.ntmps40
  go_wp2_with fail
  go_loopw [3, 8] (fun v i wr => ∃ k : Nat, k ≤ ks.length ∧ i = .int .i64 k ∧ Hid (Owns wr w.heap.size 5 v (((ks.take k).flatMap fun k => numOf (nat0 k)).map byteV)) ∧ Below w.heap.size w wr) (fun _ i _ => ks.length - (intOf i).toNat)
  case atStart => exact ⟨0, by omega, rfl, Lib.hid (Owns.nil _ _ _), Below.refl _ _⟩
  case round =>
    obtain ⟨k, hk, rfl, HO, hb⟩ := hrel
    have hbz := hb.size
    by_cases hlt : k < ks.length
    · obtain ⟨s, hs⟩ : ∃ s, s = ks[k] := ⟨_, rfl⟩
      obtain ⟨a', cap', hv', hc'⟩ := HV.out.below hb
      injection hv' with h1 h2 h3
      obtain ⟨b, off, ha, hcell⟩ := hc' k (by simpa using hlt)
      rw [← h1] at ha
      subst ha
      rw [List.getElem?_map, List.getElem?_eq_getElem hlt, Option.map_some, ← hs] at hcell
      have hsl := HL.out s (by rw [hs]; exact List.getElem_mem hlt)
      have HSUM := Lib.hid (show ((ks.take (k + 1)).flatMap fun k => numOf (nat0 k)) = ((ks.take k).flatMap fun k => numOf (nat0 k)) ++ numOf (nat0 s) by
        rw [flatMap_take_succ _ ks k hlt, ← hs])
      have hq : ((ks.take k).flatMap fun k => numOf (nat0 k)).length ≤ 9 * 1000 := by
        have h4 := length_nums (ks.take k) (fun l hl => (HL.out l (List.mem_of_mem_take hl)).2)
        have h5 := List.length_take_le k ks
        omega
      have HC := Lib.hid (appendNum_any wr w.heap.size u3 ((ks.take k).flatMap fun k => numOf (nat0 k)) (nat0 s) (by unfold nat0; omega) HO.out hbz (by omega))
      clear hs h1 h2 h3 hc' hq
      have hd : decide (k < ks.length) = true := by simp; omega
      by_cases h0 : 0 ≤ s
      · obtain ⟨m, rfl⟩ := Int.eq_ofNat_of_zero_le h0
        rw [show nat0 (m : Int) = m from by unfold nat0; omega] at HC HSUM
        clear h0
        go_wp2_with fail
        with_reducible refine HC.out.mono ?_
        rintro e w1 ⟨v1, rfl, hown, hb1⟩
        rw [← HSUM.out] at hown
        have HO1 := Lib.hid hown
        clear hown HC
        go_wp2
        go_roundw
        case rel => exact ⟨k + 1, by omega, by go_num, HO1, hb.trans hb1⟩
        case measure => simp [intOf]; omega
      · rw [show nat0 s = 0 from by unfold nat0; omega] at HC HSUM
        have h0' : s < 0 := by omega
        go_wp2_with fail
        refine HC.out.mono ?_
        rintro e w1 ⟨v1, rfl, hown, hb1⟩
        rw [← HSUM.out] at hown
        have HO1 := Lib.hid hown
        clear hown HC
        go_wp2
        go_roundw
        case rel => exact ⟨k + 1, by omega, by go_num, HO1, hb.trans hb1⟩
        case measure => simp [intOf]; omega
    · have ek : k = ks.length := by omega
      subst ek
      rw [List.take_length] at HO
      have hcv := HO.out.string (P := Tryd.prog) (src := 59) (dst := 9) Tryd.underlying59 Tryd.underlying5 Tryd.underlying9
      go_wp2
      go_ret
      exact ⟨rfl, hb⟩
end Go.Proofs.YtjdhcanblpifcaaDoor

/-
  Package bale: the decoder: Open, Err, Left, Fail, Close, Bytes.
-/
namespace Go.Proofs.YtjdhcanblpifcaaDoor
open Go.RowKit Crv

/-- What a decoder holds: what is left, the error. -/
abbrev BSt := List UInt8 × Int
/-- A decoder in memory. -/
def BM (w : World) (g : Nat) (s : BSt) : Prop := Mem w g 130 [.string (str s.1), .int .i64 s.2]
def failS (s : BSt) (c : Int) : BSt := if s.2 ≠ 0 ∨ c = 0 then s else ([], c)
def bytesS (s : BSt) (n : Int) : BSt × List UInt8 := if n < 0 ∨ (s.1.length : Int) < n then (failS s 1, []) else ((s.1.drop n.toNat, s.2), s.1.take n.toNat)
theorem BM.below {w w' : World} {g : Nat} {s : BSt} (h : BM w g s) (hb : Below w.heap.size w w') : BM w' g s := Mem.below h hb (Mem.lt h)
theorem BM.grown {w w' : World} {g k : Nat} {s : BSt} (h : BM w g s) (hg : w.grownBy w' (some k)) (hne : g ≠ k) : BM w' g s := Mem.grown h hg (fun e => hne (by injection e))
abbrev ptr (g : Nat) : Value := .pointer (some ⟨g, 0, none⟩)

theorem open_any (l : List UInt8) (w : World) :
    Calls Tryd.prog 30 #[.string (str l)] w fun e w' => e = .returned (ptr w.heap.size) ∧ BM w' w.heap.size (l, 0) ∧ Below w.heap.size w w' ∧ w'.heap.size = w.heap.size + 1 := by
  go_enter Tryd.func30, Tryd.ntmps30
  go_wp2
  go_ret
  exact ⟨rfl, Mem.new w _ _, belowSelf w _, by simp⟩

theorem fail_any (w : World) (g : Nat) (s : BSt) (c : Int) (h : BM w g s) :
    Calls Tryd.prog 58 #[ptr g, .int .i64 c] w fun e w' => e = .returned (.tuple #[]) ∧ BM w' g (failS s c) ∧ w.grownBy w' (some g) := by
  obtain ⟨l, x⟩ := s
  have c0 : w.cell? ⟨g, 0, none⟩ = some (.string (str l)) := Mem.cell h 0
  have c1 : w.cell? ⟨g, 1, none⟩ = some (.int .i64 x) := Mem.cell h 1
  have f0 := Mem.frozen h 0
  have f1 := Mem.frozen h 1
  have H := Lib.hid h
  clear h
  by_cases hx : x = 0
  · subst hx
    by_cases hc : c = 0
    · subst hc
      go_enter Tryd.func58, Tryd.ntmps58
      go_wp2
      ((try simp only [Exit.inBlock, Exit.then]); refine bodyPost_ret (results_none rfl _ _ _) rfl ?_)
      exact ⟨rfl, by simpa [failS] using H.out, grownRefl _ _⟩
    · have hd : ((c : Int) == 0) = false := by simpa using hc
      have HS := Lib.hid (show failS (l, (0 : Int)) c = ([], c) by simp [failS, hc])
      clear hc
      go_enter Tryd.func58, Tryd.ntmps58
      go_wp2
      go_end0
      refine ⟨rfl, ?_, grown_cell (grown_cell (grownRefl _ _) 1 _) 0 _⟩
      rw [HS.out]
      exact Mem.set (Mem.set H.out 1 (.int .i64 c)) 0 (.string (str []))
  · have hd : ((x : Int) != 0) = true := by simpa using hx
    have HS := Lib.hid (show failS (l, x) c = (l, x) by simp [failS, hx])
    clear hx
    go_enter Tryd.func58, Tryd.ntmps58
    go_wp2
    ((try simp only [Exit.inBlock, Exit.then]); refine bodyPost_ret (results_none rfl _ _ _) rfl ?_)
    exact ⟨rfl, by rw [HS.out]; exact H.out, grownRefl _ _⟩

set_option maxHeartbeats 400000 in
theorem bytesB_any (w : World) (g : Nat) (s : BSt) (n : Int) (h : BM w g s) :
    Calls Tryd.prog 59 #[ptr g, .int .i64 n] w fun e w' => e = .returned (.string (str (bytesS s n).2)) ∧ BM w' g (bytesS s n).1 ∧ w.grownBy w' (some g) := by
  by_cases h0 : n < 0
  · have HS := Lib.hid (show bytesS s n = (failS s 1, []) by simp [bytesS, h0])
    have HF := Lib.hid (fail_any w g s 1 h)
    clear h
    go_enter Tryd.func59, Tryd.ntmps59
    go_wp2_with fail
    refine HF.out.mono ?_
    rintro e w1 ⟨rfl, hm, hg⟩
    go_wp2
    go_ret
    exact ⟨by rw [HS.out]; rfl, by rw [HS.out]; exact hm, hg⟩
  · obtain ⟨k, rfl⟩ := Int.eq_ofNat_of_zero_le (Int.not_lt.1 h0)
    obtain ⟨l, x⟩ := s
    have c0 : w.cell? ⟨g, 0, none⟩ = some (.string (str l)) := Mem.cell h 0
    have f0 := Mem.frozen h 0
    have hneg : ((k : Int) < 0) = False := by simp
    by_cases h1 : l.length < k
    · have HS := Lib.hid (show bytesS (l, x) (k : Int) = (failS (l, x) 1, []) by unfold bytesS; rw [if_pos (.inr (by simp; omega))])
      have HF := Lib.hid (fail_any w g (l, x) 1 h)
      have hd : decide (l.length < k) = true := by simpa using h1
      clear h h0
      go_enter Tryd.func59, Tryd.ntmps59
      go_wp2_with fail
      refine HF.out.mono ?_
      rintro e w1 ⟨rfl, hm, hg⟩
      go_wp2
      go_ret
      exact ⟨by rw [HS.out]; rfl, by rw [HS.out]; exact hm, hg⟩
    · have HS := Lib.hid (show bytesS (l, x) (k : Int) = ((l.drop k, x), l.take k) by unfold bytesS; rw [if_neg (by simp; omega)]; simp)
      have H := Lib.hid h
      have hs1 := fun W => slice_str_to (P := Tryd.prog) Tryd.underlying9 l .i64 k (by omega) W
      have hs2 := fun W => slice_str_from (P := Tryd.prog) Tryd.underlying9 l .i64 k (by omega) W
      have hd : decide (l.length < k) = false := by simpa using h1
      clear h h0
      go_enter Tryd.func59, Tryd.ntmps59
      go_wp2
      go_ret
      refine ⟨by rw [HS.out]; rfl, ?_, grown_cell (grownRefl _ _) 0 _⟩
      rw [HS.out]
      exact Mem.set H.out 0 (.string (str (l.drop k)))

theorem close_any (w : World) (g : Nat) (s : BSt) (h : BM w g s) :
    Calls Tryd.prog 33 #[ptr g] w fun e w' => e = .returned (.int .i64 (if s.1 = [] then s else failS s 2).2) ∧ BM w' g (if s.1 = [] then s else failS s 2) ∧ w.grownBy w' (some g) := by
  obtain ⟨l, x⟩ := s
  have c0 : w.cell? ⟨g, 0, none⟩ = some (.string (str l)) := Mem.cell h 0
  by_cases hl : l = []
  · subst hl
    have c1 : w.cell? ⟨g, 1, none⟩ = some (.int .i64 x) := Mem.cell h 1
    have H := Lib.hid h
    clear h
    go_enter Tryd.func33, Tryd.ntmps33
    go_wp2
    go_ret
    exact ⟨rfl, H.out, grownRefl _ _⟩
  · rw [if_neg (show ¬ (l, x).1 = [] from hl)]
    have HF := Lib.hid (fail_any w g (l, x) 2 h)
    obtain ⟨s1, hs1⟩ : ∃ s1, s1 = failS (l, x) 2 := ⟨_, rfl⟩
    rw [← hs1] at HF ⊢
    clear h hs1
    have hd : l.isEmpty = false := by simpa using hl
    clear hl
    go_enter Tryd.func33, Tryd.ntmps33
    go_wp2_with fail
    refine HF.out.mono ?_
    rintro e w1 ⟨rfl, hm, hg⟩
    have c1 : w1.cell? ⟨g, 1, none⟩ = some (.int .i64 s1.2) := Mem.cell hm 1
    have H := Lib.hid hm
    clear hm
    go_wp2
    go_ret
    exact ⟨rfl, H.out, hg⟩
end Go.Proofs.YtjdhcanblpifcaaDoor

/-
  Package bale: the decoder: Num, Int, Str.
-/
namespace Go.Proofs.YtjdhcanblpifcaaDoor
open Go.RowKit Crv

/-- The number that these bytes are, the most significant first. -/
def val (l : List UInt8) : Nat := l.foldl (fun a b => a * 256 + b.toNat) 0
theorem val_snoc (l : List UInt8) (b : UInt8) : val (l ++ [b]) = val l * 256 + b.toNat := by simp [val]
theorem val_lt_rev : ∀ l : List UInt8, val l.reverse < 256 ^ l.length
  | [] => by simp [val]
  | b :: r => by
    have h := val_lt_rev r
    have hb := b.toNat_lt
    rw [List.reverse_cons, val_snoc, List.length_cons, Nat.pow_succ]
    omega
theorem val_lt (l : List UInt8) : val l < 256 ^ l.length := by
  have := val_lt_rev l.reverse
  rwa [List.reverse_reverse, List.length_reverse] at this
theorem val_take_succ (l : List UInt8) (k : Nat) (h : k < l.length) : val (l.take (k + 1)) = val (l.take k) * 256 + (l[k]).toNat := by
  rw [List.take_succ_eq_append_getElem h, val_snoc]
theorem val_take_lt (l : List UInt8) (k : Nat) (h : k < l.length) (hl : l.length ≤ 8) : val (l.take k) < 72057594037927936 := by
  have h1 := val_lt (l.take k)
  have h2 : 256 ^ (l.take k).length ≤ 256 ^ 7 := Nat.pow_le_pow_right (by omega) (by rw [List.length_take]; omega)
  have h3 : (256 : Nat) ^ 7 = 72057594037927936 := by decide
  omega

/-- What Num does. -/
def numS (s : BSt) : BSt × Nat :=
  match bytesS s 1 with
  | (s1, []) => (s1, 0)
  | (s1, b :: _) =>
    if 8 < b.toNat then (failS s1 2, 0)
    else match bytesS s1 (b.toNat : Int) with
      | (s2, []) => (s2, 0)
      | (s2, x :: r) => if x = 0 then (failS s2 2, 0) else (s2, val (x :: r))

theorem or_shift (a b : Nat) (ha : a < 72057594037927936) (hb : b < 256) : bits .or .u64 ((a : Int) * 256) (b : Int) = ((a * 256 + b : Nat) : Int) := by
  have h := Nat.shiftLeft_add_eq_or_of_lt (i := 8) (b := b) hb a
  rw [Nat.shiftLeft_eq] at h
  have e : ((a : Int) * 256) = ((a * 256 : Nat) : Int) := by simp
  rw [e, u64_or_nat _ _ (by omega) (by omega), ← h]

set_option maxRecDepth 100000 in
set_option maxHeartbeats 1000000 in
theorem numB_any (w : World) (g : Nat) (s : BSt) (h : BM w g s) :
    Calls Tryd.prog 57 #[ptr g] w fun e w' => e = .returned (.int .u64 ((numS s).2 : Int)) ∧ BM w' g (numS s).1 ∧ w.grownBy w' (some g) := by
  have HB := Lib.hid (bytesB_any w g s 1 h)
  have HN := Lib.hid (show numS s = numS s from rfl)
  clear h
  obtain ⟨s1, hd, e1⟩ : ∃ s1 hd, bytesS s 1 = (s1, hd) := ⟨_, _, rfl⟩
  rw [e1] at HB
  cases hd with
  | nil =>
    have HS := Lib.hid (show numS s = (s1, 0) by unfold numS; rw [e1])
    clear e1
    go_enter Tryd.func57, Tryd.ntmps57
    go_wp2_with fail
    refine HB.out.mono ?_
    rintro e w1 ⟨rfl, hm, hg⟩
    have HM := Lib.hid hm
    clear hm
    go_wp2
    go_ret
    rw [HS.out]
    exact ⟨rfl, HM.out, hg⟩
  | cons b r =>
    have hb := b.toNat_lt
    have i0 : ∀ W, (Instr.index 9 (.string (str (b :: r))) (.int .i64 0)).run Tryd.prog W = .ok (.int .u8 (b.toNat : Int)) W := fun W => run_index_str 9 Tryd.underlying9 (b :: r) .i64 0 (by simp) W
    have hne : (b :: r).isEmpty = false := rfl
    by_cases h8 : 8 < b.toNat
    · have HS := Lib.hid (show numS s = (failS s1 2, 0) by unfold numS; rw [e1]; simp [h8])
      have h8' : (8 : Int) < (b.toNat : Int) := by omega
      clear e1
      obtain ⟨hdl, hhd⟩ : ∃ q, q = b :: r := ⟨_, rfl⟩
      rw [← hhd] at HB i0 hne
      clear hhd
      go_enter Tryd.func57, Tryd.ntmps57
      go_wp2_with fail
      refine HB.out.mono ?_
      rintro e w1 ⟨rfl, hm, hg⟩
      have HF := Lib.hid (fail_any w1 g s1 2 hm)
      clear hm
      go_wp2_with fail
      refine HF.out.mono ?_
      rintro e w2 ⟨rfl, hm2, hg2⟩
      have HM := Lib.hid hm2
      clear hm2
      go_wp2
      go_ret
      rw [HS.out]
      exact ⟨rfl, HM.out, grown_trans hg hg2⟩
    · have h8' : ¬ ((8 : Int) < (b.toNat : Int)) := by omega
      obtain ⟨s2, d, e2⟩ : ∃ s2 d, bytesS s1 (b.toNat : Int) = (s2, d) := ⟨_, _, rfl⟩
      have hdl8 : d.length ≤ 8 := by
        have h2 : d = (bytesS s1 (b.toNat : Int)).2 := by rw [e2]
        rw [h2]
        unfold bytesS
        split
        · simp
        · simp; omega
      have HS := Lib.hid (show numS s = (match (s2, d) with | (s2, []) => (s2, 0) | (s2, x :: r) => if x = 0 then (failS s2 2, 0) else (s2, val (x :: r))) by unfold numS; rw [e1]; simp only [if_neg h8]; rw [e2])
      have HBB := Lib.hid (fun w1 (hm : BM w1 g s1) => bytesB_any w1 g s1 (b.toNat : Int) hm)
      rw [e2] at HBB
      clear e1 e2 HN
      obtain ⟨hdl, hhd⟩ : ∃ q, q = b :: r := ⟨_, rfl⟩
      rw [← hhd] at HB i0 hne
      clear hhd h8
      cases d with
      | nil =>
        go_enter Tryd.func57, Tryd.ntmps57
        go_wp2_with fail
        refine HB.out.mono ?_
        rintro e w1 ⟨rfl, hm, hg⟩
        have HF := Lib.hid (HBB.out w1 hm)
        clear hm
        go_wp2_with fail
        refine HF.out.mono ?_
        rintro e w2 ⟨rfl, hm2, hg2⟩
        have HM := Lib.hid hm2
        clear hm2
        go_wp2
        go_ret
        rw [HS.out]
        exact ⟨rfl, HM.out, grown_trans hg hg2⟩
      | cons x t =>
        have j0 : ∀ W, (Instr.index 9 (.string (str (x :: t))) (.int .i64 0)).run Tryd.prog W = .ok (.int .u8 (x.toNat : Int)) W := fun W => run_index_str 9 Tryd.underlying9 (x :: t) .i64 0 (by simp) W
        have hne2 : (x :: t).isEmpty = false := rfl
        by_cases hx : x = 0
        · have HS2 := Lib.hid (show numS s = (failS s2 2, 0) by rw [HS.out]; simp [hx])
          subst hx
          clear HS
          obtain ⟨D, hD⟩ : ∃ q, q = (0 : UInt8) :: t := ⟨_, rfl⟩
          rw [← hD] at HBB j0 hne2 hdl8
          clear hD
          have hz : ((0 : UInt8).toNat : Int) = 0 := rfl
          rw [hz] at j0
          go_enter Tryd.func57, Tryd.ntmps57
          go_wp2_with fail
          refine HB.out.mono ?_
          rintro e w1 ⟨rfl, hm, hg⟩
          have HF := Lib.hid (HBB.out w1 hm)
          clear hm
          go_wp2_with fail
          refine HF.out.mono ?_
          rintro e w2 ⟨rfl, hm2, hg2⟩
          have HF2 := Lib.hid (fail_any w2 g s2 2 hm2)
          clear hm2
          go_wp2_with fail
          refine HF2.out.mono ?_
          rintro e w3 ⟨rfl, hm3, hg3⟩
          have HM := Lib.hid hm3
          clear hm3
          go_wp2
          go_ret
          rw [HS2.out]
          exact ⟨rfl, HM.out, grown_trans (grown_trans hg hg2) hg3⟩
        · have HS2 := Lib.hid (show numS s = (s2, val (x :: t)) by rw [HS.out]; simp [hx])
          have hx0 : ((x.toNat : Int) == 0) = false := by
            rw [beq_eq_false_iff_ne]
            intro h0
            apply hx
            apply UInt8.toNat_inj.1
            simpa using h0
          clear HS hx
          obtain ⟨D, hD⟩ : ∃ q, q = x :: t := ⟨_, rfl⟩
          rw [← hD] at HBB j0 hne2 hdl8 HS2
          clear hD
          go_enter Tryd.func57, Tryd.ntmps57
          go_wp2_with fail
          refine HB.out.mono ?_
          rintro e w1 ⟨rfl, hm, hg⟩
          have HF := Lib.hid (HBB.out w1 hm)
          clear hm
          go_wp2_with fail
          refine HF.out.mono ?_
          rintro e w2 ⟨rfl, hm2, hg2⟩
          have HM := Lib.hid hm2
          clear hm2 HF HBB HB
          go_wp2_with fail
          go_loop [5, 30] (fun v i => ∃ k : Nat, k ≤ D.length ∧ i = .int .i64 k ∧ v = .int .u64 (val (D.take k) : Int)) (fun _ i => D.length - (intOf i).toNat)
          case atStart => exact ⟨0, by omega, rfl, rfl⟩
          case round =>
            obtain ⟨k, hk, rfl, rfl⟩ := hrel
            by_cases hlt : k < D.length
            · obtain ⟨y, hy⟩ : ∃ y, y = D[k] := ⟨_, rfl⟩
              have hyl := y.toNat_lt
              have iy : ∀ W, (Instr.index 9 (.string (str D)) (.int .i64 (k : Int))).run Tryd.prog W = .ok (.int .u8 (y.toNat : Int)) W := fun W => by
                rw [run_index_str 9 Tryd.underlying9 D .i64 k hlt W, hy, List.getD_eq_getElem?_getD, List.getElem?_eq_getElem hlt]
                rfl
              have hvl := val_take_lt D k hlt hdl8
              have HV := Lib.hid (show val (D.take (k + 1)) = val (D.take k) * 256 + y.toNat by rw [hy]; exact val_take_succ D k hlt)
              obtain ⟨v, hv⟩ : ∃ v, v = val (D.take k) := ⟨_, rfl⟩
              rw [← hv] at hvl HV ⊢
              have hor := or_shift v y.toNat hvl hyl
              clear hv hy
              have hd : decide (k < D.length) = true := by simp; omega
              go_wp2_with fail
              go_round
              case rel => exact ⟨k + 1, by omega, by go_num, by rw [HV.out]; simp⟩
              case measure => simp [intOf]; omega
            · have ek : k = D.length := by omega
              subst ek
              rw [List.take_length]
              go_wp2
              go_ret
              rw [HS2.out]
              exact ⟨rfl, HM.out, grown_trans hg hg2⟩
end Go.Proofs.YtjdhcanblpifcaaDoor

/-
  Numbers: what is encoded is decoded, and a number has one encoding.
-/
namespace Go.Proofs.YtjdhcanblpifcaaDoor
open Go.RowKit Crv

theorem be_val_rev : ∀ d : List UInt8, be d.length (val d.reverse) = d.reverse
  | [] => rfl
  | b :: r => by
    have h := be_val_rev r
    have hb := b.toNat_lt
    rw [List.length_cons, List.reverse_cons, val_snoc, be]
    have e1 : (val r.reverse * 256 + b.toNat) / 256 = val r.reverse := by omega
    have e2 : UInt8.ofNat (val r.reverse * 256 + b.toNat) = b := by
      apply UInt8.toNat_inj.1
      rw [UInt8.toNat_ofNat']
      omega
    rw [e1, e2, h]
theorem be_val (d : List UInt8) : be d.length (val d) = d := by
  have := be_val_rev d.reverse
  rwa [List.reverse_reverse, List.length_reverse] at this
theorem foldl_ge : ∀ (r : List UInt8) (a : Nat), a * 256 ^ r.length ≤ r.foldl (fun a b => a * 256 + b.toNat) a
  | [], a => by simp
  | b :: r, a => by
    have h := foldl_ge r (a * 256 + b.toNat)
    rw [List.foldl_cons, List.length_cons, Nat.pow_succ]
    refine Nat.le_trans ?_ h
    rw [Nat.mul_comm (256 ^ r.length) 256, ← Nat.mul_assoc]
    exact Nat.mul_le_mul_right _ (by omega)
theorem val_ge (x : UInt8) (r : List UInt8) (hx : x ≠ 0) : 256 ^ r.length ≤ val (x :: r) := by
  have h : 1 ≤ x.toNat := by
    have : x.toNat ≠ 0 := fun e => hx (UInt8.toNat_inj.1 (by simpa using e))
    omega
  have h2 := foldl_ge r (0 * 256 + x.toNat)
  unfold val
  rw [List.foldl_cons]
  refine Nat.le_trans ?_ h2
  have := Nat.mul_le_mul_right (256 ^ r.length) (show 1 ≤ 0 * 256 + x.toNat by omega)
  omega
theorem pow256 (k : Nat) : (256 : Nat) ^ k = 2 ^ (8 * k) := by rw [show (256 : Nat) = 2 ^ 8 from rfl, ← Nat.pow_mul]
theorem numLen_unique (n k : Nat) (h1 : 256 ^ k ≤ n) (h2 : n < 256 ^ (k + 1)) : numLen n = k + 1 := by
  rw [pow256] at h1 h2
  have a := len64_le h2
  have b := (Nat.pow_lt_pow_iff_right (by omega : 1 < 2)).1 (Nat.lt_of_le_of_lt h1 (len64_lt n))
  unfold numLen
  omega
theorem numLen_val (x : UInt8) (r : List UInt8) (hx : x ≠ 0) : numLen (val (x :: r)) = (x :: r).length := by
  have h := val_lt (x :: r)
  exact numLen_unique _ _ (val_ge x r hx) h
theorem numOf_val (x : UInt8) (r : List UInt8) (hx : x ≠ 0) : numOf (val (x :: r)) = UInt8.ofNat (x :: r).length :: (x :: r) := by
  unfold numOf
  rw [numLen_val x r hx, be_val]
theorem numOf_zero : numOf 0 = [0] := rfl

theorem numS_err (l : List UInt8) (h : (numS (l, 0)).1.2 ≠ 0) : (numS (l, 0)).2 = 0 ∧ (numS (l, 0)).1.1 = [] := by
  revert h
  unfold numS
  cases l with
  | nil => simp [bytesS, failS]
  | cons b r =>
    have e1 : bytesS (b :: r, 0) 1 = ((r, 0), [b]) := by simp [bytesS]; omega
    rw [e1]
    simp only
    by_cases h8 : 8 < b.toNat
    · simp [h8, failS]
    · rw [if_neg h8]
      by_cases hlen : r.length < b.toNat
      · have e2 : bytesS (r, 0) (b.toNat : Int) = (([], 1), []) := by unfold bytesS; rw [if_pos (.inr (by simp; omega))]; simp [failS]
        rw [e2]
        simp
      · have e2 : bytesS (r, 0) (b.toNat : Int) = ((r.drop b.toNat, 0), r.take b.toNat) := by unfold bytesS; rw [if_neg (by simp; omega)]; simp
        rw [e2]
        cases ht : r.take b.toNat with
        | nil => simp
        | cons x t =>
          simp only
          by_cases hx : x = 0
          · simp [hx, failS]
          · simp [hx]
theorem numS_ok (l : List UInt8) (h : (numS (l, 0)).1.2 = 0) : numOf (numS (l, 0)).2 ++ (numS (l, 0)).1.1 = l := by
  revert h
  unfold numS
  cases l with
  | nil => simp [bytesS, failS]
  | cons b r =>
    have e1 : bytesS (b :: r, 0) 1 = ((r, 0), [b]) := by simp [bytesS]; omega
    rw [e1]
    simp only
    by_cases h8 : 8 < b.toNat
    · simp [h8, failS]
    · rw [if_neg h8]
      by_cases hlen : r.length < b.toNat
      · have e2 : bytesS (r, 0) (b.toNat : Int) = (([], 1), []) := by unfold bytesS; rw [if_pos (.inr (by simp; omega))]; simp [failS]
        rw [e2]
        simp
      · have e2 : bytesS (r, 0) (b.toNat : Int) = ((r.drop b.toNat, 0), r.take b.toNat) := by unfold bytesS; rw [if_neg (by simp; omega)]; simp
        rw [e2]
        have hl : (r.take b.toNat).length = b.toNat := by rw [List.length_take]; omega
        have hcat : r.take b.toNat ++ r.drop b.toNat = r := List.take_append_drop _ _
        cases ht : r.take b.toNat with
        | nil =>
          rw [ht] at hl hcat
          have hb0 : b = 0 := UInt8.toNat_inj.1 (by simpa using hl.symm)
          simp only [List.nil_append] at hcat
          simp [numOf_zero, hb0]
        | cons x t =>
          rw [ht] at hl hcat
          simp only
          by_cases hx : x = 0
          · simp [hx, failS]
          · simp only [if_neg hx]
            intro _
            rw [numOf_val x t hx, hl, List.cons_append, hcat]
            congr 1
            apply UInt8.toNat_inj.1
            rw [UInt8.toNat_ofNat']
            have := b.toNat_lt
            omega
theorem numS_lt (s : BSt) : (numS s).2 < 18446744073709551616 := by
  unfold numS
  split
  · simp
  · rename_i s1 b r h1
    split
    · simp
    · rename_i h8
      split
      · simp
      · rename_i s2 x t h2
        split
        · simp
        · have hl : (x :: t).length ≤ 8 := by
            have e : x :: t = (bytesS s1 (b.toNat : Int)).2 := by rw [h2]
            rw [e]
            unfold bytesS
            split
            · simp
            · simp; omega
          have h3 := val_lt (x :: t)
          have h4 : 256 ^ (x :: t).length ≤ 256 ^ 8 := Nat.pow_le_pow_right (by omega) hl
          have h5 : (256 : Nat) ^ 8 = 18446744073709551616 := by decide
          simp only
          omega
end Go.Proofs.YtjdhcanblpifcaaDoor

/-
  Package bale: the decoder: Int, Str; the reference's Bytes, TakeNum, Int, TakeStr, TakeIDs behind an error.
-/
namespace Go.Proofs.YtjdhcanblpifcaaDoor
open Go.RowKit Crv

/-- What Int does. -/
def intS (s : BSt) (top : Int) : BSt × Nat := if nat0 top < (numS s).2 then (failS (numS s).1 5, 0) else numS s
theorem intS_lt (s : BSt) (top : Int) (ht : top < 9223372036854775808) : (intS s top).2 < 9223372036854775808 := by
  unfold intS
  split
  · simp
  · unfold nat0 at *
    omega

set_option maxRecDepth 100000 in
set_option maxHeartbeats 400000 in
theorem intB_any (w : World) (g : Nat) (s : BSt) (top : Int) (h : BM w g s) (h1 : -9223372036854775808 ≤ top) (h2 : top < 9223372036854775808) :
    Calls Tryd.prog 31 #[ptr g, .int .i64 top] w fun e w' => e = .returned (.int .i64 ((intS s top).2 : Int)) ∧ BM w' g (intS s top).1 ∧ w.grownBy w' (some g) := by
  have HN := Lib.hid (numB_any w g s h)
  have hlt := numS_lt s
  have HI := Lib.hid (show intS s top = if nat0 top < (numS s).2 then (failS (numS s).1 5, 0) else numS s from rfl)
  clear h
  obtain ⟨s1, n, e1⟩ : ∃ s1 n, numS s = (s1, n) := ⟨_, _, rfl⟩
  rw [e1] at HN HI hlt
  clear e1
  have hlt' : n < 18446744073709551616 := hlt
  clear hlt
  by_cases h0 : 0 ≤ top
  · obtain ⟨m, rfl⟩ := Int.eq_ofNat_of_zero_le h0
    rw [show nat0 (m : Int) = m from by unfold nat0; omega] at HI
    clear h0
    by_cases hc : m < n
    · have HI2 := Lib.hid (show intS s (m : Int) = (failS s1 5, 0) by rw [HI.out]; simp [hc])
      have hd : decide (m < n) = true := by simpa using hc
      clear HI
      go_enter Tryd.func31, Tryd.ntmps31
      go_wp2_with fail
      refine HN.out.mono ?_
      rintro e w1 ⟨rfl, hm, hg⟩
      have HF := Lib.hid (fail_any w1 g s1 5 hm)
      clear hm
      go_wp2_with fail
      refine HF.out.mono ?_
      rintro e w2 ⟨rfl, hm2, hg2⟩
      have HM := Lib.hid hm2
      clear hm2
      go_wp2
      go_ret
      rw [HI2.out]
      exact ⟨rfl, HM.out, grown_trans hg hg2⟩
    · have HI2 := Lib.hid (show intS s (m : Int) = (s1, n) by rw [HI.out]; simp only [if_neg hc])
      have hd : decide (m < n) = false := by simpa using hc
      clear HI
      go_enter Tryd.func31, Tryd.ntmps31
      go_wp2_with fail
      refine HN.out.mono ?_
      rintro e w1 ⟨rfl, hm, hg⟩
      have HM := Lib.hid hm
      clear hm
      go_wp2
      go_ret
      rw [HI2.out]
      exact ⟨rfl, HM.out, hg⟩
  · have hneg : top < 0 := by omega
    rw [show nat0 top = 0 from by unfold nat0; omega] at HI
    by_cases hc : 0 < n
    · have HI2 := Lib.hid (show intS s top = (failS s1 5, 0) by rw [HI.out]; simp [hc])
      clear HI
      go_enter Tryd.func31, Tryd.ntmps31
      go_wp2_with fail
      refine HN.out.mono ?_
      rintro e w1 ⟨rfl, hm, hg⟩
      have HF := Lib.hid (fail_any w1 g s1 5 hm)
      clear hm
      go_wp2_with fail
      refine HF.out.mono ?_
      rintro e w2 ⟨rfl, hm2, hg2⟩
      have HM := Lib.hid hm2
      clear hm2
      go_wp2
      go_ret
      rw [HI2.out]
      exact ⟨rfl, HM.out, grown_trans hg hg2⟩
    · have hn0 : n = 0 := by omega
      subst hn0
      have HI2 := Lib.hid (show intS s top = (s1, 0) by rw [HI.out]; rfl)
      clear HI hc
      go_enter Tryd.func31, Tryd.ntmps31
      go_wp2_with fail
      refine HN.out.mono ?_
      rintro e w1 ⟨rfl, hm, hg⟩
      have HM := Lib.hid hm
      clear hm
      go_wp2
      go_ret
      rw [HI2.out]
      exact ⟨rfl, HM.out, hg⟩

/-- What Str does. -/
def strS (s : BSt) (top : Int) : BSt × List UInt8 := bytesS (intS s top).1 ((intS s top).2 : Int)
/-- The reference's decoder behind ErrForm. -/
abbrev bad : Value := .agg #[.string (str []), .int .i64 2]

/-- A result that is a struct in memory, and one in a slot. -/
theorem resultsCellTmp {P : Program} {fn : Func} {p u : Tmp} {ty : TypeId} {w : World} {g : Nat} {t : TypeId} {cs : List Value} (hm : Mem w g t cs) (h : fn.results = #[.cell p ty, .tmp u]) (tmps : Array Value) (d : TypeDesc)
    (hp : tmps.getD p undef = .pointer (some ⟨g, 0, none⟩)) (hu : P.underlying ty = some d) (hd : (match d with | .struct _ | .array _ _ => true | _ => false) = true) (hi : (P.info? ty).map (·.size) = some cs.length) :
    (results fn tmps).run P w = .ok (.tuple #[.agg cs.toArray, tmps.getD u undef]) w := by
  rw [results_cell_tmp h tmps P w, hp]
  simp [asAddr, run_loadVar_row w g t ty cs.toArray (0, 0) d hm hu hd (by simpa using hi)]
abbrev badCells : List Value := [.string (str []), .int .i64 2]
theorem sz_ref : (Tryd.prog.info? 84).map (·.size) = some badCells.length := by kernel_rfl

set_option maxRecDepth 100000 in
theorem refBytes_bad (n : Int) (w : World) :
    Calls Tryd.prog 36 #[bad, .int .i64 n] w fun e w' => e = .returned (.tuple #[bad, .string (str [])]) ∧ Below w.heap.size w w' := by
  go_enter Tryd.func36, Tryd.ntmps36
  go_wp2
  exact bodyPost_ret (resultsCellTmp (Mem.newAt _ 84 badCells (by simp)) rfl _ _ rfl Tryd.underlying84 rfl sz_ref) rfl ⟨rfl, (belowSelf w _).alloc (by simp) _⟩

/-- Cells of a block that is there read behind a call as they did. -/
theorem bcell {W w1 : World} (hb : Below W.heap.size W w1) : (∀ b o, b < W.heap.size → w1.cell? ⟨b, o, none⟩ = W.cell? ⟨b, o, none⟩) ∧ (∀ b o, b < W.heap.size → w1.frozen? ⟨b, o, none⟩ = W.frozen? ⟨b, o, none⟩) :=
  ⟨fun b o h => hb.cell (p := ⟨b, o, none⟩) h, fun b o h => hb.frozen (p := ⟨b, o, none⟩) h⟩

theorem memTwo {w : World} {g : Nat} {t : TypeId} {a b : Value} (h : Mem w g t [a, b]) : w.cell? ⟨g, 0, none⟩ = some a ∧ w.cell? ⟨g, 1, none⟩ = some b ∧ w.frozen? ⟨g, 0, none⟩ = false ∧ w.frozen? ⟨g, 1, none⟩ = false := ⟨h.cell 0, h.cell 1, h.frozen 0, h.frozen 1⟩
abbrev Tr : TypeId := 84
abbrev zeroCells : List Value := [.string (str []), .int .i64 0]
/-- Two structs of the reference's in blocks g and g + 1, both written over. -/
theorem put_two {w1 : World} {g : Nat} {a b : Value} (h : Mem w1 (g + 1) Tr [a, b]) : Mem ((((w1.setCell ⟨g, 0, none⟩ (.string (str []))).setCell ⟨g, 1, none⟩ (.int .i64 2)).setCell ⟨g + 1, 0, none⟩ (.string (str []))).setCell ⟨g + 1, 1, none⟩ (.int .i64 2)) (g + 1) Tr badCells :=
  (((h.other (by simp) _).other (by simp) _).set 0 _).set 1 _
theorem below_put {w w1 : World} (h : Below w.heap.size w w1) (a b c d : Value) : Below w.heap.size w ((((w1.setCell ⟨w.heap.size, 0, none⟩ a).setCell ⟨w.heap.size, 1, none⟩ b).setCell ⟨w.heap.size + 1, 0, none⟩ c).setCell ⟨w.heap.size + 1, 1, none⟩ d) :=
  (((h.setCell (Nat.le_refl _) _).setCell (Nat.le_refl _) _).setCell (Nat.le_succ _) _).setCell (Nat.le_succ _) _

set_option maxRecDepth 100000 in
theorem refNum_bad (w : World) :
    Calls Tryd.prog 62 #[bad] w fun e w' => e = .returned (.tuple #[bad, .int .u64 0]) ∧ Below w.heap.size w w' := by
  go_enter Tryd.func62, Tryd.ntmps62
  go_wp2_with fail
  refine (refBytes_bad _ _).mono ?_
  rintro e w1 ⟨rfl, hb⟩
  have hm0 : Mem w1 w.heap.size Tr badCells := Mem.below ((Mem.newAt w Tr badCells rfl).alloc _) hb (by simp; omega)
  have hm1 : Mem w1 (w.heap.size + 1) Tr zeroCells := Mem.below (Mem.newAt (w.alloc _) Tr zeroCells (by simp)) hb (by simp)
  have hb0 : Below w.heap.size w w1 := ((belowSelf w _).alloc (by simp) _).trans (hb.mono (by simp; omega))
  obtain ⟨c00, c01, f00, f01⟩ := memTwo hm0
  obtain ⟨c10, c11, f10, f11⟩ := memTwo hm1
  have HM1 := Lib.hid hm1
  clear hb hm0 hm1
  go_wp2_with fail
  exact bodyPost_ret (resultsCellTmp (put_two HM1.out) rfl _ _ rfl Tryd.underlying84 rfl sz_ref) rfl ⟨rfl, below_put hb0 _ _ _ _⟩

set_option maxRecDepth 100000 in
theorem refInt_bad (n : Int) (w : World) :
    Calls Tryd.prog 35 #[bad, .int .i64 n] w fun e w' => e = .returned (.tuple #[bad, .int .i64 0]) ∧ Below w.heap.size w w' := by
  go_enter Tryd.func35, Tryd.ntmps35
  go_wp2_with fail
  refine (refNum_bad _).mono ?_
  rintro e w1 ⟨rfl, hb⟩
  have hm0 : Mem w1 w.heap.size Tr badCells := Mem.below ((Mem.newAt w Tr badCells rfl).alloc _) hb (by simp; omega)
  have hm1 : Mem w1 (w.heap.size + 1) Tr zeroCells := Mem.below (Mem.newAt (w.alloc _) Tr zeroCells (by simp)) hb (by simp)
  have hb0 : Below w.heap.size w w1 := ((belowSelf w _).alloc (by simp) _).trans (hb.mono (by simp; omega))
  obtain ⟨c00, c01, f00, f01⟩ := memTwo hm0
  obtain ⟨c10, c11, f10, f11⟩ := memTwo hm1
  have HM1 := Lib.hid hm1
  clear hb hm0 hm1
  go_wp2_with fail
  exact bodyPost_ret (resultsCellTmp (put_two HM1.out) rfl _ _ rfl Tryd.underlying84 rfl sz_ref) rfl ⟨rfl, below_put hb0 _ _ _ _⟩

end Go.Proofs.YtjdhcanblpifcaaDoor

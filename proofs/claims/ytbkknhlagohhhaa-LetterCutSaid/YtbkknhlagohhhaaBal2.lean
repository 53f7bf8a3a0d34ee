/-
  Package bale: appendNum, Num.
-/
import Derived.Test.YtbkknhlagohhhaaBal1
namespace Go.Proofs.Ytbkknhlagohhhaa
open Go.RowKit Crv

/-- How many bytes a number takes. -/
def numLen (n : Nat) : Nat := (len64 n + 7) / 8
/-- The encoding of a number. -/
def numOf (n : Nat) : List UInt8 := UInt8.ofNat (numLen n) :: be (numLen n) n
theorem numLen_le {n : Nat} (h : n < 18446744073709551616) : numLen n ≤ 8 := by
  have := len64_le (n := n) (k := 64) h
  unfold numLen
  omega
theorem length_numOf {n : Nat} (h : n < 18446744073709551616) : (numOf n).length ≤ 9 := by
  have := numLen_le h
  simp [numOf, length_be]
  omega
theorem be_step (k j n : Nat) : be (k + 1) (n / 256 ^ j) = be k (n / 256 ^ (j + 1)) ++ [UInt8.ofNat (n / 256 ^ j)] := by
  rw [be, Nat.div_div_eq_div_mul, ← Nat.pow_succ]
theorem byte_shift (n j : Nat) : ((n : Int) / 2 ^ (8 * j)) % 256 = ((UInt8.ofNat (n / 256 ^ j)).toNat : Int) := by
  have e : (256 : Nat) ^ j = 2 ^ (8 * j) := by rw [show (256 : Nat) = 2 ^ 8 from rfl, ← Nat.pow_mul]
  rw [UInt8.toNat_ofNat', e]
  simp [Int.natCast_ediv, Int.natCast_pow]

set_option maxRecDepth 100000 in
set_option maxHeartbeats 1000000 in
/-- appendNum onto a slice of the call's own. -/
theorem appendNum_any (w : World) (base : Nat) (v : Value) (l : List UInt8) (n : Nat) (hn : n < 18446744073709551616) (hown : Owns w base 5 v (l.map byteV)) (hbase : base ≤ w.heap.size) (hl : l.length ≤ 1099511627000) :
    Calls Try.prog 82 #[v, .int .u64 (n : Int)] w fun e w' => ∃ v', e = .returned v' ∧ Owns w' base 5 v' ((l ++ numOf n).map byteV) ∧ Below base w w' := by
  obtain ⟨i, hi, hz, hs, hby⟩ : ∃ i, Try.prog.info? 5 = some i ∧ i.zero = some (.int .u8 0) ∧ i.size = 1 ∧ i.bytes = 1 := info_of (by kernel_rfl)
  have HBY : i.bytes ≤ 64 := by omega
  have HI := Lib.hid hi
  have HZ := Lib.hid hz
  have HS := Lib.hid hs
  clear hi hz hs hby
  have HO := Lib.hid hown
  clear hown
  have hk := numLen_le hn
  obtain ⟨m, hm⟩ : ∃ m, m = len64 n := ⟨_, rfl⟩
  have hm64 : m ≤ 64 := by rw [hm]; exact len64_le (n := n) (k := 64) hn
  have HL : Hid (∀ W, Calls Try.prog 94 #[.int .u64 (n : Int)] W fun e w' => e = .returned (.int .i64 (m : Int)) ∧ W = w') := Lib.hid (fun W => by rw [hm]; exact len64_any n W hn)
  obtain ⟨z, hz⟩ : ∃ z, z = numLen n := ⟨_, rfl⟩
  have hzm : ((m : Int) + 7) / 8 = (z : Int) := by rw [hz, hm]; unfold numLen; omega
  have HNUM := Lib.hid (show numOf n = UInt8.ofNat z :: be z n by rw [hz]; rfl)
  rw [← hz] at hk
  clear hz hm
  have hone : ∀ u ∈ [Value.int .u8 (z : Int)], u.oneCell' = true := by intro u hu; simp at hu; subst hu; rfl
  have HONE := Lib.hid hone
  clear hone
  go_enter Try.func82, Try.ntmps82
  go_wp2_with fail
  refine (HL.out _).mono ?_
  rintro e w' ⟨rfl, rfl⟩
  go_wp2_with (first
    | (at_builtin; refine wp_append_keep (HO.out.alloc _) base ((Below.refl base w).alloc hbase _) (Nat.le_refl _) [.int .u8 (z : Int)] (.tmp 11) (.tmp 14) 122 i (.int .u8 0) rfl rfl Try.underlying122 HI.out HZ.out HS.out HBY rfl rfl rfl (fun j u hu => cell_news_one _ _ _ j u hu) HONE.out (by simp; omega) (by simp; omega) ?_; intro v1 w1 hown1 hb1 hz1 hkp1; have HO1 := Lib.hid hown1; clear hown1 hkp1)
    | fail)
  have hs1 : base ≤ w1.heap.size := by simp at hz1; omega
  have HA : Hid (Owns w1 base 5 v1 ((l ++ (UInt8.ofNat z :: be (z - z) (n / 256 ^ z))).map byteV)) := Lib.hid (by
    have h := HO1.out
    rw [Nat.sub_self, be, List.map_append]
    have e : [UInt8.ofNat z].map byteV = [Value.int .u8 (z : Int)] := by
      simp only [List.map_cons, List.map_nil, byteV]
      rw [UInt8.toNat_ofNat', Nat.mod_eq_of_lt (by omega)]
    rw [e]
    exact h)
  clear HO1 hz1
  go_loopw [0, 6] (fun v i wr => ∃ (j : Nat) (a : Int), j ≤ z ∧ a = (j : Int) - 1 ∧ i = .int .i64 a ∧ Hid (Owns wr base 5 v ((l ++ (UInt8.ofNat z :: be (z - j) (n / 256 ^ j))).map byteV)) ∧ Below base w wr ∧ base ≤ wr.heap.size) (fun _ i _ => (intOf i + 1).toNat)
  case atStart => exact ⟨z, _, Nat.le_refl _, rfl, rfl, HA, hb1, hs1⟩
  case round =>
    obtain ⟨j, a, hj, ha, rfl, HR, hb, hbs⟩ := hrel
    clear HA hb1 hs1
    cases j with
    | zero =>
      have ha' : a = -1 := by omega
      subst ha'
      clear ha
      go_wp2
      go_ret
      refine ⟨_, rfl, ?_, hb⟩
      have h := HR.out
      rw [HNUM.out]
      simpa using h
    | succ q =>
      have ha' : a = (q : Int) := by omega
      subst ha'
      clear ha
      have HB := Lib.hid (byte_shift n q)
      have HONE2 := Lib.hid (show ∀ u ∈ [Value.int .u8 ((n : Int) / 2 ^ (8 * q) % 256)], u.oneCell' = true by intro u hu; simp at hu; subst hu; rfl)
      have HLEN := Lib.hid (show ((l ++ (UInt8.ofNat z :: be (z - (q + 1)) (n / 256 ^ (q + 1)))).map byteV).length ≤ 1099511627100 by simp [length_be]; omega)
      go_wp2_with (first
        | (at_builtin; refine wp_append_keep (HR.out.alloc _) base (hb.alloc hbs _) (Nat.le_refl _) [.int .u8 ((n : Int) / 2 ^ (8 * q) % 256)] (.tmp 22) (.tmp 28) 122 i (.int .u8 0) rfl rfl Try.underlying122 HI.out HZ.out HS.out HBY rfl rfl rfl (fun j u hu => cell_news_one _ _ _ j u hu) HONE2.out (Nat.le_trans (Nat.add_le_add_right HLEN.out _) (by simp)) (by simp; omega) ?_; intro v2 w2 hown2 hb2 hz2 hkp2; have HO2 := Lib.hid hown2; clear hown2 hkp2)
        | fail)
      have hs2 : base ≤ w2.heap.size := by simp at hz2; omega
      have HA2 : Hid (Owns w2 base 5 v2 ((l ++ (UInt8.ofNat z :: be (z - q) (n / 256 ^ q))).map byteV)) := Lib.hid (by
        have h := HO2.out
        rw [show z - q = z - (q + 1) + 1 from by omega, be_step]
        rw [HB.out] at h
        have e : ∀ (k : List UInt8) (x : UInt8), (l ++ (UInt8.ofNat z :: (k ++ [x]))).map byteV = (l ++ (UInt8.ofNat z :: k)).map byteV ++ [byteV x] := by simp
        rw [e]
        exact h)
      clear hz2 HO2
      go_roundw
      case rel => exact ⟨q, _, by omega, rfl, by go_num, HA2, hb2, hs2⟩
      case measure => simp [intOf]

/-- A post with a value that lies in memory. -/
def RetOwn (w : World) (base : Nat) (l : List UInt8) (e : Ending) (w' : World) : Prop := ∃ v', e = .returned v' ∧ Owns w' base 5 v' (l.map byteV) ∧ Below base w w'

end Go.Proofs.Ytbkknhlagohhhaa

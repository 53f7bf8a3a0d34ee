/-
  A name's signs: oid.Text and its reference, in seats that hold no more of the layer (made of Oid7, Oid11, Oid14 by mkotx.py).
-/
import Derived.Test.YtbjeiiofanpkdaaDoorBase
import Derived.Test.YtbjeiiofanpkdaaDoorLeaf
import Derived.Test.YtbjeiiofanpkdaaDoorApp
namespace Go.Proofs.YtbjeiiofanpkdaaDoor
open Go.RowKit Crv

abbrev TI : TypeId := 30
theorem sz_id (x : List UInt8) (h : x.length = 32) : (Tryd.prog.info? 30).map (·.size) = some (x.map byteV).length := by rw [List.length_map, h]; kernel_rfl
/-- A name as a number. -/
def num (l : List UInt8) : Nat := l.foldl (fun a b => a * 256 + b.toNat) 0
theorem num_snoc (l : List UInt8) (b : UInt8) : num (l ++ [b]) = num l * 256 + b.toNat := by simp [num]
theorem num_foldl (l : List UInt8) : ∀ a, l.foldl (fun a b => a * 256 + b.toNat) a = a * 256 ^ l.length + num l := by
  induction l with
  | nil => intro a; simp [num]
  | cons b r ih =>
    intro a
    have h1 := ih (a * 256 + b.toNat)
    have h2 := ih (0 * 256 + b.toNat)
    rw [List.foldl_cons, h1]
    unfold num
    rw [List.foldl_cons, h2, List.length_cons, Nat.pow_succ, Nat.add_mul, Nat.mul_assoc, Nat.mul_comm 256, Nat.zero_mul, Nat.zero_add, Nat.add_assoc]
    rfl
theorem num_append (a b : List UInt8) : num (a ++ b) = num a * 256 ^ b.length + num b := by
  rw [num, List.foldl_append, num_foldl]
  rfl
theorem num_lt_rev : ∀ l : List UInt8, num l.reverse < 256 ^ l.length
  | [] => by simp [num]
  | b :: r => by
    have h := num_lt_rev r
    have hb := b.toNat_lt
    rw [List.reverse_cons, num_snoc, List.length_cons, Nat.pow_succ]
    omega
theorem num_lt (l : List UInt8) : num l < 256 ^ l.length := by
  have := num_lt_rev l.reverse
  rwa [List.reverse_reverse, List.length_reverse] at this
theorem num_take_succ (l : List UInt8) (k : Nat) (h : k < l.length) : num (l.take (k + 1)) = num (l.take k) * 256 + (l.getD k 0).toNat := by
  rw [List.take_succ_eq_append_getElem h, num_snoc, List.getD_eq_getElem?_getD, List.getElem?_eq_getElem h]
  rfl
theorem num_div (l : List UInt8) (k : Nat) : num l / 256 ^ (l.length - k) = num (l.take k) := by
  have h := num_append (l.take k) (l.drop k)
  rw [List.take_append_drop, List.length_drop] at h
  have h2 := num_lt (l.drop k)
  rw [List.length_drop] at h2
  rw [h, Nat.mul_comm, Nat.mul_add_div (Nat.pow_pos (by omega)), Nat.div_eq_of_lt h2, Nat.add_zero]

def alpha : List UInt8 := [48, 49, 50, 51, 52, 53, 54, 55, 56, 57, 97, 98, 99, 100, 102, 103, 104, 105, 106, 107, 108, 109, 110, 112, 113, 114, 115, 118, 119, 120, 121, 122]
def sgn (n : Nat) : UInt8 := alpha.getD n 0
/-- The first e signs of a name. -/
def signs (N e : Nat) : List UInt8 := (List.range e).map fun i => sgn (N / 2 ^ (251 - 5 * i) % 32)
theorem signs_succ (N e : Nat) : signs N (e + 1) = signs N e ++ [sgn (N / 2 ^ (251 - 5 * e) % 32)] := by simp [signs, List.range_succ]
theorem length_signs (N e : Nat) : (signs N e).length = e := by simp [signs]
/-- A name's signs. -/
def textOf (x : List UInt8) : List UInt8 := signs (num x) 51 ++ [sgn (num x * 16 % 32)]
theorem length_textOf (x : List UInt8) : (textOf x).length = 52 := by simp [textOf, length_signs]
theorem sign_at (x : List UInt8) (hx : x.length = 32) (k e c : Nat) (hk : k ≤ 32) (hc : 5 ≤ c) (h : 8 * k = 5 * e + c) : num (x.take k) / 2 ^ (c - 5) % 32 = num x / 2 ^ (251 - 5 * e) % 32 := by
  rw [← num_div x k, hx, show (256 : Nat) ^ (32 - k) = 2 ^ (8 * (32 - k)) from by rw [show (256 : Nat) = 2 ^ 8 from rfl, ← Nat.pow_mul], Nat.div_div_eq_div_mul, ← Nat.pow_add, show 8 * (32 - k) + (c - 5) = 251 - 5 * e from by omega]
theorem mod_shift (V j : Nat) (hj : j ≤ 20) : V % 4294967296 / 2 ^ j % 32 = V / 2 ^ j % 32 := by
  have e : (4294967296 : Nat) = 2 ^ j * 2 ^ (32 - j) := by rw [← Nat.pow_add, show j + (32 - j) = 32 from by omega]
  rw [e, Nat.mod_mul_right_div_self]
  have e2 : (2 : Nat) ^ (32 - j) = 32 * 2 ^ (27 - j) := by rw [show (32 : Nat) = 2 ^ 5 from rfl, ← Nat.pow_add, show 5 + (27 - j) = 2 ^ 5 - j from by simp; omega]
  rw [e2, Nat.mod_mul_right_mod]

theorem or_low (h b : Nat) (hb : b < 256) : bits .or .u32 ((h : Int) * 256 % 4294967296) (b : Int) = (((h * 256 + b) % 4294967296 : Nat) : Int) := by
  have e : ((h : Int) * 256 % 4294967296) = ((h % 16777216 * 256 : Nat) : Int) := by omega
  have h1 := Nat.shiftLeft_add_eq_or_of_lt (i := 8) (b := b) hb (h % 16777216)
  rw [Nat.shiftLeft_eq] at h1
  rw [e, u32_or_nat _ _ (by omega) (by omega), ← h1]
  congr 1
  omega
theorem and_31 (n : Nat) (hn : n < 4294967296) : bits .and .u32 (n : Int) 31 = ((n % 32 : Nat) : Int) := by
  rw [show (31 : Int) = ((31 : Nat) : Int) from rfl, u32_and_nat _ _ hn (by omega), show (31 : Nat) = 2 ^ 5 - 1 from rfl, Nat.and_two_pow_sub_one_eq_mod]

set_option maxHeartbeats 2000000 in
set_option maxRecDepth 100000 in
theorem text_any (x : List UInt8) (w : World) (hx : x.length = 32) :
    Calls Tryd.prog 20 #[.agg (x.map byteV).toArray] w fun e w' => e = .returned (.string (str (textOf x))) ∧ Below w.heap.size w w' := by
  have HX := Lib.hid hx
  have SZ := Lib.hid (sz_id x hx)
  obtain ⟨ti, hi, hz, hs, hby⟩ : ∃ i, Tryd.prog.info? 5 = some i ∧ i.zero = some (.int .u8 0) ∧ i.size = 1 ∧ i.bytes = 1 := info_of (by kernel_rfl)
  have HBY : ti.bytes ≤ 64 := by omega
  have HI := Lib.hid hi
  have HZ := Lib.hid hz
  have HS := Lib.hid hs
  clear hi hz hs hby hx
  have hmk : ∀ W, (Instr.makeSlice 26 (.int .i64 0) (.int .i64 52)).run Tryd.prog W = .ok (.slice (some ⟨W.heap.size, 0, none⟩) 0 52) (W.alloc (.cells (List.replicate 52 (.int .u8 0)).toArray 5)) := fun W => by kernel_rfl
  obtain ⟨N, hN⟩ : ∃ N, N = num x := ⟨_, rfl⟩
  have HN := Lib.hid hN
  clear hN
  go_enter Tryd.func20, Tryd.ntmps20
  go_wp2_with (first
    | (refine wp_load_mem (Mem.alloc (Mem.newAt w TI (x.map byteV) rfl) _) TI (.tmp 1) (.array 32 5) rfl rfl rfl Tryd.underlying30 rfl SZ.out ?_)
    | fail)
  clear hmk
  go_loopw [3, 4, 5, 10] (fun v h c i wr => ∃ (k e d : Nat), k ≤ 32 ∧ 8 * k = 5 * e + d ∧ d < 5 ∧ i = .int .i64 k ∧ c = .int .i64 d ∧ h = .int .u32 ((num (x.take k) % 4294967296 : Nat) : Int) ∧ Hid (Owns wr w.heap.size 5 v ((signs N e).map byteV)) ∧ Below w.heap.size w wr) (fun _ _ _ i _ => 32 - (intOf i).toNat)
  case atStart =>
    exact ⟨0, 0, 0, by omega, by omega, by omega, rfl, rfl, rfl, Lib.hid (Owns.of_mem (Mem.newAt (w.alloc (.cells (x.map byteV).toArray TI)) 5 (List.replicate 52 (.int .u8 0)) (by simp)) (Nat.le_succ _) 0 52 (by omega) (by simp) (by simp [maxLen]) rfl), ((Below.refl _ _).alloc (Nat.le_refl _) _).alloc (by simp) _⟩
  case round =>
    obtain ⟨k, e, d, hk, hked, hd5, rfl, rfl, rfl, HO, hb⟩ := hrel
    have hbz := hb.size
    by_cases hlt : k < 32
    · obtain ⟨b, hbd⟩ : ∃ b, b = x.getD k 0 := ⟨_, rfl⟩
      have hix := fun W => run_index_agg (P := Tryd.prog) TI 5 32 (x.map byteV) .u8 .i64 k (.int .u8 (b.toNat : Int)) Tryd.underlying30 Tryd.underlying5 (by kernel_rfl) hlt (by rw [hbd, List.getElem?_map, List.getD_eq_getElem?_getD, List.getElem?_eq_getElem (by rw [HX.out]; exact hlt)]; rfl) W
      have hbl := b.toNat_lt
      have HV := Lib.hid (show (num (x.take k) % 4294967296 * 256 + b.toNat) % 4294967296 = num (x.take (k + 1)) % 4294967296 by
        rw [num_take_succ x k (by rw [HX.out]; exact hlt), ← hbd]; omega)
      have hhl : num (x.take k) % 4294967296 < 4294967296 := Nat.mod_lt _ (by omega)
      obtain ⟨h, hh⟩ : ∃ h, h = num (x.take k) % 4294967296 := ⟨_, rfl⟩
      rw [← hh] at HV hhl ⊢
      have hor := or_low h b.toNat hbl
      rw [HV.out] at hor
      have hdk : decide ((k : Int) < 32) = true := by simp; omega
      have hkl : (k : Int) < 32 := by omega
      obtain ⟨h2, hh2⟩ : ∃ h2, h2 = num (x.take (k + 1)) % 4294967296 := ⟨_, rfl⟩
      have HH2 := Lib.hid hh2
      rw [← hh2] at hor
      have hh2l : h2 < 4294967296 := by rw [hh2]; exact Nat.mod_lt _ (by omega)
      clear hbd hh hh2 HV
      obtain ⟨wB, hwB⟩ : ∃ wB : World, wB = wr := ⟨_, rfl⟩
      subst hwB
      go_wp2_with fail
      go_loopw [3, 5] (fun v c w2 => ∃ (e' d' : Nat), 8 * (k + 1) = 5 * e' + d' ∧ d' ≤ 12 ∧ c = .int .i64 d' ∧ Hid (Owns w2 w.heap.size 5 v ((signs N e').map byteV)) ∧ Below w.heap.size w w2) (fun _ c _ => (intOf c).toNat)
      case atStart => exact ⟨e, d + 8, by omega, by omega, by go_num, HO, hb⟩
      case round =>
        clear HO hb hbz
        obtain ⟨e', d', hed, hd12, rfl, HO, hb⟩ := hrel
        have hbz := hb.size
        by_cases h5 : 5 ≤ d'
        · obtain ⟨q, rfl⟩ : ∃ q, d' = q + 5 := ⟨d' - 5, by omega⟩
          have hq7 : q ≤ 7 := by omega
          have HSG := Lib.hid (show h2 / 2 ^ q % 32 = N / 2 ^ (251 - 5 * e') % 32 by
            rw [HH2.out, mod_shift _ q (by omega), HN.out]
            have := sign_at x HX.out (k + 1) e' (q + 5) (by omega) (by omega) hed
            rwa [Nat.add_sub_cancel] at this)
          have hdv : h2 / 2 ^ q < 4294967296 := Nat.lt_of_le_of_lt (Nat.div_le_self _ _) hh2l
          have hand := and_31 (h2 / 2 ^ q) hdv
          obtain ⟨z, hz⟩ : ∃ z, z = h2 / 2 ^ q % 32 := ⟨_, rfl⟩
          have hzl : z < 32 := by rw [hz]; exact Nat.mod_lt _ (by omega)
          have HZZ := Lib.hid hz
          rw [← hz] at hand HSG
          have hdiv : ((h2 : Int) / 2 ^ q) = ((h2 / 2 ^ q : Nat) : Int) := by simp [Int.natCast_ediv, Int.natCast_pow]
          rw [← hdiv] at hand
          have xi : ∀ W, (Instr.index 9 (.string ⟨#[48, 49, 50, 51, 52, 53, 54, 55, 56, 57, 97, 98, 99, 100, 102, 103, 104, 105, 106, 107, 108, 109, 110, 112, 113, 114, 115, 118, 119, 120, 121, 122]⟩) (.int .u32 (z : Int))).run Tryd.prog W = .ok (.int .u8 ((sgn z).toNat : Int)) W := fun W => run_index_str 9 Tryd.underlying9 alpha .u32 z (by simpa [alpha] using hzl) W
          have HONE := Lib.hid (show ∀ u ∈ [byteV (sgn z)], u.oneCell' = true by intro u hu; simp at hu; subst hu; rfl)
          have HLEN := Lib.hid (show ((signs N e').map byteV).length + 1 ≤ 1099511627776 by rw [List.length_map, length_signs]; omega)
          have HTK := Lib.hid (show (signs N (e' + 1)).map byteV = (signs N e').map byteV ++ [byteV (sgn z)] by rw [signs_succ, HSG.out]; simp)
          clear hz hdiv hdv
          have hc5 : ((q + 5 : Nat) : Int) = (q : Int) + 5 := by omega
          rw [hc5]
          clear hc5
          go_wp2_with (first
            | (at_builtin; refine wp_append_keep (HO.out.alloc _) w.heap.size (hb.alloc hbz _) (Nat.le_refl _) [byteV (sgn z)] (.tmp 24) (.tmp 30) 26 ti (.int .u8 0) rfl rfl Tryd.underlying26 HI.out HZ.out HS.out HBY rfl rfl rfl (fun j u hu => cell_news_one _ _ _ j u hu) HONE.out HLEN.out (by simp; omega) ?_
               intro v3 w3 hown3 hb3 hz3 hkp3
               rw [← HTK.out] at hown3
               have HO3 := Lib.hid hown3
               clear hown3 hz3 hkp3)
            | fail)
          go_roundw
          case rel => exact ⟨e' + 1, q, by omega, by omega, rfl, HO3, hb3⟩
          case measure => simp [intOf]; omega
        · have hd5' : ¬ ((5 : Int) ≤ (d' : Int)) := by omega
          go_wp2_with fail
          go_roundw
          case rel => exact ⟨k + 1, e', d', by omega, by omega, by omega, by go_num, rfl, by rw [HH2.out], HO, hb⟩
          case measure => simp [intOf]; omega
    · have ek : k = 32 := by omega
      subst ek
      have he : e = 51 ∧ d = 1 := by omega
      obtain ⟨rfl, rfl⟩ := he
      have hxt : x.take 32 = x := List.take_of_length_le (by rw [HX.out]; exact Nat.le_refl _)
      rw [hxt, ← HN.out]
      clear hxt hlt hk hked hd5
      have hand := and_31 (N % 4294967296 * 16 % 4294967296) (Nat.mod_lt _ (by omega))
      have hsh : ((N % 4294967296 : Nat) : Int) * 16 % 4294967296 = ((N % 4294967296 * 16 % 4294967296 : Nat) : Int) := by omega
      rw [← hsh] at hand
      obtain ⟨z, hz⟩ : ∃ z, z = N % 4294967296 * 16 % 4294967296 % 32 := ⟨_, rfl⟩
      have hzl : z < 32 := by rw [hz]; exact Nat.mod_lt _ (by omega)
      have HZZ := Lib.hid (show z = num x * 16 % 32 by rw [hz, ← HN.out]; omega)
      rw [← hz] at hand
      obtain ⟨h, hh⟩ : ∃ h, h = N % 4294967296 := ⟨_, rfl⟩
      have hhl : h < 4294967296 := by rw [hh]; exact Nat.mod_lt _ (by omega)
      rw [← hh] at hand ⊢
      clear hz hh hsh
      have xi : ∀ W, (Instr.index 9 (.string ⟨#[48, 49, 50, 51, 52, 53, 54, 55, 56, 57, 97, 98, 99, 100, 102, 103, 104, 105, 106, 107, 108, 109, 110, 112, 113, 114, 115, 118, 119, 120, 121, 122]⟩) (.int .u32 (z : Int))).run Tryd.prog W = .ok (.int .u8 ((sgn z).toNat : Int)) W := fun W => run_index_str 9 Tryd.underlying9 alpha .u32 z (by simpa [alpha] using hzl) W
      have HONE := Lib.hid (show ∀ u ∈ [byteV (sgn z)], u.oneCell' = true by intro u hu; simp at hu; subst hu; rfl)
      have HLEN := Lib.hid (show ((signs N 51).map byteV).length + 1 ≤ 1099511627776 by rw [List.length_map, length_signs]; omega)
      have HTK := Lib.hid (show (textOf x).map byteV = (signs N 51).map byteV ++ [byteV (sgn z)] by unfold textOf; rw [← HZZ.out, ← HN.out]; simp)
      go_wp2_with (first
        | (at_builtin; refine wp_append_keep (HO.out.alloc _) w.heap.size (hb.alloc hbz _) (Nat.le_refl _) [byteV (sgn z)] (.tmp 33) (.tmp 38) 26 ti (.int .u8 0) rfl rfl Tryd.underlying26 HI.out HZ.out HS.out HBY rfl rfl rfl (fun j u hu => cell_news_one _ _ _ j u hu) HONE.out HLEN.out (by simp; omega) ?_
           intro v3 w3 hown3 hb3 hz3 hkp3
           rw [← HTK.out] at hown3
           have hcv := hown3.string (P := Tryd.prog) (src := 26) (dst := 9) Tryd.underlying26 Tryd.underlying5 Tryd.underlying9
           clear hown3 hz3 hkp3)
        | fail)
      go_ret
      exact ⟨rfl, hb3⟩
def bitOf (s : List UInt8) (i : Nat) : Nat := (s.getD (i / 8) 0).toNat / 2 ^ (7 - i % 8) % 2

set_option maxHeartbeats 1000000 in
theorem bit_any (s : List UInt8) (i : Nat) (w : World) (hs : s.length = 32) (hi : i < 256) :
    Calls Tryd.prog 59 #[.string (str s), .int .i64 (i : Int)] w fun e w' => e = .returned (.int .i64 (bitOf s i : Int)) ∧ w = w' := by
  obtain ⟨b, hb⟩ : ∃ b, b = s.getD (i / 8) 0 := ⟨_, rfl⟩
  have hix : ∀ W, (Instr.index 9 (.string (str s)) (.int .i64 ((i : Int) / 8))).run Tryd.prog W = .ok (.int .u8 (b.toNat : Int)) W := fun W => by
    rw [show ((i : Int) / 8) = ((i / 8 : Nat) : Int) from by omega, hb]
    exact run_index_str 9 Tryd.underlying9 s .i64 (i / 8) (by omega) W
  have hbl := b.toNat_lt
  have HB := Lib.hid (show bitOf s i = b.toNat / 2 ^ (7 - i % 8) % 2 by rw [hb]; rfl)
  obtain ⟨r, hr⟩ : ∃ r, r = i % 8 := ⟨_, rfl⟩
  have hr8 : r < 8 := by omega
  have hrm : (i : Int) % 8 = (r : Int) := by omega
  rw [← hr] at HB
  clear hb hs hr
  go_enter Tryd.func59, Tryd.ntmps59
  go_wp2_with fail
  go_loop [5, 6] (fun c k => ∃ j : Nat, j ≤ 7 - r ∧ k = .int .i64 j ∧ c = .int .i64 ((b.toNat / 2 ^ j : Nat) : Int)) (fun _ k => 8 - (intOf k).toNat)
  case atStart => exact ⟨0, by omega, rfl, by simp⟩
  case round =>
    obtain ⟨j, hj, rfl, rfl⟩ := hrel
    have hdl : b.toNat / 2 ^ j ≤ 255 := Nat.le_trans (Nat.div_le_self _ _) (by omega)
    have HH := Lib.hid (show b.toNat / 2 ^ j / 2 = b.toNat / 2 ^ (j + 1) by rw [Nat.div_div_eq_div_mul, ← Nat.pow_succ])
    obtain ⟨q, hq⟩ : ∃ q, q = b.toNat / 2 ^ j := ⟨_, rfl⟩
    have HQ := Lib.hid hq
    rw [← hq] at HH hdl ⊢
    clear hq
    by_cases hlt : j < 7 - r
    · have hd : decide ((j : Int) < 7 - (r : Int)) = true := by simp; omega
      have hlt' : (j : Int) < 7 - (r : Int) := by omega
      go_wp2_with fail
      go_round
      case rel => exact ⟨j + 1, by omega, by go_num, by rw [← HH.out]; go_num⟩
      case measure => simp [intOf]; omega
    · have hd : decide ((j : Int) < 7 - (r : Int)) = false := by simp; omega
      have hlt' : ¬ ((j : Int) < 7 - (r : Int)) := by omega
      have ej : j = 7 - r := by omega
      have HF := Lib.hid (show bitOf s i = q % 2 by rw [HB.out, ← ej, HQ.out])
      clear ej
      go_wp2_with fail
      go_ret
      exact ⟨by rw [HF.out]; rfl, rfl⟩

attribute [local go_sem] ByteArray.mk_append_mk
/-- The value of a name's i-th sign. -/
def digit (x : List UInt8) (i : Nat) : Nat := num x * 16 / 2 ^ (255 - 5 * i) % 32
theorem digit_lt (x : List UInt8) (i : Nat) : digit x i < 32 := Nat.mod_lt _ (by omega)
theorem signs_digit (x : List UInt8) : ∀ e, e ≤ 51 → signs (num x) e = (List.range e).map fun i => sgn (digit x i)
  | 0, _ => rfl
  | e + 1, h => by
    rw [signs_succ, signs_digit x e (by omega), List.range_succ, List.map_append]
    congr 1
    simp only [List.map_cons, List.map_nil]
    unfold digit
    rw [show 255 - 5 * e = 4 + (251 - 5 * e) from by omega, Nat.pow_add, ← Nat.div_div_eq_div_mul, show (2 : Nat) ^ 4 = 16 from rfl, Nat.mul_div_cancel _ (by omega)]
theorem textOf_digits (x : List UInt8) : textOf x = (List.range 52).map fun i => sgn (digit x i) := by
  unfold textOf
  have e : List.range 52 = List.range 51 ++ [51] := List.range_succ
  rw [signs_digit x 51 (by omega), e, List.map_append]
  show _ ++ _ = _ ++ [sgn (digit x 51)]
  rw [show digit x 51 = num x * 16 % 32 from by simp [digit]]
theorem textOf_take (x : List UInt8) (i : Nat) (h : i < 52) : (textOf x).take (i + 1) = (textOf x).take i ++ [sgn (digit x i)] := by
  rw [List.take_succ_eq_append_getElem (by rw [length_textOf]; exact h)]
  congr 1
  simp [textOf_digits]
theorem bitOf_num (x : List UInt8) (hx : x.length = 32) (k : Nat) (hk : k < 256) : bitOf x k = num x * 16 / 2 ^ (259 - k) % 2 := by
  have e1 : num x * 16 / 2 ^ (259 - k) = num x / 2 ^ (255 - k) := by
    rw [show 259 - k = 4 + (255 - k) from by omega, Nat.pow_add, ← Nat.div_div_eq_div_mul, show (2 : Nat) ^ 4 = 16 from rfl, Nat.mul_div_cancel _ (by omega)]
  have e2 : num x / 2 ^ (255 - k) = num (x.take (k / 8 + 1)) / 2 ^ (7 - k % 8) := by
    rw [← num_div x (k / 8 + 1), hx, show (256 : Nat) ^ (32 - (k / 8 + 1)) = 2 ^ (8 * (32 - (k / 8 + 1))) from by rw [show (256 : Nat) = 2 ^ 8 from rfl, ← Nat.pow_mul], Nat.div_div_eq_div_mul, ← Nat.pow_add, show 8 * (32 - (k / 8 + 1)) + (7 - k % 8) = 255 - k from by omega]
  rw [e1, e2, num_take_succ x (k / 8) (by omega)]
  have h256 : (256 : Nat) = 2 ^ (7 - k % 8) * (2 * 2 ^ (k % 8)) := by
    rw [show (2 : Nat) * 2 ^ (k % 8) = 2 ^ (k % 8 + 1) from by rw [Nat.pow_succ, Nat.mul_comm], ← Nat.pow_add, show 7 - k % 8 + (k % 8 + 1) = 8 from by omega]
  unfold bitOf
  rw [h256, ← Nat.mul_assoc, Nat.mul_comm (num (x.take (k / 8))) (2 ^ (7 - k % 8)), Nat.mul_assoc, Nat.mul_add_div (Nat.pow_pos (by omega)), ← Nat.mul_assoc, Nat.mul_comm _ 2, Nat.mul_assoc, Nat.mul_add_mod]
/-- The first j bits of a sign. -/
def partOf (x : List UInt8) (i j : Nat) : Nat := num x * 16 / 2 ^ (260 - 5 * i - j) % 2 ^ j
theorem partOf_step (x : List UInt8) (i j : Nat) (hi : i < 52) (hj : j < 5) : partOf x i (j + 1) = 2 * partOf x i j + num x * 16 / 2 ^ (259 - (5 * i + j)) % 2 := by
  unfold partOf
  rw [show 260 - 5 * i - (j + 1) = 259 - (5 * i + j) from by omega, show 260 - 5 * i - j = 259 - (5 * i + j) + 1 from by omega]
  generalize 259 - (5 * i + j) = m
  generalize num x * 16 = A
  have e : A / 2 ^ (m + 1) = A / 2 ^ m / 2 := by rw [Nat.pow_succ, ← Nat.div_div_eq_div_mul]
  rw [e, Nat.pow_succ, Nat.mul_comm (2 ^ j) 2, Nat.mod_mul]
  omega
theorem partOf_five (x : List UInt8) (i : Nat) (hi : i < 52) : partOf x i 5 = digit x i := by
  unfold partOf digit
  rw [show 260 - 5 * i - 5 = 255 - 5 * i from by omega]
theorem tail_bits (x : List UInt8) (k : Nat) (hk : 256 ≤ k) (hk2 : k < 260) : num x * 16 / 2 ^ (259 - k) % 2 = 0 := by
  have : 259 - k = 0 ∨ 259 - k = 1 ∨ 259 - k = 2 ∨ 259 - k = 3 := by omega
  rcases this with h | h | h | h <;> rw [h] <;> omega

theorem alpha_piece : ∀ n : Fin 32, ((alpha.take (n.val + 1)).drop n.val) = [sgn n.val] := by decide
theorem sign_any (n : Nat) (w : World) (hn : n < 32) :
    Calls Tryd.prog 60 #[.int .i64 (n : Int)] w fun e w' => e = .returned (.string (str [sgn n])) ∧ w = w' := by
  have hsl : ∀ W, (Instr.slice 9 (.string ⟨#[48, 49, 50, 51, 52, 53, 54, 55, 56, 57, 97, 98, 99, 100, 102, 103, 104, 105, 106, 107, 108, 109, 110, 112, 113, 114, 115, 118, 119, 120, 121, 122]⟩) (some (.int .i64 (n : Int))) (some (.int .i64 ((n : Int) + 1))) none).run Tryd.prog W = .ok (.string (str [sgn n])) W := fun W => by
    have h := slice_str_mid (P := Tryd.prog) Tryd.underlying9 alpha .i64 .i64 n (n + 1) (by omega) (by simp [alpha]; omega) W
    rw [alpha_piece ⟨n, hn⟩] at h
    rw [show ((n + 1 : Nat) : Int) = (n : Int) + 1 from by omega] at h
    exact h
  go_enter Tryd.func60, Tryd.ntmps60
  go_wp2
  go_ret
  exact ⟨rfl, rfl⟩

set_option maxHeartbeats 1000000 in
theorem refText_any (x : List UInt8) (w : World) (hx : x.length = 32) :
    Calls Tryd.prog 23 #[.string (str x)] w fun e w' => e = .returned (.string (str (textOf x))) ∧ w = w' := by
  have HX := Lib.hid hx
  have HTL := Lib.hid (length_textOf x)
  clear hx
  go_enter Tryd.func23, Tryd.ntmps23
  go_wp2_with fail
  go_loop [3, 4] (fun o i => ∃ k : Nat, k ≤ 52 ∧ i = .int .i64 k ∧ o = .string (str ((textOf x).take k))) (fun _ i => 52 - (intOf i).toNat)
  case atStart => exact ⟨0, by omega, rfl, rfl⟩
  case round =>
    obtain ⟨i, hi, rfl, rfl⟩ := hrel
    have hlen : ((textOf x).take i).length ≤ 52 := by rw [List.length_take]; omega
    by_cases hlt : i < 52
    · have hd : decide ((i : Int) < 52) = true := by simp; omega
      have hlt' : (i : Int) < 52 := by omega
      have HTK := Lib.hid (textOf_take x i hlt)
      obtain ⟨q, hq⟩ : ∃ q, q = (textOf x).take i := ⟨_, rfl⟩
      rw [← hq] at HTK hlen ⊢
      clear hq
      go_wp2_with fail
      go_loop [5, 6] (fun n k => ∃ j : Nat, j ≤ 5 ∧ k = .int .i64 (5 * (i : Int) + (j : Int)) ∧ n = .int .i64 (partOf x i j : Int)) (fun _ k => (5 * (i : Int) + 5 - intOf k).toNat)
      case atStart => exact ⟨0, by omega, by simp, by simp [partOf, Nat.mod_one]⟩
      case round =>
        obtain ⟨j, hj, rfl, rfl⟩ := hrel
        have hpl : partOf x i j < 32 := Nat.lt_of_lt_of_le (Nat.mod_lt _ (Nat.pow_pos (by omega))) (Nat.pow_le_pow_right (n := 2) (by omega) hj)
        by_cases hj5 : j < 5
        · have HST := Lib.hid (partOf_step x i j hlt hj5)
          have hd2 : decide (5 * (i : Int) + (j : Int) < 5 * (i : Int) + 5) = true := by simp; omega
          have hd2' : 5 * (i : Int) + (j : Int) < 5 * (i : Int) + 5 := by omega
          by_cases hk : 5 * i + j < 256
          · have HBT := Lib.hid (bit_any x (5 * i + j) w HX.out hk)
            have hbn := bitOf_num x HX.out (5 * i + j) hk
            rw [← hbn] at HST
            have hbl : bitOf x (5 * i + j) < 2 := Nat.mod_lt _ (by omega)
            rw [show ((5 * i + j : Nat) : Int) = 5 * (i : Int) + (j : Int) from by omega] at HBT
            obtain ⟨b, hb⟩ : ∃ b, b = bitOf x (5 * i + j) := ⟨_, rfl⟩
            obtain ⟨p, hp⟩ : ∃ p, p = partOf x i j := ⟨_, rfl⟩
            rw [← hb] at HST HBT hbl
            rw [← hp] at HST hpl ⊢
            clear hb hp hbn
            have hd3 : decide (5 * (i : Int) + (j : Int) < 256) = true := by simp; omega
            have hd3' : 5 * (i : Int) + (j : Int) < 256 := by omega
            go_wp2_with fail
            refine HBT.out.mono ?_
            rintro e w' ⟨rfl, rfl⟩
            go_wp2_with fail
            go_round
            case rel => exact ⟨j + 1, by omega, by go_num, by rw [HST.out]; go_num⟩
            case measure => simp [intOf]; omega
          · have htb := tail_bits x (5 * i + j) (by omega) (by omega)
            rw [htb] at HST
            obtain ⟨p, hp⟩ : ∃ p, p = partOf x i j := ⟨_, rfl⟩
            rw [← hp] at HST hpl ⊢
            clear hp htb
            have hd3 : decide (5 * (i : Int) + (j : Int) < 256) = false := by simp; omega
            have hd3' : ¬ (5 * (i : Int) + (j : Int) < 256) := by omega
            go_wp2_with fail
            go_round
            case rel => exact ⟨j + 1, by omega, by go_num, by rw [HST.out]; go_num⟩
            case measure => simp [intOf]; omega
        · have ej : j = 5 := by omega
          subst ej
          rw [partOf_five x i hlt] at hpl ⊢
          have hd2 : decide (5 * (i : Int) + 5 < 5 * (i : Int) + 5) = false := by simp
          have HSG := Lib.hid (sign_any (digit x i) w hpl)
          obtain ⟨p, hp⟩ : ∃ p, p = digit x i := ⟨_, rfl⟩
          rw [← hp] at HSG HTK ⊢
          clear hp
          go_wp2_with fail
          refine HSG.out.mono ?_
          rintro e w' ⟨rfl, rfl⟩
          go_wp2_with fail
          go_round
          case rel => exact ⟨i + 1, by omega, by go_num, by rw [HTK.out]⟩
          case measure => simp [intOf]; omega
    · have e : i = 52 := by omega
      subst e
      rw [List.take_of_length_le (by rw [HTL.out]; exact Nat.le_refl _)]
      go_wp2_with fail
      go_ret
      exact ⟨rfl, rfl⟩
end Go.Proofs.YtbjeiiofanpkdaaDoor

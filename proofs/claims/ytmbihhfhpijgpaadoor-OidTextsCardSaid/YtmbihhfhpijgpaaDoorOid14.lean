/-
  The reference of layer 2: sign, Text.
-/
import Derived.Test.YtmbihhfhpijgpaaDoorOid13
namespace Go.Proofs.YtmbihhfhpijgpaaDoor
open Go.RowKit Crv
attribute [local go_sem] ByteArray.mk_append_mk

/-- The value of a name's i-th sign. -/
def digit (x : List UInt8) (i : Nat) : Nat := num x * 16 / 2 ^ (255 - 5 * i) % 32
theorem digit_lt (x : List UInt8) (i : Nat) : digit x i < 32 := Nat.mod_lt _ (by omega)
theorem signs_digit (x : List UInt8) : ∀ e, e ≤ 51 → signs (num x) e = (List.range e).map fun i => sgn (digit x i)
  | 0, _ => rfl
  | e + 1, h => by
    rw [signs_succ, signs_digit x e (by omega), List.range_succ, List.map_append]
    congr 1
    simp only [List.map_cons, List.map_nil]
    unfold digit
    rw [show 255 - 5 * e = 4 + (251 - 5 * e) from by omega, Nat.pow_add, ← Nat.div_div_eq_div_mul, show (2 : Nat) ^ 4 = 16 from rfl, Nat.mul_div_cancel _ (by omega)]
theorem textOf_digits (x : List UInt8) : textOf x = (List.range 52).map fun i => sgn (digit x i) := by
  unfold textOf
  have e : List.range 52 = List.range 51 ++ [51] := List.range_succ
  rw [signs_digit x 51 (by omega), e, List.map_append]
  show _ ++ _ = _ ++ [sgn (digit x 51)]
  rw [show digit x 51 = num x * 16 % 32 from by simp [digit]]
theorem textOf_take (x : List UInt8) (i : Nat) (h : i < 52) : (textOf x).take (i + 1) = (textOf x).take i ++ [sgn (digit x i)] := by
  rw [List.take_succ_eq_append_getElem (by rw [length_textOf]; exact h)]
  congr 1
  simp [textOf_digits]
theorem bitOf_num (x : List UInt8) (hx : x.length = 32) (k : Nat) (hk : k < 256) : bitOf x k = num x * 16 / 2 ^ (259 - k) % 2 := by
  have e1 : num x * 16 / 2 ^ (259 - k) = num x / 2 ^ (255 - k) := by
    rw [show 259 - k = 4 + (255 - k) from by omega, Nat.pow_add, ← Nat.div_div_eq_div_mul, show (2 : Nat) ^ 4 = 16 from rfl, Nat.mul_div_cancel _ (by omega)]
  have e2 : num x / 2 ^ (255 - k) = num (x.take (k / 8 + 1)) / 2 ^ (7 - k % 8) := by
    rw [← num_div x (k / 8 + 1), hx, show (256 : Nat) ^ (32 - (k / 8 + 1)) = 2 ^ (8 * (32 - (k / 8 + 1))) from by rw [show (256 : Nat) = 2 ^ 8 from rfl, ← Nat.pow_mul], Nat.div_div_eq_div_mul, ← Nat.pow_add, show 8 * (32 - (k / 8 + 1)) + (7 - k % 8) = 255 - k from by omega]
  rw [e1, e2, num_take_succ x (k / 8) (by omega)]
  have h256 : (256 : Nat) = 2 ^ (7 - k % 8) * (2 * 2 ^ (k % 8)) := by
    rw [show (2 : Nat) * 2 ^ (k % 8) = 2 ^ (k % 8 + 1) from by rw [Nat.pow_succ, Nat.mul_comm], ← Nat.pow_add, show 7 - k % 8 + (k % 8 + 1) = 8 from by omega]
  unfold bitOf
  rw [h256, ← Nat.mul_assoc, Nat.mul_comm (num (x.take (k / 8))) (2 ^ (7 - k % 8)), Nat.mul_assoc, Nat.mul_add_div (Nat.pow_pos (by omega)), ← Nat.mul_assoc, Nat.mul_comm _ 2, Nat.mul_assoc, Nat.mul_add_mod]
/-- The first j bits of a sign. -/
def partOf (x : List UInt8) (i j : Nat) : Nat := num x * 16 / 2 ^ (260 - 5 * i - j) % 2 ^ j
theorem partOf_step (x : List UInt8) (i j : Nat) (hi : i < 52) (hj : j < 5) : partOf x i (j + 1) = 2 * partOf x i j + num x * 16 / 2 ^ (259 - (5 * i + j)) % 2 := by
  unfold partOf
  rw [show 260 - 5 * i - (j + 1) = 259 - (5 * i + j) from by omega, show 260 - 5 * i - j = 259 - (5 * i + j) + 1 from by omega]
  generalize 259 - (5 * i + j) = m
  generalize num x * 16 = A
  have e : A / 2 ^ (m + 1) = A / 2 ^ m / 2 := by rw [Nat.pow_succ, ← Nat.div_div_eq_div_mul]
  rw [e, Nat.pow_succ, Nat.mul_comm (2 ^ j) 2, Nat.mod_mul]
  omega
theorem partOf_five (x : List UInt8) (i : Nat) (hi : i < 52) : partOf x i 5 = digit x i := by
  unfold partOf digit
  rw [show 260 - 5 * i - 5 = 255 - 5 * i from by omega]
theorem tail_bits (x : List UInt8) (k : Nat) (hk : 256 ≤ k) (hk2 : k < 260) : num x * 16 / 2 ^ (259 - k) % 2 = 0 := by
  have : 259 - k = 0 ∨ 259 - k = 1 ∨ 259 - k = 2 ∨ 259 - k = 3 := by omega
  rcases this with h | h | h | h <;> rw [h] <;> omega

theorem alpha_piece : ∀ n : Fin 32, ((alpha.take (n.val + 1)).drop n.val) = [sgn n.val] := by decide
theorem sign_any (n : Nat) (w : World) (hn : n < 32) :
    Calls Tryd.prog 46 #[.int .i64 (n : Int)] w fun e w' => e = .returned (.string (str [sgn n])) ∧ w = w' := by
  have hsl : ∀ W, (Instr.slice 9 (.string ⟨#[48, 49, 50, 51, 52, 53, 54, 55, 56, 57, 97, 98, 99, 100, 102, 103, 104, 105, 106, 107, 108, 109, 110, 112, 113, 114, 115, 118, 119, 120, 121, 122]⟩) (some (.int .i64 (n : Int))) (some (.int .i64 ((n : Int) + 1))) none).run Tryd.prog W = .ok (.string (str [sgn n])) W := fun W => by
    have h := slice_str_mid (P := Tryd.prog) Tryd.underlying9 alpha .i64 .i64 n (n + 1) (by omega) (by simp [alpha]; omega) W
    rw [alpha_piece ⟨n, hn⟩] at h
    rw [show ((n + 1 : Nat) : Int) = (n : Int) + 1 from by omega] at h
    exact h
  go_enter Tryd.func46, Tryd.ntmps46
  go_wp2
  go_ret
  exact ⟨rfl, rfl⟩

set_option maxHeartbeats 1000000 in
theorem refText_any (x : List UInt8) (w : World) (hx : x.length = 32) :
    Calls Tryd.prog 32 #[.string (str x)] w fun e w' => e = .returned (.string (str (textOf x))) ∧ w = w' := by
  have HX := Lib.hid hx
  have HTL := Lib.hid (length_textOf x)
  clear hx
  go_enter Tryd.func32, Tryd.ntmps32
  go_wp2_with fail
  go_loop [3, 4] (fun o i => ∃ k : Nat, k ≤ 52 ∧ i = .int .i64 k ∧ o = .string (str ((textOf x).take k))) (fun _ i => 52 - (intOf i).toNat)
  case atStart => exact ⟨0, by omega, rfl, rfl⟩
  case round =>
    obtain ⟨i, hi, rfl, rfl⟩ := hrel
    have hlen : ((textOf x).take i).length ≤ 52 := by rw [List.length_take]; omega
    by_cases hlt : i < 52
    · have hd : decide ((i : Int) < 52) = true := by simp; omega
      have hlt' : (i : Int) < 52 := by omega
      have HTK := Lib.hid (textOf_take x i hlt)
      obtain ⟨q, hq⟩ : ∃ q, q = (textOf x).take i := ⟨_, rfl⟩
      rw [← hq] at HTK hlen ⊢
      clear hq
      go_wp2_with fail
      go_loop [5, 6] (fun n k => ∃ j : Nat, j ≤ 5 ∧ k = .int .i64 (5 * (i : Int) + (j : Int)) ∧ n = .int .i64 (partOf x i j : Int)) (fun _ k => (5 * (i : Int) + 5 - intOf k).toNat)
      case atStart => exact ⟨0, by omega, by simp, by simp [partOf, Nat.mod_one]⟩
      case round =>
        obtain ⟨j, hj, rfl, rfl⟩ := hrel
        have hpl : partOf x i j < 32 := Nat.lt_of_lt_of_le (Nat.mod_lt _ (Nat.pow_pos (by omega))) (Nat.pow_le_pow_right (n := 2) (by omega) hj)
        by_cases hj5 : j < 5
        · have HST := Lib.hid (partOf_step x i j hlt hj5)
          have hd2 : decide (5 * (i : Int) + (j : Int) < 5 * (i : Int) + 5) = true := by simp; omega
          have hd2' : 5 * (i : Int) + (j : Int) < 5 * (i : Int) + 5 := by omega
          by_cases hk : 5 * i + j < 256
          · have HBT := Lib.hid (bit_any x (5 * i + j) w HX.out hk)
            have hbn := bitOf_num x HX.out (5 * i + j) hk
            rw [← hbn] at HST
            have hbl : bitOf x (5 * i + j) < 2 := Nat.mod_lt _ (by omega)
            rw [show ((5 * i + j : Nat) : Int) = 5 * (i : Int) + (j : Int) from by omega] at HBT
            obtain ⟨b, hb⟩ : ∃ b, b = bitOf x (5 * i + j) := ⟨_, rfl⟩
            obtain ⟨p, hp⟩ : ∃ p, p = partOf x i j := ⟨_, rfl⟩
            rw [← hb] at HST HBT hbl
            rw [← hp] at HST hpl ⊢
            clear hb hp hbn
            have hd3 : decide (5 * (i : Int) + (j : Int) < 256) = true := by simp; omega
            have hd3' : 5 * (i : Int) + (j : Int) < 256 := by omega
            go_wp2_with fail
            refine HBT.out.mono ?_
            rintro e w' ⟨rfl, rfl⟩
            go_wp2_with fail
            go_round
            case rel => exact ⟨j + 1, by omega, by go_num, by rw [HST.out]; go_num⟩
            case measure => simp [intOf]; omega
          · have htb := tail_bits x (5 * i + j) (by omega) (by omega)
            rw [htb] at HST
            obtain ⟨p, hp⟩ : ∃ p, p = partOf x i j := ⟨_, rfl⟩
            rw [← hp] at HST hpl ⊢
            clear hp htb
            have hd3 : decide (5 * (i : Int) + (j : Int) < 256) = false := by simp; omega
            have hd3' : ¬ (5 * (i : Int) + (j : Int) < 256) := by omega
            go_wp2_with fail
            go_round
            case rel => exact ⟨j + 1, by omega, by go_num, by rw [HST.out]; go_num⟩
            case measure => simp [intOf]; omega
        · have ej : j = 5 := by omega
          subst ej
          rw [partOf_five x i hlt] at hpl ⊢
          have hd2 : decide (5 * (i : Int) + 5 < 5 * (i : Int) + 5) = false := by simp
          have HSG := Lib.hid (sign_any (digit x i) w hpl)
          obtain ⟨p, hp⟩ : ∃ p, p = digit x i := ⟨_, rfl⟩
          rw [← hp] at HSG HTK ⊢
          clear hp
          go_wp2_with fail
          refine HSG.out.mono ?_
          rintro e w' ⟨rfl, rfl⟩
          go_wp2_with fail
          go_round
          case rel => exact ⟨i + 1, by omega, by go_num, by rw [HTK.out]⟩
          case measure => simp [intOf]; omega
    · have e : i = 52 := by omega
      subst e
      rw [List.take_of_length_le (by rw [HTL.out]; exact Nat.le_refl _)]
      go_wp2_with fail
      go_ret
      exact ⟨rfl, rfl⟩
end Go.Proofs.YtmbihhfhpijgpaaDoor

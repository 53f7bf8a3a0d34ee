/-
  Package gear and its reference: the functions that only compute.
-/
import Derived.Test.YtbjeiiofanpkdaaDoorMm
import Derived.Test.YtbjeiiofanpkdaaDoorGea0
namespace Go.Proofs.YtbjeiiofanpkdaaDoor
open Go.RowKit Crv

abbrev nV (x : Nat) : Value := .int .u64 x
theorem ret_u64 {a b : Int} (h : a = b) : Ending.returned (.int .u64 a) = .returned (.int .u64 b) := by rw [h]
theorem num_bits (v b : Nat) (hv : v < 72057594037927936) (hb : b < 256) : bits .or .u64 ((v : Int) * 256) (b : Int) = ((v * 256 + b : Nat) : Int) := by
  rw [show (v : Int) * 256 = ((v * 256 : Nat) : Int) by omega, u64_or_nat _ _ (by omega) (by omega), nat_join 8 _ _ (by omega) (by omega)]

set_option maxHeartbeats 400000 in
set_option maxRecDepth 100000 in
theorem number_any (d : List UInt8) (w : World) (hd : d.length = 32) :
    Calls Tryd.prog 62 #[.agg (d.map byteV).toArray] w fun e w' => e = .returned (nV (numB (d.take 8))) ∧ Below w.heap.size w w' := by
  have HD := Lib.hid hd
  have HM := Lib.hid (Mem.newAt w 23 (d.map byteV) rfl)
  have HB := Lib.hid (belowSelf w (.cells (d.map byteV).toArray 23))
  clear hd
  go_enter Tryd.func62, Tryd.ntmps62
  go_wp2_with fail
  go_loopw [3, 8] (fun v i wr => ∃ k : Nat, k ≤ 8 ∧ i = .int .i64 k ∧ v = nV (numB (d.take k)) ∧ w.alloc (.cells (d.map byteV).toArray 23) = wr) (fun _ i _ => 8 - (intOf i).toNat)
  case atStart => exact ⟨0, by omega, rfl, rfl, rfl⟩
  case round =>
    obtain ⟨k, hk, rfl, rfl, rfl⟩ := hrel
    by_cases hlt : k < 8
    · have hdd : decide ((k : Int) < 8) = true := by simp; omega
      have hv := numB_take_lt7 d k hlt
      have HS := Lib.hid (numB_take_succ d k (by rw [HD.out]; omega))
      have hc := HM.out.cell k
      rw [List.getElem?_map, show d[k]? = some (d.getD k 0) by rw [List.getD_eq_getElem?_getD, List.getElem?_eq_getElem (by rw [HD.out]; omega)]; rfl, Option.map_some] at hc
      obtain ⟨b, hb⟩ : ∃ b, b = d.getD k 0 := ⟨_, rfl⟩
      rw [← hb] at HS hc
      have hbl := b.toNat_lt
      obtain ⟨v, hve⟩ : ∃ v, v = numB (d.take k) := ⟨_, rfl⟩
      rw [← hve] at HS hv
      simp only [← hve]
      have hor := num_bits v b.toNat hv (by omega)
      clear hb hve
      go_wp2
      refine ⟨⟨k + 1, by omega, by go_num, by rw [HS.out]; go_num, trivial⟩, ?_⟩
      simp [intOf]; omega
    · have e : k = 8 := by omega
      subst e
      go_wp2
      go_ret
      exact ⟨rfl, HB.out⟩

set_option maxHeartbeats 400000 in
theorem refNumber_any (l : List UInt8) (w : World) (hl : l.length ≤ 8) :
    Calls Tryd.prog 76 #[.string (str l)] w fun e w' => e = .returned (nV (numB l)) ∧ w = w' := by
  go_enter Tryd.func76, Tryd.ntmps76
  go_wp2
  go_loopw [3, 4] (fun v i wr => ∃ k : Nat, k ≤ l.length ∧ i = .int .i64 k ∧ v = nV (numB (l.take k)) ∧ w = wr) (fun _ i _ => l.length - (intOf i).toNat)
  case atStart => exact ⟨0, by omega, rfl, rfl, rfl⟩
  case round =>
    obtain ⟨k, hk, rfl, rfl, rfl⟩ := hrel
    by_cases hlt : k < l.length
    · have hd : decide ((k : Int) < (l.length : Int)) = true := by simp; omega
      have hv := numB_take_lt7 l k (by omega)
      have HS := Lib.hid (numB_take_succ l k hlt)
      obtain ⟨b, hb⟩ : ∃ b, b = l.getD k 0 := ⟨_, rfl⟩
      rw [← hb] at HS
      have hix := fun W => run_index_str (P := Tryd.prog) 9 Tryd.underlying9 l .i64 k hlt W
      rw [← hb] at hix
      have hbl := b.toNat_lt
      obtain ⟨v, hve⟩ : ∃ v, v = numB (l.take k) := ⟨_, rfl⟩
      rw [← hve] at HS hv
      simp only [← hve]
      clear hb hve
      go_wp2
      refine ⟨⟨k + 1, by omega, by go_num, by rw [HS.out]; go_num, trivial⟩, ?_⟩
      simp [intOf]; omega
    · have e : k = l.length := by omega
      subst e
      rw [List.take_length]
      have hd : decide ((l.length : Int) < (l.length : Int)) = false := by simp
      go_wp2
      go_ret
      exact ⟨rfl, rfl⟩

theorem wrap_u64_nat (a : Nat) : IntKind.u64.wrap (a : Int) = ((a % 18446744073709551616 : Nat) : Int) := by rw [IntKind.wrap_u64]; omega
/-- A table in memory. -/
def Tb (w : World) (b : Nat) (t : List Nat) : Prop := Mem w b 89 (t.map nV) ∧ t.length = 256 ∧ ∀ x ∈ t, x < 18446744073709551616
theorem Tb.below {w w' : World} {b : Nat} {t : List Nat} (h : Tb w b t) (hb : Below w.heap.size w w') : Tb w' b t := ⟨h.1.below hb h.1.lt, h.2⟩
theorem Tb.at {w : World} {b : Nat} {t : List Nat} (h : Tb w b t) (c : UInt8) : w.cell? ⟨b, c.toNat, none⟩ = some (nV (t.getD c.toNat 0)) ∧ t.getD c.toNat 0 < 18446744073709551616 := by
  have hc := c.toNat_lt
  have hl : c.toNat < t.length := by rw [h.2.1]; omega
  constructor
  · rw [h.1.cell, List.getElem?_map, List.getD_eq_getElem?_getD, List.getElem?_eq_getElem hl]; rfl
  · rw [List.getD_eq_getElem?_getD, List.getElem?_eq_getElem hl]
    exact h.2.2 _ (List.getElem_mem _)
set_option maxHeartbeats 400000 in
set_option maxRecDepth 100000 in
theorem after_any (b v : Nat) (c : UInt8) (t : List Nat) (w : World) (ht : Tb w b t) :
    Calls Tryd.prog 63 #[.pointer (some ⟨b, 0, none⟩), nV v, byteV c] w fun e w' => e = .returned (nV (roll t v c)) ∧ w = w' := by
  obtain ⟨hc, hx⟩ := ht.at c
  have hcl := c.toNat_lt
  have HR := Lib.hid (show roll t v c = (v * 2 + t.getD c.toNat 0) % 18446744073709551616 from rfl)
  obtain ⟨x, hxe⟩ : ∃ x, x = t.getD c.toNat 0 := ⟨_, rfl⟩
  rw [← hxe] at HR hc hx
  clear hxe ht
  go_enter Tryd.func63, Tryd.ntmps63
  go_wp2
  go_ret
  exact ⟨ret_u64 (by rw [HR.out, IntKind.wrap_u64, IntKind.wrap_u64]; omega), rfl⟩

set_option maxHeartbeats 400000 in
set_option maxRecDepth 100000 in
theorem tabAll_any (b : Nat) (t : List Nat) (s : List UInt8) (w : World) (ht : Tb w b t) (hs : s.length ≤ 1099511627776) :
    Calls Tryd.prog 35 #[.pointer (some ⟨b, 0, none⟩), .string (str s)] w fun e w' => e = .returned (nV (rollAll t s)) ∧ w = w' := by
  have HT := Lib.hid ht
  clear ht
  go_enter Tryd.func35, Tryd.ntmps35
  go_wp2
  go_loopw [5, 9] (fun v i wr => ∃ k : Nat, k ≤ s.length ∧ i = .int .i64 k ∧ v = nV (rollAll t (s.take k)) ∧ w = wr) (fun _ i _ => s.length - (intOf i).toNat)
  case atStart => exact ⟨0, by omega, rfl, rfl, rfl⟩
  case round =>
    obtain ⟨k, hk, rfl, rfl, rfl⟩ := hrel
    by_cases hlt : k < s.length
    · have hd : decide ((k : Int) < (s.length : Int)) = true := by simp; omega
      have HS := Lib.hid (rollAll_take_succ t s k hlt)
      obtain ⟨c, hc⟩ : ∃ c, c = s.getD k 0 := ⟨_, rfl⟩
      rw [← hc] at HS
      have hix := fun W => run_index_str (P := Tryd.prog) 9 Tryd.underlying9 s .i64 k hlt W
      rw [← hc] at hix
      obtain ⟨v, hve⟩ : ∃ v, v = rollAll t (s.take k) := ⟨_, rfl⟩
      rw [← hve] at HS
      simp only [← hve]
      clear hc hve
      go_wp2_with fail
      refine (after_any b v c t _ HT.out).mono ?_
      rintro e w' ⟨rfl, rfl⟩
      rw [← HS.out]
      go_wp2_with fail
      refine ⟨⟨k + 1, by omega, by go_num, rfl, trivial⟩, ?_⟩
      simp [intOf]; omega
    · have e : k = s.length := by omega
      subst e
      rw [List.take_length]
      have hd : decide ((s.length : Int) < (s.length : Int)) = false := by simp
      go_wp2
      go_ret
      exact ⟨rfl, rfl⟩

set_option maxHeartbeats 400000 in
set_option maxRecDepth 100000 in
theorem refAll_any (b : Nat) (t : List Nat) (s : List UInt8) (w : World) (ht : Tb w b t) (hs : s.length ≤ 1099511627776) :
    Calls Tryd.prog 32 #[.slice (some ⟨b, 0, none⟩) 256 256, .string (str s)] w fun e w' => e = .returned (nV (rollAll t s)) ∧ w = w' := by
  have HT := Lib.hid ht
  clear ht
  go_enter Tryd.func32, Tryd.ntmps32
  go_wp2
  go_loopw [5, 6] (fun v i wr => ∃ k : Nat, k ≤ s.length ∧ i = .int .i64 k ∧ v = nV (rollAll t (s.take k)) ∧ w = wr) (fun _ i _ => s.length - (intOf i).toNat)
  case atStart => exact ⟨0, by omega, rfl, rfl, rfl⟩
  case round =>
    obtain ⟨k, hk, rfl, rfl, rfl⟩ := hrel
    by_cases hlt : k < s.length
    · have hd : decide ((k : Int) < (s.length : Int)) = true := by simp; omega
      have HV := Lib.hid (rollAll_lt t (s.take k))
      have HS := Lib.hid (rollAll_take_succ t s k hlt)
      obtain ⟨c, hc⟩ : ∃ c, c = s.getD k 0 := ⟨_, rfl⟩
      rw [← hc] at HS
      have hix := fun W => run_index_str (P := Tryd.prog) 9 Tryd.underlying9 s .i64 k hlt W
      rw [← hc] at hix
      obtain ⟨hcell, hx⟩ := HT.out.at c
      have hcl : c.toNat < 256 := c.toNat_lt
      have hvl := HV.out
      have HR := Lib.hid (show roll t (rollAll t (s.take k)) c = (rollAll t (s.take k) * 2 + t.getD c.toNat 0) % 18446744073709551616 from rfl)
      obtain ⟨x, hxe⟩ : ∃ x, x = t.getD c.toNat 0 := ⟨_, rfl⟩
      rw [← hxe] at HR hcell hx
      rw [HR.out] at HS
      obtain ⟨v, hve⟩ : ∃ v, v = rollAll t (s.take k) := ⟨_, rfl⟩
      rw [← hve] at HS hvl
      simp only [← hve]
      clear hc hve HV HR hxe
      go_wp2
      refine ⟨⟨k + 1, by omega, by go_num, by rw [HS.out, IntKind.wrap_u64, IntKind.wrap_u64]; congr 1; omega, trivial⟩, ?_⟩
      simp [intOf]; omega
    · have e : k = s.length := by omega
      subst e
      rw [List.take_length]
      have hd : decide ((s.length : Int) < (s.length : Int)) = false := by simp
      go_wp2
      go_ret
      exact ⟨rfl, rfl⟩

/-- A number as a count of bits. -/
def clampM (n : Int) : Nat := (min (max n 0) 48).toNat
theorem clampM_le (n : Int) : clampM n ≤ 48 := by unfold clampM; omega
theorem bit_at (k : Nat) (hk : k < 48) : ((63 : Int) - 3 * ((k : Int) % 16) - (k : Int) / 16) = (bitAt k : Nat) := by
  unfold bitAt; omega
theorem pow_small {j : Nat} (hj : j ≤ 63) : 2 ^ j < 18446744073709551616 := by
  have h : 2 ^ j < 2 ^ 64 := Nat.pow_lt_pow_right (by omega) (by omega)
  omega
theorem pow_wrap (j : Nat) (hj : j ≤ 63) : IntKind.u64.wrap (2 ^ j) = ((2 ^ j : Nat) : Int) := by
  have h : 2 ^ j < 2 ^ 64 := Nat.pow_lt_pow_right (by omega) (by omega)
  have e : (2 : Int) ^ j = ((2 ^ j : Nat) : Int) := by simp
  rw [e, IntKind.wrap_u64]
  generalize 2 ^ j = p at *
  omega
set_option maxHeartbeats 400000 in
set_option maxRecDepth 100000 in
theorem mask_any (n : Int) (w : World) :
    Calls Tryd.prog 36 #[.int .i64 n] w fun e w' => e = .returned (nV (maskOf (clampM n))) ∧ w = w' := by
  obtain ⟨m, hm⟩ : ∃ m : Nat, min (max n 0) 48 = (m : Int) := ⟨(min (max n 0) 48).toNat, by omega⟩
  have em : clampM n = m := by unfold clampM; omega
  have hm48 : m ≤ 48 := by omega
  have HM := Lib.hid hm
  rw [em]
  clear em hm
  go_enter Tryd.func36, Tryd.ntmps36
  go_wp2_with (first
    | (refine wp_max0 (c := n) (d := 0) (.tmp 5) (.const (.int .i64 0)) rfl rfl rfl rfl ?_)
    | (refine wp_min0 (c := max n 0) (d := 48) (.tmp 6) (.const (.int .i64 48)) HM.out rfl rfl rfl rfl ?_)
    | fail)
  go_loopw [3, 8] (fun v i wr => ∃ k : Nat, k ≤ m ∧ i = .int .i64 k ∧ v = nV (maskOf k) ∧ w = wr) (fun _ i _ => m - (intOf i).toNat)
  case atStart => exact ⟨0, by omega, rfl, rfl, rfl⟩
  case round =>
    obtain ⟨k, hk, rfl, rfl, rfl⟩ := hrel
    by_cases hlt : k < m
    · have hd : decide ((k : Int) < (m : Int)) = true := by simp; omega
      have HS := Lib.hid (mask_or (i := k) (by omega))
      have hvl := mask_lt (i := k) (by omega)
      have hbt := bit_at k (by omega)
      obtain ⟨h16, h63⟩ := bitAt_le (i := k) (by omega)
      obtain ⟨j, hj⟩ : ∃ j, j = bitAt k := ⟨_, rfl⟩
      rw [← hj] at HS hbt h16 h63
      obtain ⟨v, hve⟩ : ∃ v, v = maskOf k := ⟨_, rfl⟩
      rw [← hve] at HS hvl
      have hp := pow_wrap j h63
      have hpl : 2 ^ j < 18446744073709551616 := pow_small h63
      have hor := u64_or_nat v (2 ^ j) hvl hpl
      obtain ⟨p, hpe⟩ : ∃ p, p = 2 ^ j := ⟨_, rfl⟩
      rw [← hpe] at hp hpl HS hor
      simp only [← hve]
      clear hj hve hpe
      go_wp2
      refine ⟨⟨k + 1, by omega, by go_num, by rw [← HS.out], trivial⟩, ?_⟩
      simp [intOf]; omega
    · have e : k = m := by omega
      subst e
      have hd : decide ((k : Int) < (k : Int)) = false := by simp
      go_wp2
      go_ret
      exact ⟨rfl, rfl⟩

set_option maxHeartbeats 400000 in
set_option maxRecDepth 100000 in
theorem refMask_any (n : Int) (w : World) :
    Calls Tryd.prog 37 #[.int .i64 n] w fun e w' => e = .returned (nV (maskOf (clampM n))) ∧ w = w' := by
  obtain ⟨m, hm⟩ : ∃ m : Nat, min (max n 0) 48 = (m : Int) := ⟨(min (max n 0) 48).toNat, by omega⟩
  have em : clampM n = m := by unfold clampM; omega
  have hm48 : m ≤ 48 := by omega
  have HM := Lib.hid hm
  rw [em]
  clear em hm
  go_enter Tryd.func37, Tryd.ntmps37
  go_wp2
  go_loopw [3, 4] (fun v i wr => ∃ k : Nat, k ≤ m ∧ i = .int .i64 k ∧ v = nV (maskOf k) ∧ w = wr) (fun _ i _ => m - (intOf i).toNat)
  case atStart => exact ⟨0, by omega, rfl, rfl, rfl⟩
  case round =>
    obtain ⟨k, hk, rfl, rfl, rfl⟩ := hrel
    by_cases hlt : k < m
    · have hd : decide ((k : Int) < n) = true := by have := HM.out; simp; omega
      have hd2 : decide ((k : Int) < 48) = true := by simp; omega
      have HS := Lib.hid (show maskOf (k + 1) = maskOf k + 2 ^ bitAt k from rfl)
      have hvl := mask_lt (i := k + 1) (by omega)
      have hbt := bit_at k (by omega)
      obtain ⟨h16, h63⟩ := bitAt_le (i := k) (by omega)
      rw [HS.out] at hvl
      obtain ⟨j, hj⟩ : ∃ j, j = bitAt k := ⟨_, rfl⟩
      rw [← hj] at HS hbt h16 h63 hvl
      obtain ⟨v, hve⟩ : ∃ v, v = maskOf k := ⟨_, rfl⟩
      rw [← hve] at HS hvl
      have hp := pow_wrap j h63
      obtain ⟨p, hpe⟩ : ∃ p, p = 2 ^ j := ⟨_, rfl⟩
      rw [← hpe] at hp hvl HS
      simp only [← hve]
      clear hj hve hpe
      go_wp2
      refine ⟨⟨k + 1, by omega, by go_num, by rw [HS.out]; go_num, trivial⟩, ?_⟩
      simp [intOf]; omega
    · have e : k = m := by omega
      subst e
      have HX := HM.out
      by_cases h48 : k = 48
      · subst h48
        have hd2 : decide ((48 : Int) < 48) = false := by simp
        by_cases hd : (48 : Int) < n
        · have hdd : decide ((48 : Int) < n) = true := by simp; omega
          clear HX
          go_wp2
          go_ret
          exact ⟨rfl, rfl⟩
        · have hdd : decide ((48 : Int) < n) = false := by simp; omega
          clear HX
          go_wp2
          go_ret
          exact ⟨rfl, rfl⟩
      · have hd : decide ((k : Int) < n) = false := by simp; omega
        clear HX
        go_wp2
        go_ret
        exact ⟨rfl, rfl⟩
end Go.Proofs.YtbjeiiofanpkdaaDoor

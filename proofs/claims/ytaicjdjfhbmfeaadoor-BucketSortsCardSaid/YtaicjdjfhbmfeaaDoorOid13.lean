/-
  Which name is nearer; the order of names.
-/
import Derived.Test.YtaicjdjfhbmfeaaDoorOid12
namespace Go.Proofs.YtaicjdjfhbmfeaaDoor
open Go.RowKit Crv

/-- Two names are the same, or there is a first byte at which they part. -/
theorem parts_at (x y : List UInt8) : (∀ j, j < 32 → x.getD j 0 = y.getD j 0) ∨ ∃ k, k < 32 ∧ x.getD k 0 ≠ y.getD k 0 ∧ ∀ j, j < k → x.getD j 0 = y.getD j 0 := by
  by_cases hall : ∀ j, j < 32 → x.getD j 0 = y.getD j 0
  · exact .inl hall
  · right
    have : ∃ k, k < 32 ∧ x.getD k 0 ≠ y.getD k 0 := by
      apply Classical.byContradiction
      intro hno
      exact hall fun j hj => Classical.byContradiction fun h => hno ⟨j, hj, h⟩
    obtain ⟨k, hk⟩ := this
    induction k using Nat.strongRecOn with
    | ind k ih =>
      by_cases h : ∀ j, j < k → x.getD j 0 = y.getD j 0
      · exact ⟨k, hk.1, hk.2, h⟩
      · have : ∃ j, j < k ∧ x.getD j 0 ≠ y.getD j 0 := by
          apply Classical.byContradiction
          intro hno
          exact h fun j hj => Classical.byContradiction fun h' => hno ⟨j, hj, h'⟩
        obtain ⟨j, hj, hjn⟩ := this
        exact ih j hj ⟨by omega, hjn⟩
theorem str_get (x : List UInt8) (i : Nat) (h : i < x.length) : (str x)[i]! = x.getD i 0 := by
  have h' : i < (str x).size := h
  rw [getElem!_pos (str x) i h', List.getD_eq_getElem?_getD, List.getElem?_eq_getElem h]
  rfl
theorem cmpOf_same (x y : List UInt8) (hx : x.length = 32) (hy : y.length = 32) (h : ∀ j, j < 32 → x.getD j 0 = y.getD j 0) : cmpOf x y = 0 := by
  have e : (List.range (min (str x).size (str y).size)).find? (fun i => (str x)[i]! != (str y)[i]!) = none := by
    rw [List.find?_eq_none]
    intro j hj
    have hj' : j < 32 := by simpa [size_str, hx, hy] using hj
    rw [str_get x j (by omega), str_get y j (by omega), h j hj']
    simp
  unfold cmpOf Extern.BytealgCompare.cmp
  rw [e]
  simp [size_str, hx, hy]
theorem cmpOf_at (x y : List UInt8) (hx : x.length = 32) (hy : y.length = 32) (k : Nat) (hk : k < 32) (hne : x.getD k 0 ≠ y.getD k 0) (h : ∀ j, j < k → x.getD j 0 = y.getD j 0) : cmpOf x y = if x.getD k 0 < y.getD k 0 then -1 else 1 := by
  have e : (List.range (min (str x).size (str y).size)).find? (fun i => (str x)[i]! != (str y)[i]!) = some k := by
    rw [List.find?_range_eq_some]
    refine ⟨?_, by simpa [size_str, hx, hy] using hk, fun j hj => ?_⟩
    · rw [str_get x k (by omega), str_get y k (by omega)]
      simpa using hne
    · rw [str_get x j (by omega), str_get y j (by omega), h j hj]
      simp
  unfold cmpOf Extern.BytealgCompare.cmp
  rw [e]
  simp only [str_get x k (by omega), str_get y k (by omega)]
theorem xorOf_get (g x : List UInt8) (hg : g.length = 32) (hx : x.length = 32) (k : Nat) (hk : k < 32) : (xorOf g x).getD k 0 = g.getD k 0 ^^^ x.getD k 0 := by
  have hl := length_xorOf g x hg hx
  rw [List.getD_eq_getElem?_getD, List.getElem?_eq_getElem (by omega), List.getD_eq_getElem?_getD, List.getElem?_eq_getElem (by omega), List.getD_eq_getElem?_getD, List.getElem?_eq_getElem (by omega)]
  simp [xorOf]
theorem lt_of_bit (x y i : Nat) (hx : x.testBit i = false) (hy : y.testBit i = true) (ha : ∀ j, i < j → x.testBit j = y.testBit j) : x < y := by
  have e : x / 2 ^ (i + 1) = y / 2 ^ (i + 1) := by
    apply Nat.eq_of_testBit_eq
    intro j
    rw [Nat.testBit_div_two_pow, Nat.testBit_div_two_pow]
    exact ha _ (by omega)
  rw [Nat.testBit_eq_decide_div_mod_eq] at hx hy
  simp at hx hy
  rw [Nat.pow_succ, ← Nat.div_div_eq_div_mul, ← Nat.div_div_eq_div_mul] at e
  refine Nat.lt_of_not_le (fun hle => ?_)
  have := Nat.div_le_div_right (c := 2 ^ i) hle
  omega
/-- Of two bytes that part, the less has no bit where they first part. -/
theorem byte_lt (a b : UInt8) (h : a ≠ b) : (a < b) ↔ a.toNat.testBit (7 - (8 - len8 (a ^^^ b))) = false := by
  have hc : a ^^^ b ≠ 0 := fun e => h (UInt8.xor_eq_zero_iff.1 e)
  obtain ⟨f1, f2, f3⟩ := first_bit _ hc
  rw [UInt8.toNat_xor, Nat.testBit_xor] at f2
  have above : ∀ j, 7 - (8 - len8 (a ^^^ b)) < j → a.toNat.testBit j = b.toNat.testBit j := fun j hj => by
    by_cases h8 : j < 8
    · have h3 := f3 (7 - j) (by omega)
      rw [show 7 - (7 - j) = j from by omega, UInt8.toNat_xor, Nat.testBit_xor] at h3
      cases ha : a.toNat.testBit j <;> cases hb : b.toNat.testBit j <;> simp [ha, hb] at h3 ⊢
    · have hp : (256 : Nat) ≤ 2 ^ j := by
        have : (2 : Nat) ^ 8 ≤ 2 ^ j := Nat.pow_le_pow_right (by omega) (by omega)
        omega
      have ha := a.toNat_lt
      have hb := b.toNat_lt
      rw [Nat.testBit_lt_two_pow (by omega), Nat.testBit_lt_two_pow (by omega)]
  rw [UInt8.lt_iff_toNat_lt]
  cases ha : a.toNat.testBit (7 - (8 - len8 (a ^^^ b)))
  · rw [ha] at f2
    simp at f2
    simp only [iff_true]
    exact lt_of_bit _ _ _ ha f2 (fun j hj => above j hj)
  · rw [ha] at f2
    simp at f2
    simp only [Bool.true_eq_false, iff_false]
    have := lt_of_bit _ _ _ f2 ha (fun j hj => (above j hj).symm)
    omega
theorem xor_cancel (g x y : UInt8) : (g ^^^ x) ^^^ (g ^^^ y) = x ^^^ y := by
  rw [← UInt8.xor_assoc, UInt8.xor_comm g x, UInt8.xor_assoc x g g, UInt8.xor_self, UInt8.xor_zero]
theorem xor_inj (g x y : UInt8) (h : g ^^^ x = g ^^^ y) : x = y := by
  have := xor_cancel g x y
  rw [h, UInt8.xor_self] at this
  exact UInt8.xor_eq_zero_iff.1 this.symm
/-- NEARER: as the document has it. -/
theorem closer_eq (g x y : List UInt8) (hg : g.length = 32) (hx : x.length = 32) (hy : y.length = 32) : decide (cmpOf (xorOf g x) (xorOf g y) < 0) = closerOf g x y := by
  have lx := length_xorOf g x hg hx
  have ly := length_xorOf g y hg hy
  unfold closerOf
  rcases parts_at x y with h | ⟨k, hk, hne, hlow⟩
  · rw [sharedOf_all x y h, cmpOf_same _ _ lx ly (fun j hj => by rw [xorOf_get g x hg hx j hj, xorOf_get g y hg hy j hj, h j hj])]
    simp
  · have hne' : (xorOf g x).getD k 0 ≠ (xorOf g y).getD k 0 := by
      rw [xorOf_get g x hg hx k hk, xorOf_get g y hg hy k hk]
      exact fun e => hne (xor_inj _ _ _ e)
    rw [cmpOf_at _ _ lx ly k hk hne' (fun j hj => by rw [xorOf_get g x hg hx j (by omega), xorOf_get g y hg hy j (by omega), hlow j hj]), sharedOf_at x y k hk hlow hne, xorOf_get g x hg hx k hk, xorOf_get g y hg hy k hk]
    rw [xorOf_get g x hg hx k hk, xorOf_get g y hg hy k hk] at hne'
    have hb := byte_lt _ _ hne'
    rw [xor_cancel] at hb
    have hc : x.getD k 0 ^^^ y.getD k 0 ≠ 0 := fun e => hne (UInt8.xor_eq_zero_iff.1 e)
    obtain ⟨f1, _, _⟩ := first_bit _ hc
    have hd := bit_differ g x k _ f1
    rw [← hd] at hb
    have hlt : 8 * k + (8 - len8 (x.getD k 0 ^^^ y.getD k 0)) < 256 := by omega
    by_cases hlt' : g.getD k 0 ^^^ x.getD k 0 < g.getD k 0 ^^^ y.getD k 0
    · rw [if_pos hlt']
      have := hb.1 hlt'
      simp only [this, hlt]
      decide
    · rw [if_neg hlt']
      have : ¬ bitOf g (8 * k + (8 - len8 (x.getD k 0 ^^^ y.getD k 0))) = bitOf x (8 * k + (8 - len8 (x.getD k 0 ^^^ y.getD k 0))) := fun e => hlt' (hb.2 e)
      simp only [this, hlt]
      decide

/-- The order of texts and of names. -/
theorem less_iff : ∀ (x y : List UInt8), x.length = y.length → (Op.bytesLess x y = true ↔ ∃ k, k < x.length ∧ x.getD k 0 < y.getD k 0 ∧ ∀ j, j < k → x.getD j 0 = y.getD j 0)
  | [], [], _ => by simp [Op.bytesLess]
  | a :: x, b :: y, h => by
    have ih := less_iff x y (by simpa using h)
    rw [Op.bytesLess]
    simp only [Bool.or_eq_true, decide_eq_true_eq, Bool.and_eq_true, beq_iff_eq]
    constructor
    · rintro (hab | ⟨rfl, hl⟩)
      · exact ⟨0, by simp, by simpa using hab, fun j hj => by omega⟩
      · obtain ⟨k, hk, hlt, hlow⟩ := ih.1 hl
        refine ⟨k + 1, by simpa using hk, by simpa using hlt, fun j hj => ?_⟩
        cases j with
        | zero => rfl
        | succ j => simpa using hlow j (by omega)
    · rintro ⟨k, hk, hlt, hlow⟩
      cases k with
      | zero => exact .inl (by simpa using hlt)
      | succ k =>
        right
        have h0 := hlow 0 (by omega)
        refine ⟨by simpa using h0, ih.2 ⟨k, by simpa using hk, by simpa using hlt, fun j hj => by simpa using hlow (j + 1) (by omega)⟩⟩
theorem cmpOf_less (x y : List UInt8) (hx : x.length = 32) (hy : y.length = 32) : decide (cmpOf x y < 0) = Op.bytesLess x y := by
  rw [Bool.eq_iff_iff, less_iff x y (by rw [hx, hy]), decide_eq_true_eq, hx]
  rcases parts_at x y with h | ⟨k, hk, hne, hlow⟩
  · rw [cmpOf_same x y hx hy h]
    constructor
    · intro h0; omega
    · rintro ⟨k, hk, hlt, _⟩
      rw [h k hk] at hlt
      exact absurd hlt (by simp)
  · rw [cmpOf_at x y hx hy k hk hne hlow]
    constructor
    · intro h0
      refine ⟨k, hk, ?_, hlow⟩
      apply Classical.byContradiction
      intro hn
      rw [if_neg hn] at h0
      omega
    · rintro ⟨q, hq, hlt, hl⟩
      have hqk : q = k := by
        rcases Nat.lt_trichotomy q k with h1 | h1 | h1
        · rw [hlow q h1] at hlt
          exact absurd hlt (by simp)
        · exact h1
        · exact absurd (hl k h1) hne
      subst hqk
      rw [if_pos hlt]
      omega
theorem cmpOf_bounds (x y : List UInt8) (hx : x.length = 32) (hy : y.length = 32) : -1 ≤ cmpOf x y ∧ cmpOf x y ≤ 1 := by
  rcases parts_at x y with h | ⟨k, hk, hne, hlow⟩
  · rw [cmpOf_same x y hx hy h]; omega
  · rw [cmpOf_at x y hx hy k hk hne hlow]; split <;> omega
theorem cmpOf_swap (x y : List UInt8) (hx : x.length = 32) (hy : y.length = 32) : cmpOf y x = - cmpOf x y := by
  rcases parts_at x y with h | ⟨k, hk, hne, hlow⟩
  · rw [cmpOf_same x y hx hy h, cmpOf_same y x hy hx (fun j hj => (h j hj).symm)]; rfl
  · rw [cmpOf_at x y hx hy k hk hne hlow, cmpOf_at y x hy hx k hk (fun e => hne e.symm) (fun j hj => (hlow j hj).symm)]
    have h1 : x.getD k 0 < y.getD k 0 ↔ ¬ y.getD k 0 < x.getD k 0 := by
      have hn : (x.getD k 0).toNat ≠ (y.getD k 0).toNat := fun e => hne (UInt8.toNat_inj.1 e)
      rw [UInt8.lt_iff_toNat_lt, UInt8.lt_iff_toNat_lt]
      omega
    by_cases h2 : y.getD k 0 < x.getD k 0
    · rw [if_pos h2, if_neg (fun h3 => h1.1 h3 h2)]
    · rw [if_neg h2, if_pos (h1.2 h2)]
      rfl
theorem eq_of_same (x y : List UInt8) (hx : x.length = 32) (hy : y.length = 32) (h : ∀ j, j < 32 → x.getD j 0 = y.getD j 0) : x = y := by
  refine List.ext_getElem (by rw [hx, hy]) (fun j h1 h2 => ?_)
  have := h j (by omega)
  rw [List.getD_eq_getElem?_getD, List.getD_eq_getElem?_getD, List.getElem?_eq_getElem h1, List.getElem?_eq_getElem h2] at this
  simpa using this
theorem cmpOf_zero (x y : List UInt8) (hx : x.length = 32) (hy : y.length = 32) : cmpOf x y = 0 ↔ x = y := by
  constructor
  · intro h
    rcases parts_at x y with h1 | ⟨k, hk, hne, hlow⟩
    · exact eq_of_same x y hx hy h1
    · rw [cmpOf_at x y hx hy k hk hne hlow] at h
      split at h <;> omega
  · rintro rfl
    exact cmpOf_same x x hx hx (fun _ _ => rfl)
theorem cmpOf_more (x y : List UInt8) (hx : x.length = 32) (hy : y.length = 32) : decide (0 < cmpOf x y) = (!Op.bytesLess x y && !x == y) := by
  rw [← cmpOf_less x y hx hy]
  have hz := cmpOf_zero x y hx hy
  by_cases he : x = y
  · have := hz.2 he
    simp [he] at this ⊢
    rw [this]
    omega
  · have hn : cmpOf x y ≠ 0 := fun h => he (hz.1 h)
    rw [Bool.eq_iff_iff]
    simp [he]
    omega
theorem cmpOf_greater (x y : List UInt8) (hx : x.length = 32) (hy : y.length = 32) : decide (0 < cmpOf x y) = Op.bytesLess y x := by
  rw [← cmpOf_less y x hy hx, cmpOf_swap x y hx hy, Bool.eq_iff_iff, decide_eq_true_eq, decide_eq_true_eq]
  omega
end Go.Proofs.YtaicjdjfhbmfeaaDoor

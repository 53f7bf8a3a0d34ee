/-
  Names: Compare, Bytes, the order of names; what the rest of layer 2 is not needed for.
-/
import Derived.Test.YtbodoodgdojgoaaBase
import Derived.Laws.ResultCell
import Derived.Laws.Externs
namespace Go.Proofs.Ytbodoodgdojgoaa
open Go.RowKit Crv

/-- string(b[:]) of an array's bytes. -/
theorem bytes_string {P : Program} {w : World} {g n : Nat} {t src dst e : TypeId} {l : List UInt8} (h : Mem w g t (l.map byteV)) (hs : P.underlying src = some (.slice e)) (he : P.underlying e = some (.int .u8)) (hd : P.underlying dst = some .string) (hn : l.length = n) :
    (convert src dst (.slice (some ⟨g, 0, none⟩) n n)).run P w = .ok (.string (str l)) w := by
  subst hn
  have hnums : strOfNums (l.map fun b => (b.toNat : Int)) = str l := by
    simp only [strOfNums, List.map_map, str]
    congr 2
    have : ((fun n : Int => UInt8.ofNat n.toNat) ∘ fun b : UInt8 => (b.toNat : Int)) = id := by
      funext b; simp
    rw [this, List.map_id]
  have := run_convert_bytes_arg w src e hs he g 0 l.length l.length (l.map fun b => (b.toNat : Int)) (by simp) (fun i hi => by
    rw [Nat.zero_add, h.cell, List.getElem?_map, List.getElem?_eq_getElem hi, List.getD_eq_getElem?_getD, List.getElem?_map, List.getElem?_eq_getElem hi]
    rfl) dst hd
  rw [this, hnums]
abbrev zs32 : Array Value := #[Value.int IntKind.u8 0, Value.int IntKind.u8 0, Value.int IntKind.u8 0, Value.int IntKind.u8 0, Value.int IntKind.u8 0, Value.int IntKind.u8 0, Value.int IntKind.u8 0, Value.int IntKind.u8 0, Value.int IntKind.u8 0, Value.int IntKind.u8 0, Value.int IntKind.u8 0, Value.int IntKind.u8 0, Value.int IntKind.u8 0, Value.int IntKind.u8 0, Value.int IntKind.u8 0, Value.int IntKind.u8 0, Value.int IntKind.u8 0, Value.int IntKind.u8 0, Value.int IntKind.u8 0, Value.int IntKind.u8 0, Value.int IntKind.u8 0, Value.int IntKind.u8 0, Value.int IntKind.u8 0, Value.int IntKind.u8 0, Value.int IntKind.u8 0, Value.int IntKind.u8 0, Value.int IntKind.u8 0, Value.int IntKind.u8 0, Value.int IntKind.u8 0, Value.int IntKind.u8 0, Value.int IntKind.u8 0, Value.int IntKind.u8 0]
theorem zs32_eq : zs32 = (List.replicate 32 (byteV 0)).toArray := rfl
theorem run_loadBytes {P : Program} {w : World} {g : Nat} {t : TypeId} {cs : List Value} (hm : Mem w g t cs) : ∀ (l : List UInt8) (off : Nat) (acc : List UInt8), l.map byteV <+: cs.drop off →
    (Extern.Bytes.loadBytes ⟨g, off, none⟩ l.length (str acc)).run P w = .ok (str (acc ++ l)) w
  | [], off, acc, _ => by simp [Extern.Bytes.loadBytes]
  | b :: l, off, acc, h => by
    have hr := hm.range off _ h
    have h0 := hr 0 (byteV b) rfl
    have hl : (load ⟨g, off, none⟩).run P w = .ok (byteV b) w := by
      have h1 : w.cell? ⟨g, off, none⟩ = some (byteV b) := h0
      simp [go_sem, h1]
    have hn : l.map byteV <+: cs.drop (off + 1) := by
      obtain ⟨r, hr'⟩ := h
      refine ⟨r, ?_⟩
      rw [← List.drop_drop, ← hr']
      rfl
    have ih := run_loadBytes (P := P) hm l (off + 1) (acc ++ [b]) hn
    have hp : (str acc).push ((b.toNat : Int).toNat.toUInt8) = str (acc ++ [b]) := by
      simp [str, ByteArray.push]
    simp only [List.length_cons, Extern.Bytes.loadBytes, Sem.run_bind, hl, Result.andThen_ok]
    rw [hp, Go.WideShapes.add_plain, ih, List.append_assoc]
    rfl
/-- What the model's Compare says of two names. -/
def cmpOf (x y : List UInt8) : Int := Extern.BytealgCompare.cmp (str x) (str y)
/-- Two names are the same, or there is a first byte at which they part. -/
theorem parts_at (x y : List UInt8) : (∀ j, j < 32 → x.getD j 0 = y.getD j 0) ∨ ∃ k, k < 32 ∧ x.getD k 0 ≠ y.getD k 0 ∧ ∀ j, j < k → x.getD j 0 = y.getD j 0 := by
  by_cases hall : ∀ j, j < 32 → x.getD j 0 = y.getD j 0
  · exact .inl hall
  · right
    have : ∃ k, k < 32 ∧ x.getD k 0 ≠ y.getD k 0 := by
      apply Classical.byContradiction
      intro hno
      exact hall fun j hj => Classical.byContradiction fun h => hno ⟨j, hj, h⟩
    obtain ⟨k, hk⟩ := this
    induction k using Nat.strongRecOn with
    | ind k ih =>
      by_cases h : ∀ j, j < k → x.getD j 0 = y.getD j 0
      · exact ⟨k, hk.1, hk.2, h⟩
      · have : ∃ j, j < k ∧ x.getD j 0 ≠ y.getD j 0 := by
          apply Classical.byContradiction
          intro hno
          exact h fun j hj => Classical.byContradiction fun h' => hno ⟨j, hj, h'⟩
        obtain ⟨j, hj, hjn⟩ := this
        exact ih j hj ⟨by omega, hjn⟩
theorem str_get (x : List UInt8) (i : Nat) (h : i < x.length) : (str x)[i]! = x.getD i 0 := by
  have h' : i < (str x).size := h
  rw [getElem!_pos (str x) i h', List.getD_eq_getElem?_getD, List.getElem?_eq_getElem h]
  rfl
theorem cmpOf_same (x y : List UInt8) (hx : x.length = 32) (hy : y.length = 32) (h : ∀ j, j < 32 → x.getD j 0 = y.getD j 0) : cmpOf x y = 0 := by
  have e : (List.range (min (str x).size (str y).size)).find? (fun i => (str x)[i]! != (str y)[i]!) = none := by
    rw [List.find?_eq_none]
    intro j hj
    have hj' : j < 32 := by simpa [size_str, hx, hy] using hj
    rw [str_get x j (by omega), str_get y j (by omega), h j hj']
    simp
  unfold cmpOf Extern.BytealgCompare.cmp
  rw [e]
  simp [size_str, hx, hy]
theorem cmpOf_at (x y : List UInt8) (hx : x.length = 32) (hy : y.length = 32) (k : Nat) (hk : k < 32) (hne : x.getD k 0 ≠ y.getD k 0) (h : ∀ j, j < k → x.getD j 0 = y.getD j 0) : cmpOf x y = if x.getD k 0 < y.getD k 0 then -1 else 1 := by
  have e : (List.range (min (str x).size (str y).size)).find? (fun i => (str x)[i]! != (str y)[i]!) = some k := by
    rw [List.find?_range_eq_some]
    refine ⟨?_, by simpa [size_str, hx, hy] using hk, fun j hj => ?_⟩
    · rw [str_get x k (by omega), str_get y k (by omega)]
      simpa using hne
    · rw [str_get x j (by omega), str_get y j (by omega), h j hj]
      simp
  unfold cmpOf Extern.BytealgCompare.cmp
  rw [e]
  simp only [str_get x k (by omega), str_get y k (by omega)]
/-- The order of texts and of names. -/
theorem less_iff : ∀ (x y : List UInt8), x.length = y.length → (Op.bytesLess x y = true ↔ ∃ k, k < x.length ∧ x.getD k 0 < y.getD k 0 ∧ ∀ j, j < k → x.getD j 0 = y.getD j 0)
  | [], [], _ => by simp [Op.bytesLess]
  | a :: x, b :: y, h => by
    have ih := less_iff x y (by simpa using h)
    rw [Op.bytesLess]
    simp only [Bool.or_eq_true, decide_eq_true_eq, Bool.and_eq_true, beq_iff_eq]
    constructor
    · rintro (hab | ⟨rfl, hl⟩)
      · exact ⟨0, by simp, by simpa using hab, fun j hj => by omega⟩
      · obtain ⟨k, hk, hlt, hlow⟩ := ih.1 hl
        refine ⟨k + 1, by simpa using hk, by simpa using hlt, fun j hj => ?_⟩
        cases j with
        | zero => rfl
        | succ j => simpa using hlow j (by omega)
    · rintro ⟨k, hk, hlt, hlow⟩
      cases k with
      | zero => exact .inl (by simpa using hlt)
      | succ k =>
        right
        have h0 := hlow 0 (by omega)
        refine ⟨by simpa using h0, ih.2 ⟨k, by simpa using hk, by simpa using hlt, fun j hj => by simpa using hlow (j + 1) (by omega)⟩⟩
theorem cmpOf_less (x y : List UInt8) (hx : x.length = 32) (hy : y.length = 32) : decide (cmpOf x y < 0) = Op.bytesLess x y := by
  rw [Bool.eq_iff_iff, less_iff x y (by rw [hx, hy]), decide_eq_true_eq, hx]
  rcases parts_at x y with h | ⟨k, hk, hne, hlow⟩
  · rw [cmpOf_same x y hx hy h]
    constructor
    · intro h0; omega
    · rintro ⟨k, hk, hlt, _⟩
      rw [h k hk] at hlt
      exact absurd hlt (by simp)
  · rw [cmpOf_at x y hx hy k hk hne hlow]
    constructor
    · intro h0
      refine ⟨k, hk, ?_, hlow⟩
      apply Classical.byContradiction
      intro hn
      rw [if_neg hn] at h0
      omega
    · rintro ⟨q, hq, hlt, hl⟩
      have hqk : q = k := by
        rcases Nat.lt_trichotomy q k with h1 | h1 | h1
        · rw [hlow q h1] at hlt
          exact absurd hlt (by simp)
        · exact h1
        · exact absurd (hl k h1) hne
      subst hqk
      rw [if_pos hlt]
      omega
theorem cmpOf_bounds (x y : List UInt8) (hx : x.length = 32) (hy : y.length = 32) : -1 ≤ cmpOf x y ∧ cmpOf x y ≤ 1 := by
  rcases parts_at x y with h | ⟨k, hk, hne, hlow⟩
  · rw [cmpOf_same x y hx hy h]; omega
  · rw [cmpOf_at x y hx hy k hk hne hlow]; split <;> omega
theorem cmpOf_swap (x y : List UInt8) (hx : x.length = 32) (hy : y.length = 32) : cmpOf y x = - cmpOf x y := by
  rcases parts_at x y with h | ⟨k, hk, hne, hlow⟩
  · rw [cmpOf_same x y hx hy h, cmpOf_same y x hy hx (fun j hj => (h j hj).symm)]; rfl
  · rw [cmpOf_at x y hx hy k hk hne hlow, cmpOf_at y x hy hx k hk (fun e => hne e.symm) (fun j hj => (hlow j hj).symm)]
    have h1 : x.getD k 0 < y.getD k 0 ↔ ¬ y.getD k 0 < x.getD k 0 := by
      have hn : (x.getD k 0).toNat ≠ (y.getD k 0).toNat := fun e => hne (UInt8.toNat_inj.1 e)
      rw [UInt8.lt_iff_toNat_lt, UInt8.lt_iff_toNat_lt]
      omega
    by_cases h2 : y.getD k 0 < x.getD k 0
    · rw [if_pos h2, if_neg (fun h3 => h1.1 h3 h2)]
    · rw [if_neg h2, if_pos (h1.2 h2)]
      rfl
theorem eq_of_same (x y : List UInt8) (hx : x.length = 32) (hy : y.length = 32) (h : ∀ j, j < 32 → x.getD j 0 = y.getD j 0) : x = y := by
  refine List.ext_getElem (by rw [hx, hy]) (fun j h1 h2 => ?_)
  have := h j (by omega)
  rw [List.getD_eq_getElem?_getD, List.getD_eq_getElem?_getD, List.getElem?_eq_getElem h1, List.getElem?_eq_getElem h2] at this
  simpa using this
theorem cmpOf_zero (x y : List UInt8) (hx : x.length = 32) (hy : y.length = 32) : cmpOf x y = 0 ↔ x = y := by
  constructor
  · intro h
    rcases parts_at x y with h1 | ⟨k, hk, hne, hlow⟩
    · exact eq_of_same x y hx hy h1
    · rw [cmpOf_at x y hx hy k hk hne hlow] at h
      split at h <;> omega
  · rintro rfl
    exact cmpOf_same x x hx hx (fun _ _ => rfl)
theorem less_trans {x y z : List UInt8} (hx : x.length = 32) (hy : y.length = 32) (hz : z.length = 32) (h1 : cmpOf x y < 0) (h2 : cmpOf y z < 0) : cmpOf x z < 0 := by
  have e1 := cmpOf_less x y hx hy
  have e2 := cmpOf_less y z hy hz
  have e3 := cmpOf_less x z hx hz
  rw [decide_eq_true h1] at e1
  rw [decide_eq_true h2] at e2
  obtain ⟨k, hk, hlt, hb⟩ := (less_iff x y (by omega)).1 e1.symm
  obtain ⟨l, hl, hlt2, hb2⟩ := (less_iff y z (by omega)).1 e2.symm
  have h3 : Op.bytesLess x z = true := by
    refine (less_iff x z (by omega)).2 ?_
    by_cases h : k < l
    · exact ⟨k, hk, by rw [← hb2 k h]; exact hlt, fun j hj => (hb j hj).trans (hb2 j (by omega))⟩
    · by_cases h' : l < k
      · exact ⟨l, by omega, by rw [hb l h']; exact hlt2, fun j hj => (hb j (by omega)).trans (hb2 j hj)⟩
      · have : k = l := by omega
        subst this
        exact ⟨k, hk, UInt8.lt_trans hlt hlt2, fun j hj => (hb j hj).trans (hb2 j hj)⟩
  rw [h3] at e3
  simpa using e3
end Go.Proofs.Ytbodoodgdojgoaa

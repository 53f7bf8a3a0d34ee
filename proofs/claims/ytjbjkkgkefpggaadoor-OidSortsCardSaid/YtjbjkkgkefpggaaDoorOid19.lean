/-
  OidSorts: the mathematics: of three names the nearest to a goal.
-/
import Derived.Test.YtjbjkkgkefpggaaDoorOid18
namespace Go.Proofs.YtjbjkkgkefpggaaDoor
open Go.RowKit Crv

theorem cmpOf_trans (x y z : List UInt8) (hx : x.length = 32) (hy : y.length = 32) (hz : z.length = 32) (h1 : cmpOf x y < 0) (h2 : cmpOf y z < 0) : cmpOf x z < 0 := by
  have e1 : Op.bytesLess x y = true := by rw [← cmpOf_less x y hx hy]; simpa using h1
  have e2 : Op.bytesLess y z = true := by rw [← cmpOf_less y z hy hz]; simpa using h2
  have e3 : Op.bytesLess x z = true := by
    rw [less_iff x y (by rw [hx, hy])] at e1
    rw [less_iff y z (by rw [hy, hz])] at e2
    rw [less_iff x z (by rw [hx, hz])]
    obtain ⟨k, hk, hlt, hlow⟩ := e1
    obtain ⟨q, hq, hlt', hlow'⟩ := e2
    rcases Nat.lt_trichotomy k q with h | h | h
    · exact ⟨k, hk, by rw [← hlow' k h]; exact hlt, fun j hj => (hlow j hj).trans (hlow' j (by omega))⟩
    · subst h
      exact ⟨k, hk, by rw [UInt8.lt_iff_toNat_lt] at hlt hlt' ⊢; omega, fun j hj => (hlow j hj).trans (hlow' j hj)⟩
    · exact ⟨q, by omega, by rw [hlow q h]; exact hlt', fun j hj => (hlow j (by omega)).trans (hlow' j hj)⟩
  rw [← cmpOf_less x z hx hz] at e3
  simpa using e3

/-- The nearer of two names to a goal; the first where they are the same. -/
def nearOf (g p q : List UInt8) : List UInt8 := if cmpOf (xorOf g q) (xorOf g p) < 0 then q else p

theorem length_nearOf (g p q : List UInt8) (hp : p.length = 32) (hq : q.length = 32) : (nearOf g p q).length = 32 := by
  unfold nearOf; split <;> assumption

section
variable (g : List UInt8) (hg : g.length = 32)
include hg
theorem far_trans {x y z : List UInt8} (hx : x.length = 32) (hy : y.length = 32) (hz : z.length = 32) (h1 : cmpOf (xorOf g x) (xorOf g y) < 0) (h2 : cmpOf (xorOf g y) (xorOf g z) < 0) : cmpOf (xorOf g x) (xorOf g z) < 0 :=
  cmpOf_trans _ _ _ (length_xorOf g x hg hx) (length_xorOf g y hg hy) (length_xorOf g z hg hz) h1 h2
theorem far_total {x y : List UInt8} (hx : x.length = 32) (hy : y.length = 32) (h : ¬ cmpOf (xorOf g x) (xorOf g y) < 0) : x = y ∨ cmpOf (xorOf g y) (xorOf g x) < 0 := by
  have l1 := length_xorOf g x hg hx
  have l2 := length_xorOf g y hg hy
  by_cases he : cmpOf (xorOf g x) (xorOf g y) = 0
  · exact .inl (xorOf_inj g x y hg hx hy ((cmpOf_zero _ _ l1 l2).1 he))
  · right
    rw [cmpOf_swap _ _ l1 l2]
    omega
theorem far_asymm {x y : List UInt8} (hx : x.length = 32) (hy : y.length = 32) (h : cmpOf (xorOf g x) (xorOf g y) < 0) : ¬ cmpOf (xorOf g y) (xorOf g x) < 0 := by
  rw [cmpOf_swap _ _ (length_xorOf g x hg hx) (length_xorOf g y hg hy)]
  omega
theorem far_le_trans {x y z : List UInt8} (hx : x.length = 32) (hy : y.length = 32) (hz : z.length = 32) (h1 : ¬ cmpOf (xorOf g y) (xorOf g x) < 0) (h2 : ¬ cmpOf (xorOf g z) (xorOf g y) < 0) : ¬ cmpOf (xorOf g z) (xorOf g x) < 0 := by
  rcases far_total g hg hy hx h1 with rfl | h1'
  · exact h2
  · rcases far_total g hg hz hy h2 with rfl | h2'
    · exact h1
    · exact far_asymm g hg hx hz (far_trans g hg hx hy hz h1' h2')
theorem nearOf_assoc (x y z : List UInt8) (hx : x.length = 32) (hy : y.length = 32) (hz : z.length = 32) : nearOf g (nearOf g x y) z = nearOf g x (nearOf g y z) := by
  by_cases h1 : cmpOf (xorOf g y) (xorOf g x) < 0
  · by_cases h2 : cmpOf (xorOf g z) (xorOf g y) < 0
    · have h3 := far_trans g hg hz hy hx h2 h1
      simp only [nearOf, if_pos h1, if_pos h2, if_pos h3]
    · simp only [nearOf, if_pos h1, if_neg h2]
  · by_cases h2 : cmpOf (xorOf g z) (xorOf g y) < 0
    · simp only [nearOf, if_neg h1, if_pos h2]
    · have h3 := far_le_trans g hg hx hy hz h1 h2
      simp only [nearOf, if_neg h1, if_neg h2, if_neg h3]
theorem nearOf_left (x y : List UInt8) (hx : x.length = 32) (hy : y.length = 32) : ¬ cmpOf (xorOf g x) (xorOf g (nearOf g x y)) < 0 := by
  by_cases h1 : cmpOf (xorOf g y) (xorOf g x) < 0
  · simp only [nearOf, if_pos h1]
    exact far_asymm g hg hy hx h1
  · simp only [nearOf, if_neg h1]
    intro h
    exact far_asymm g hg hx hx h h
theorem nearOf_right (x y : List UInt8) (hy : y.length = 32) : ¬ cmpOf (xorOf g y) (xorOf g (nearOf g x y)) < 0 := by
  by_cases h1 : cmpOf (xorOf g y) (xorOf g x) < 0
  · simp only [nearOf, if_pos h1]
    intro h
    exact far_asymm g hg hy hy h h
  · simp only [nearOf, if_neg h1]
    exact h1
/-- The nearest of three is no farther than each. -/
theorem nearest (x y z : List UInt8) (hx : x.length = 32) (hy : y.length = 32) (hz : z.length = 32) :
    ¬ cmpOf (xorOf g x) (xorOf g (nearOf g (nearOf g x y) z)) < 0 ∧ ¬ cmpOf (xorOf g y) (xorOf g (nearOf g (nearOf g x y) z)) < 0 ∧ ¬ cmpOf (xorOf g z) (xorOf g (nearOf g (nearOf g x y) z)) < 0 := by
  have h1 := nearOf_left g hg x y hx hy
  have h2 := nearOf_right g hg x y hy
  have lm := length_nearOf g x y hx hy
  have h3 := nearOf_left g hg (nearOf g x y) z lm hz
  have h4 := nearOf_right g hg (nearOf g x y) z hz
  have ln := length_nearOf g (nearOf g x y) z lm hz
  exact ⟨far_le_trans g hg ln lm hx h3 h1, far_le_trans g hg ln lm hy h3 h2, h4⟩
/-- Nothing is nearer to a goal than itself. -/
theorem nearOf_goal (m : List UInt8) (hm : m.length = 32) : nearOf g m g = g := by
  unfold nearOf
  by_cases h : cmpOf (xorOf g g) (xorOf g m) < 0
  · rw [if_pos h]
  · rw [if_neg h]
    have l1 := length_xorOf g g hg hg
    have l2 := length_xorOf g m hg hm
    have hz : xorOf g g = List.replicate 32 0 := (xorOf_zero g g hg hg).2 rfl
    rcases far_total g hg hg hm h with e | h'
    · exact e.symm
    · exfalso
      rcases parts_at (xorOf g g) (xorOf g m) with hs | ⟨k, hk, hne, hlow⟩
      · rw [cmpOf_swap _ _ l1 l2, cmpOf_same _ _ l1 l2 hs] at h'
        omega
      · rw [cmpOf_at _ _ l1 l2 k hk hne hlow] at h
        have h0 : (xorOf g g).getD k 0 = 0 := by rw [hz, List.getD_eq_getElem?_getD, List.getElem?_replicate, if_pos hk]; rfl
        rw [h0] at h hne
        have hlt : (0 : UInt8) < (xorOf g m).getD k 0 := by
          have : ((xorOf g m).getD k 0).toNat ≠ 0 := fun e => hne (UInt8.toNat_inj.1 (by simpa using e.symm))
          rw [UInt8.lt_iff_toNat_lt, UInt8.toNat_zero]
          omega
        rw [if_pos hlt] at h
        omega
end
end Go.Proofs.YtjbjkkgkefpggaaDoor

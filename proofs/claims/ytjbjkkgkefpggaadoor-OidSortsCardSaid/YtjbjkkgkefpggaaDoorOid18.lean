/-
  OidDistance: the mathematics: Xor is a distance.
-/
import Derived.Test.YtjbjkkgkefpggaaDoorOid13
namespace Go.Proofs.YtjbjkkgkefpggaaDoor
open Go.RowKit Crv

theorem xorOf_comm (x y : List UInt8) (hx : x.length = 32) (hy : y.length = 32) : xorOf x y = xorOf y x := by
  refine eq_of_same _ _ (length_xorOf x y hx hy) (length_xorOf y x hy hx) fun j hj => ?_
  rw [xorOf_get x y hx hy j hj, xorOf_get y x hy hx j hj, UInt8.xor_comm]
theorem xorOf_back (x y : List UInt8) (hx : x.length = 32) (hy : y.length = 32) : xorOf (xorOf x y) y = x := by
  have hl := length_xorOf x y hx hy
  refine eq_of_same _ _ (length_xorOf _ y hl hy) hx fun j hj => ?_
  rw [xorOf_get _ y hl hy j hj, xorOf_get x y hx hy j hj, UInt8.xor_assoc, UInt8.xor_self, UInt8.xor_zero]
theorem xorOf_via (x y z : List UInt8) (hx : x.length = 32) (hy : y.length = 32) (hz : z.length = 32) : xorOf (xorOf x z) (xorOf z y) = xorOf x y := by
  have h1 := length_xorOf x z hx hz
  have h2 := length_xorOf z y hz hy
  refine eq_of_same _ _ (length_xorOf _ _ h1 h2) (length_xorOf x y hx hy) fun j hj => ?_
  rw [xorOf_get _ _ h1 h2 j hj, xorOf_get x z hx hz j hj, xorOf_get z y hz hy j hj, xorOf_get x y hx hy j hj, UInt8.xor_comm (x.getD j 0), xor_cancel]
theorem xorOf_zero (x y : List UInt8) (hx : x.length = 32) (hy : y.length = 32) : (xorOf x y = List.replicate 32 0) ↔ x = y := by
  constructor
  · intro h
    refine eq_of_same x y hx hy fun j hj => ?_
    have h1 := xorOf_get x y hx hy j hj
    rw [h, List.getD_eq_getElem?_getD, List.getElem?_replicate, if_pos hj] at h1
    exact UInt8.xor_eq_zero_iff.mp h1.symm
  · rintro rfl
    refine eq_of_same _ _ (length_xorOf x x hx hx) (by simp) fun j hj => ?_
    rw [xorOf_get x x hx hx j hj, UInt8.xor_self, List.getD_eq_getElem?_getD, List.getElem?_replicate, if_pos hj]
    rfl
theorem xorOf_inj (g x y : List UInt8) (hg : g.length = 32) (hx : x.length = 32) (hy : y.length = 32) (h : xorOf g x = xorOf g y) : x = y := by
  refine eq_of_same x y hx hy fun j hj => xor_inj (g.getD j 0) _ _ ?_
  rw [← xorOf_get g x hg hx j hj, ← xorOf_get g y hg hy j hj, h]
theorem shared_three (x y z : List UInt8) : min (sharedOf x z) (sharedOf z y) ≤ sharedOf x y := by
  obtain ⟨h1, _⟩ := shared_spec x z
  obtain ⟨h2, _⟩ := shared_spec z y
  obtain ⟨_, h3⟩ := shared_spec x y
  by_cases h : sharedOf x y < 256
  · have h4 := h3 h
    by_cases h5 : sharedOf x y < sharedOf x z
    · by_cases h6 : sharedOf x y < sharedOf z y
      · exact absurd ((h1 _ h5).trans (h2 _ h6)) h4
      · omega
    · omega
  · have := shared_le x z
    omega
/-- Of two names just one is nearer to a third, or they are the same. -/
theorem near_far (g x y : List UInt8) (hg : g.length = 32) (hx : x.length = 32) (hy : y.length = 32) :
    decide (x = y) = (!decide (cmpOf (xorOf g x) (xorOf g y) < 0) && !decide (cmpOf (xorOf g y) (xorOf g x) < 0)) ∧
    (decide (cmpOf (xorOf g x) (xorOf g y) < 0) && decide (cmpOf (xorOf g y) (xorOf g x) < 0)) = false := by
  have l1 := length_xorOf g x hg hx
  have l2 := length_xorOf g y hg hy
  have hs := cmpOf_swap (xorOf g x) (xorOf g y) l1 l2
  have hz := cmpOf_zero (xorOf g x) (xorOf g y) l1 l2
  rw [hs]
  constructor
  · by_cases h : x = y
    · have := hz.2 (by rw [h])
      simp [h] at this ⊢
      omega
    · have : cmpOf (xorOf g x) (xorOf g y) ≠ 0 := fun h0 => h (xorOf_inj g x y hg hx hy (hz.1 h0))
      simp [h]
      omega
  · simp
    omega
end Go.Proofs.YtjbjkkgkefpggaaDoor

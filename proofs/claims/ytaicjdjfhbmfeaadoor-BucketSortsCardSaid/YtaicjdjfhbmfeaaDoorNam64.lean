/-
  The names of the sixty-four addresses are sixty-four names.
-/
import Derived.Test.YtaicjdjfhbmfeaaDoorBktB
import Derived.KernelRfl
namespace Go.Proofs.YtaicjdjfhbmfeaaDoor
open Go.RowKit Crv

def twoB (l : List UInt8) : Nat := (l.getD 0 0).toNat * 256 + (l.getD 1 0).toNat
/-- What each name begins with. -/
def tab64 : List Nat := [6707, 56569, 27509, 33775, 24238, 55386, 11083, 59280, 28578, 60792, 24883, 64569, 18629, 4404, 22596, 15016, 9375, 27967, 15000, 27564, 20039, 662, 53120, 52840, 5481, 13113, 48450, 13648, 14934, 37857, 11813, 57116, 63179, 54700, 26570, 37534, 20526, 11349, 20417, 26872, 25731, 53821, 2699, 34147, 56486, 63951, 18940, 31320, 40139, 65128, 34165, 27184, 27447, 8275, 56846, 57187, 59737, 28422, 46822, 20937, 21990, 49388, 27954, 38127]
theorem tab64_is : ((List.range 64).map fun n : Nat => twoB (idN (n : Int))) = tab64 := by kernel_rfl
theorem tab64_nodup : tab64.Nodup := by decide +kernel
theorem two_at (n : Nat) (hn : n < 64) : tab64[n]? = some (twoB (idN (n : Int))) := by
  rw [← tab64_is, List.getElem?_map, List.getElem?_range hn]
  rfl
/-- Of two addresses no name is the same. -/
theorem idN_inj {n m : Int} (hn : 0 ≤ n ∧ n < 64) (hm : 0 ≤ m ∧ m < 64) (h : idN n = idN m) : n = m := by
  obtain ⟨a, rfl⟩ : ∃ a : Nat, n = (a : Int) := ⟨n.toNat, by omega⟩
  obtain ⟨b, rfl⟩ : ∃ b : Nat, m = (b : Int) := ⟨m.toNat, by omega⟩
  have h1 := two_at a (by omega)
  have h2 := two_at b (by omega)
  rw [h, ← h2] at h1
  have hl : tab64.length = 64 := rfl
  rw [List.getElem?_eq_getElem (by omega), List.getElem?_eq_getElem (by omega)] at h1
  injection h1 with h1
  have hp := List.pairwise_iff_getElem.1 tab64_nodup
  by_cases e : a = b
  · omega
  · exfalso
    by_cases e' : a < b
    · exact hp a b (by omega) (by omega) e' h1
    · exact hp b a (by omega) (by omega) (by omega) h1.symm
end Go.Proofs.YtaicjdjfhbmfeaaDoor

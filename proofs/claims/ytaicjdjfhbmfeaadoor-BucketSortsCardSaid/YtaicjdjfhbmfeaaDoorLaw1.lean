/-
  The law package of layer 1: awake, Cut.
-/
import Derived.Test.YtaicjdjfhbmfeaaDoorHex
import Derived.Test.YtaicjdjfhbmfeaaDoorRef4
namespace Go.Proofs.YtaicjdjfhbmfeaaDoor
open Go.RowKit Crv

/-- A new block of strings reads as they are. -/
theorem StrSlice.new {w : World} {t : TypeId} (ls : List (List UInt8)) (cap : Nat) : StrSlice (w.alloc (.cells (ls.map fun l => Value.string (str l)).toArray t)) (.slice (some ⟨w.heap.size, 0, none⟩) ls.length cap) ls :=
  ⟨_, cap, rfl, fun i hi => ⟨w.heap.size, 0, rfl, by
    rw [Nat.zero_add, (Mem.new w t (ls.map fun l => Value.string (str l))).cell, List.getElem?_map, List.getD_eq_getElem?_getD, List.getElem?_eq_getElem hi]
    rfl⟩⟩
theorem Consts.alloc {w : World} (h : Consts w) (o : Obj) : Consts (w.alloc o) := ⟨h.1.alloc o, h.2.alloc o⟩

theorem abc_hex : hexOf (sha [97, 98, 99]) = [98, 97, 55, 56, 49, 54, 98, 102, 56, 102, 48, 49, 99, 102, 101, 97, 52, 49, 52, 49, 52, 48, 100, 101, 53, 100, 97, 101, 50, 50, 50, 51, 98, 48, 48, 51, 54, 49, 97, 51, 57, 54, 49, 55, 55, 97, 57, 99, 98, 52, 49, 48, 102, 102, 54, 49, 102, 50, 48, 48, 49, 53, 97, 100] := by decide +kernel

end Go.Proofs.YtaicjdjfhbmfeaaDoor

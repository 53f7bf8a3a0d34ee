/-
  The law package of layer 1: awake, Cut.
-/
import Derived.Test.YtjbjkkgkefpggaaDoorHex
import Derived.Test.YtjbjkkgkefpggaaDoorRef4
namespace Go.Proofs.YtjbjkkgkefpggaaDoor
open Go.RowKit Crv

/-- A new block of strings reads as they are. -/
theorem StrSlice.new {w : World} {t : TypeId} (ls : List (List UInt8)) (cap : Nat) : StrSlice (w.alloc (.cells (ls.map fun l => Value.string (str l)).toArray t)) (.slice (some ⟨w.heap.size, 0, none⟩) ls.length cap) ls :=
  ⟨_, cap, rfl, fun i hi => ⟨w.heap.size, 0, rfl, by
    rw [Nat.zero_add, (Mem.new w t (ls.map fun l => Value.string (str l))).cell, List.getElem?_map, List.getD_eq_getElem?_getD, List.getElem?_eq_getElem hi]
    rfl⟩⟩
theorem Consts.alloc {w : World} (h : Consts w) (o : Obj) : Consts (w.alloc o) := ⟨h.1.alloc o, h.2.alloc o⟩

theorem abc_hex : hexOf (sha [97, 98, 99]) = [98, 97, 55, 56, 49, 54, 98, 102, 56, 102, 48, 49, 99, 102, 101, 97, 52, 49, 52, 49, 52, 48, 100, 101, 53, 100, 97, 101, 50, 50, 50, 51, 98, 48, 48, 51, 54, 49, 97, 51, 57, 54, 49, 55, 55, 97, 57, 99, 98, 52, 49, 48, 102, 102, 54, 49, 102, 50, 48, 48, 49, 53, 97, 100] := by decide +kernel

set_option maxHeartbeats 1000000 in
set_option maxRecDepth 100000 in
theorem awake1_any (w : World) (hc : Consts w) : Calls Tryd.prog 14 #[] w fun e w' => e = .returned (.bool true) ∧ Below w.heap.size w w' := by
  have HC := Lib.hid hc
  clear hc
  go_enter Tryd.func14, Tryd.ntmps14
  go_wp2_with fail
  refine (new_any _ HC.out).mono ?_
  rintro e w1 ⟨rfl, hh1, hb1, hz1⟩
  clear hh1 hz1
  have HC1 := Lib.hid (HC.out.below hb1)
  go_wp2_with fail
  refine (of_any _ _ [[97, 98, 99]] (HC1.out.alloc _) (StrSlice.new [[97, 98, 99]] 1) (by simp) (by simp)).mono ?_
  rintro e w2 ⟨rfl, hb2⟩
  rw [show ([[97, 98, 99]] : List (List UInt8)).flatten = [97, 98, 99] from rfl]
  have hb12 : Below w.heap.size w w2 := (hb1.alloc hb1.size _).trans (hb2.mono (by simpa using Nat.le_succ_of_le hb1.size))
  clear hb2 hb1
  go_wp2_with fail
  refine (hex_any (sha [97, 98, 99]) _ rfl).mono ?_
  rintro e w3 ⟨rfl, hb3⟩
  rw [abc_hex]
  go_wp2
  go_ret
  exact ⟨rfl, hb12.trans (hb3.mono hb12.size)⟩

set_option maxHeartbeats 400000 in
theorem cut_any (l : List UInt8) (n : Nat) (w : World) :
    Calls Tryd.prog 12 #[.string (str l), .int .i64 n] w fun e w' => e = .returned (.string (str (l.take n))) ∧ w = w' := by
  by_cases h : n < l.length
  · have hsl := fun W => slice_str_to (P := Tryd.prog) Tryd.underlying9 l .i64 n (by omega) W
    have hd : (n : Int) < (l.length : Int) := by omega
    go_enter Tryd.func12, Tryd.ntmps12
    go_wp2
    go_ret
    exact ⟨rfl, rfl⟩
  · have hd : ¬ (n : Int) < (l.length : Int) := by omega
    have e : l.take n = l := List.take_of_length_le (by omega)
    rw [e]
    go_enter Tryd.func12, Tryd.ntmps12
    go_wp2
    go_ret
    exact ⟨rfl, rfl⟩
end Go.Proofs.YtjbjkkgkefpggaaDoor

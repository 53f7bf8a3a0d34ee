/-
  What every seat's walks begin with: the tactics' imports, slices of texts, Cut and Name of the laws.
-/
import Derived.Test.YtblfekecmahagaaDoorChecked
import Derived.Test.YtblfekecmahagaaDoorStr2
import Derived.Test.YtblfekecmahagaaDoorApp
import Derived.Test.YtblfekecmahagaaDoorEq
import Derived.WalkKit
import Derived.WalkLawsBesides
import Derived.WalkSpells
import Derived.Outline
import Derived.IntWalk
import Derived.Laws.BitsAllLaws
import Derived.Laws.ResultCell
import Derived.Laws.Concat
import Derived.Deep.QuietTactic
import Derived.Deep.Light
import Derived.BigQuiet
import Derived.Lib.Hide
import Derived.LoopTactic
import Derived.RegionTactic
import Derived.Deep.RegionHeld3
import Derived.Deep.MidRow
import Derived.StillTailTactics
namespace Go.Proofs.YtblfekecmahagaaDoor
open Go.RowKit Crv

abbrev tx (l : List UInt8) : Value := .string (str l)
/-- A slice value that reads as a list of texts. -/
def Txs (w : World) (v : Value) (ls : List (List UInt8)) : Prop := ∃ a cap, v = .slice a ls.length cap ∧ ∀ i, i < ls.length → ∃ b off, a = some ⟨b, off, none⟩ ∧ w.cell? ⟨b, off + i, none⟩ = some (tx (ls.getD i []))
theorem Txs.below {w w' : World} {v : Value} {ls : List (List UInt8)} (h : Txs w v ls) (hb : Below w.heap.size w w') : Txs w' v ls := by
  obtain ⟨a, cap, hv, hc⟩ := h
  refine ⟨a, cap, hv, fun i hi => ?_⟩
  obtain ⟨b', off, ha, hcell⟩ := hc i hi
  exact ⟨b', off, ha, (hb.cell (p := ⟨b', off + i, none⟩) (World.block_lt_of_cell? w _ hcell)).trans hcell⟩
theorem Txs.new {w : World} {t : TypeId} (ls : List (List UInt8)) (cap : Nat) : Txs (w.alloc (.cells (ls.map tx).toArray t)) (.slice (some ⟨w.heap.size, 0, none⟩) ls.length cap) ls :=
  ⟨_, cap, rfl, fun i hi => ⟨w.heap.size, 0, rfl, by
    rw [Nat.zero_add, (Mem.new w t (ls.map tx)).cell, List.getElem?_map, List.getD_eq_getElem?_getD, List.getElem?_eq_getElem hi]
    rfl⟩⟩
theorem Txs.of_owns {w : World} {base : Nat} {e : TypeId} {v : Value} {sh : List (List UInt8)} (h : Owns w base e v (sh.map tx)) : Txs w v sh := by
  obtain ⟨a, cap, hv, hc⟩ := h.reads
  rw [List.length_map] at hv hc
  refine ⟨a, cap, hv, fun i hi => ?_⟩
  obtain ⟨b, off, ha, hcell⟩ := hc i hi
  refine ⟨b, off, ha, ?_⟩
  rw [hcell, List.getElem?_map, List.getElem?_eq_getElem hi, List.getD_eq_getElem?_getD, List.getElem?_eq_getElem hi]
  rfl
theorem oneBytes (l : List UInt8) : ∀ v ∈ l.map byteV, v.oneCell' = true := by
  intro v hv
  obtain ⟨x, _, rfl⟩ := List.mem_map.1 hv
  rfl
theorem belowThen {a w w' : World} (h : Below a.heap.size a w) (h' : Below w.heap.size w w') : Below a.heap.size a w' := h.trans (h'.mono h.size)
theorem belowSelf (w : World) (o : Obj) : Below w.heap.size w (w.alloc o) := (Below.refl _ _).alloc (Nat.le_refl _) o
/-- A block that is younger than the world w0 may change. -/
theorem belowNew {w0 w w' : World} {s : Nat} (h : Below w0.heap.size w0 w) (hg : w.grownBy w' (some s)) (hs : w0.heap.size ≤ s) : Below w0.heap.size w0 w' :=
  ⟨hg.os.trans h.os, hg.tape.trans h.tape, hg.output.trans h.output, Nat.le_trans h.size hg.size, fun k hk => (hg.block k (Nat.lt_of_lt_of_le hk h.size) (fun e => by injection e with e; omega)).trans (h.block k hk)⟩
theorem grownOfBelow {w w' : World} {row : Option Nat} (hb : Below w.heap.size w w') : w.grownBy w' row := ⟨hb.os, hb.tape, hb.output, hb.size, fun k hk _ => hb.block k hk⟩
theorem grownRefl (w : World) (row : Option Nat) : w.grownBy w row := ⟨rfl, rfl, rfl, Nat.le_refl _, fun _ _ _ => rfl⟩

set_option maxHeartbeats 400000 in
theorem cutB (l : List UInt8) (k : Int) (hk : 0 ≤ k) (w : World) :
    Calls Tryd.prog 30 #[.string (str l), .int .i64 k] w fun e w' => e = .returned (.string (str (l.take k.toNat))) ∧ w = w' := by
  obtain ⟨n, rfl⟩ := Int.eq_ofNat_of_zero_le hk
  simp only [Int.toNat_natCast]
  by_cases h : n < l.length
  · have hsl := fun W => slice_str_to (P := Tryd.prog) Tryd.underlying9 l .i64 n (by omega) W
    have hd : (n : Int) < (l.length : Int) := by omega
    go_enter Tryd.func30, Tryd.ntmps30
    go_wp2
    go_ret
    exact ⟨rfl, rfl⟩
  · have hd : ¬ (n : Int) < (l.length : Int) := by omega
    have e : l.take n = l := List.take_of_length_le (by omega)
    rw [e]
    go_enter Tryd.func30, Tryd.ntmps30
    go_wp2
    go_ret
    exact ⟨rfl, rfl⟩
end Go.Proofs.YtblfekecmahagaaDoor

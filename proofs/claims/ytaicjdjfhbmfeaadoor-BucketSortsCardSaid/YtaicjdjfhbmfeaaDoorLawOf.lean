/-
  HashOf: the walk.
-/
import Derived.Test.YtaicjdjfhbmfeaaDoorLawMore
namespace Go.Proofs.YtaicjdjfhbmfeaaDoor
open Go.RowKit Crv
attribute [local go_sem] ByteArray.mk_append_mk

/-- What the last statement of a law reads: a digest in memory, the tables. -/
def We_rr (B : Nat) (d : List UInt8) (w' : World) : Prop := w'.rangeAt B 0 (d.map byteV) ∧ Mem w' B 35 (d.map byteV) ∧ Consts w'
theorem keeps_mc {W w3 : World} {B : Nat} {t : TypeId} {cs : List Value} (h : W.rangeAt B 0 cs ∧ Mem W B t cs ∧ Consts W) (hb : Below W.heap.size W w3) : w3.rangeAt B 0 cs ∧ Mem w3 B t cs ∧ Consts w3 :=
  ⟨(h.2.1.below hb h.2.1.lt).range 0 _ ⟨[], by simp⟩, h.2.1.below hb h.2.1.lt, h.2.2.below hb⟩
theorem hex_piece (n : Nat) (h : n < 16) : ((hexDigits.take (n + 1)).drop n) = [hexd n] := by
  have : ∀ j : Fin 16, ((hexDigits.take (j.val + 1)).drop j.val) = [hexd j.val] := by decide
  exact this ⟨n, h⟩

/-- string(b[:]) of an array's bytes. -/
theorem bytes_string {P : Program} {w : World} {g n : Nat} {t src dst e : TypeId} {l : List UInt8} (h : Mem w g t (l.map byteV)) (hs : P.underlying src = some (.slice e)) (he : P.underlying e = some (.int .u8)) (hd : P.underlying dst = some .string) (hn : l.length = n) :
    (convert src dst (.slice (some ⟨g, 0, none⟩) n n)).run P w = .ok (.string (str l)) w := by
  subst hn
  have hnums : strOfNums (l.map fun b => (b.toNat : Int)) = str l := by
    simp only [strOfNums, List.map_map, str]
    congr 2
    have : ((fun n : Int => UInt8.ofNat n.toNat) ∘ fun b : UInt8 => (b.toNat : Int)) = id := by
      funext b; simp
    rw [this, List.map_id]
  have := run_convert_bytes_arg w src e hs he g 0 l.length l.length (l.map fun b => (b.toNat : Int)) (by simp) (fun i hi => by
    rw [Nat.zero_add, h.cell, List.getElem?_map, List.getElem?_eq_getElem hi, List.getD_eq_getElem?_getD, List.getElem?_map, List.getElem?_eq_getElem hi]
    rfl) dst hd
  rw [this, hnums]

theorem below_then {a w w' : World} (h : Below a.heap.size a w) (h' : Below w.heap.size w w') : Below a.heap.size a w' := h.trans (h'.mono h.size)

end Go.Proofs.YtaicjdjfhbmfeaaDoor

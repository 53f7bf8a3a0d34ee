/-
  Package oid: Closer.
-/
import Derived.Test.YtaicjdjfhbmfeaaDoorOid5
namespace Go.Proofs.YtaicjdjfhbmfeaaDoor
open Go.RowKit Crv

abbrev TI : TypeId := 36
theorem ld_id (p : Value) : Instr.loadAt TI p = ldRow TI p := rfl
theorem ld_id_at {w : World} {b : Nat} {l : List UInt8} (h : Mem w b TI (l.map byteV)) (hl : l.length = 32) : (ldRow TI (.pointer (some ⟨b, 0, none⟩))).run Tryd.prog w = .ok (.agg (l.map byteV).toArray) w := by
  have := ldRow_at (P := Tryd.prog) Tryd.underlying36 (by kernel_rfl) w b 0 (h.hasRow 0 32 (by simp [hl]))
  rw [this, h.row 0 32 (l.map byteV) ⟨[], by simp⟩ (by simp [hl])]
/-- Three names in memory. -/
def Three (w : World) (b : Nat) (g x y : List UInt8) : Prop := Mem w b TI (g.map byteV) ∧ Mem w (b + 1) TI (x.map byteV) ∧ Mem w (b + 1 + 1) TI (y.map byteV)
theorem Three.below {w w' : World} {b : Nat} {g x y : List UInt8} (h : Three w b g x y) (hb : Below w.heap.size w w') : Three w' b g x y := ⟨h.1.below hb h.1.lt, h.2.1.below hb h.2.1.lt, h.2.2.below hb h.2.2.lt⟩
end Go.Proofs.YtaicjdjfhbmfeaaDoor

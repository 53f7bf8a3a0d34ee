/-
  Package oid: Compare (by bytes.Compare, by internal/bytealg.Compare, which the model answers in place).
-/
import Derived.Test.YtaicjdjfhbmfeaaDoorOid2
import Derived.Laws.Externs
namespace Go.Proofs.YtaicjdjfhbmfeaaDoor
open Go.RowKit Crv

theorem run_loadBytes {P : Program} {w : World} {g : Nat} {t : TypeId} {cs : List Value} (hm : Mem w g t cs) : ∀ (l : List UInt8) (off : Nat) (acc : List UInt8), l.map byteV <+: cs.drop off →
    (Extern.Bytes.loadBytes ⟨g, off, none⟩ l.length (str acc)).run P w = .ok (str (acc ++ l)) w
  | [], off, acc, _ => by simp [Extern.Bytes.loadBytes]
  | b :: l, off, acc, h => by
    have hr := hm.range off _ h
    have h0 := hr 0 (byteV b) rfl
    have hl : (load ⟨g, off, none⟩).run P w = .ok (byteV b) w := by
      have h1 : w.cell? ⟨g, off, none⟩ = some (byteV b) := h0
      simp [go_sem, h1]
    have hn : l.map byteV <+: cs.drop (off + 1) := by
      obtain ⟨r, hr'⟩ := h
      refine ⟨r, ?_⟩
      rw [← List.drop_drop, ← hr']
      rfl
    have ih := run_loadBytes (P := P) hm l (off + 1) (acc ++ [b]) hn
    have hp : (str acc).push ((b.toNat : Int).toNat.toUInt8) = str (acc ++ [b]) := by
      simp [str, ByteArray.push]
    simp only [List.length_cons, Extern.Bytes.loadBytes, Sem.run_bind, hl, Result.andThen_ok]
    rw [hp, Go.WideShapes.add_plain, ih, List.append_assoc]
    rfl

/-- What the model's Compare says of two names. -/
def cmpOf (x y : List UInt8) : Int := Extern.BytealgCompare.cmp (str x) (str y)
end Go.Proofs.YtaicjdjfhbmfeaaDoor

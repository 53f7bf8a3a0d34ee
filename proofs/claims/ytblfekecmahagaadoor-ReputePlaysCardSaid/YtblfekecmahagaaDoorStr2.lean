/-
  More pieces of strings.
-/
import Derived.Test.YtblfekecmahagaaDoorStr
namespace Crv
open Go Go.RowKit
theorem slice_str_mid {P : Program} {t : TypeId} (h : P.underlying t = some .string) (l : List UInt8) (k k' : IntKind) (a b : Nat) (hab : a ≤ b) (hb : b ≤ l.length) (w : World) : (Instr.slice t (.string (str l)) (some (.int k a)) (some (.int k' b)) none).run P w = .ok (.string (str ((l.take b).drop a))) w := by
  simp [go_sem, h, hab, hb, extract_str]
theorem slice_str_to {P : Program} {t : TypeId} (h : P.underlying t = some .string) (l : List UInt8) (k : IntKind) (b : Nat) (hb : b ≤ l.length) (w : World) : (Instr.slice t (.string (str l)) none (some (.int k b)) none).run P w = .ok (.string (str (l.take b))) w := by
  simp [go_sem, h, hb, extract_str]
end Crv

/-
  Maps keyed by numbers and by names, in memory.
-/
import Derived.Test.YtbodoodgdojgoaaMap0
import Derived.Test.YtbodoodgdojgoaaFra
import Derived.WalkArith
import Derived.DeepKeys5
import Derived.Carry
namespace Go.Proofs.Ytbodoodgdojgoaa
open Go.RowKit Go.Maps Crv

abbrev nmV (x : List UInt8) : Value := .agg (x.map byteV).toArray
/-- A number of a map's. -/
def In64 (n : Int) : Prop := (Lit.int .i64 n).wf = true
theorem in64_of {n : Int} (h : -9223372036854775808 ≤ n ∧ n ≤ 9223372036854775807) : In64 n := WalkArith.wf_i64 h
def eI : Enc Int Int := ⟨fun a => .int .i64 a, fun u => .lit (.int .i64 u), fun a b h => by injection h, fun _ => trivial⟩
theorem lt_eI (a b : Int) : eI.lt a b = decide (a < b) := rfl
theorem keyedI : Keyed Try.prog Tin := int_keyed Try.underlying3
theorem zeroI (w : World) : (zeroValue Tin).run Try.prog w = .ok (.int .i64 0) w := by kernel_rfl
abbrev MpI (W : World) (b : Nat) (l : List (Int × Int)) : Prop := MpS Try.prog Tin (plainElem Try.prog Tin) eI W b l
theorem keyI_of {a : Int} (ha : In64 a) : keyOf Try.prog Tin (iv a) = some (eI.ek a) := keyOf_int_mk Try.underlying3 ha
theorem elemI_of {u : Int} (hu : In64 u) : plainElem (H := Unit) Try.prog Tin (iv u) = some (eI.ev u, []) := plainElem_int Try.underlying3 hu
section
variable {W W' : World} {b : Nat} {l : List (Int × Int)}
end
theorem laidOut : laidOutB Try.prog = true := by kernel_rfl
theorem bytes_key : ∀ x : List UInt8, keyBytes (x.map fun c => Lit.int .u8 c.toNat) = x
  | [] => rfl
  | c :: r => by
    have ih := bytes_key r
    unfold keyBytes at ih ⊢
    rw [List.map_cons, List.flatMap_cons, ih]
    have : Lit.keyBytes (.int .u8 (c.toNat : Int)) = [c] := by
      have h1 : ((c.toNat : Int) % 2 ^ IntKind.u8.bits).toNat = c.toNat := by
        have := c.toNat_lt
        have e : (2 : Int) ^ IntKind.u8.bits = 256 := by decide
        rw [e]; omega
      show bytesBE (IntKind.u8.bits / 8) _ = _
      rw [h1]
      have e : IntKind.u8.bits / 8 = 1 := by decide
      rw [e]
      simp [bytesBE, bytesLE]
    rw [this]; rfl
theorem mapM_some {α β : Type} (f : α → Option β) (g : α → β) : ∀ l : List α, (∀ a ∈ l, f a = some (g a)) → l.mapM f = some (l.map g)
  | [], _ => rfl
  | a :: r, h => by
    rw [List.mapM_cons, h a (by simp), mapM_some f g r fun b hb => h b (by simp [hb])]
    rfl
/-- How a map of maps' element is told: by its block. -/
def mapElem : Value → Option (DataW Unit × List MemPlace)
  | .map (some b) => some (.lit (.int .i64 (b : Int)), [])
  | .map none => some (.nil, [])
  | _ => none
def eN : Enc (List UInt8) Nat := ⟨fun x => .string x, fun b => .lit (.int .i64 (b : Int)), fun a b h => by injection h, fun _ => trivial⟩
theorem lt_eN (a b : List UInt8) : eN.lt a b = bytesBefore a b := rfl
/-- The map that a look-up answers. -/
def mapV (o : Option Nat) : Value := .map o
theorem mapElem_inv {v : Value} {o : Option Nat} {ps : List MemPlace} (h : mapElem v = some ((o.map eN.ev).getD .nil, ps)) : v = .map o := by
  unfold mapElem at h
  split at h
  · rename_i b
    cases o with
    | none => simp at h
    | some c =>
      simp only [Option.map_some, Option.getD_some, eN, Option.some.injEq, Prod.mk.injEq, DataW.lit.injEq, Lit.int.injEq, true_and] at h
      have : b = c := by have := h.1; omega
      rw [this]
  · cases o with
    | none => rfl
    | some c => simp [eN] at h
  · cases h
section
variable {W W' : World} {b : Nat} {l : List (List UInt8 × Nat)}
end
end Go.Proofs.Ytbodoodgdojgoaa

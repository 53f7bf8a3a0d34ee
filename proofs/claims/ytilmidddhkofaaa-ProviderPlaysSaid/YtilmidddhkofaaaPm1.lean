/-
  Maps keyed by numbers and by names, in memory.
-/
import Derived.Test.YtilmidddhkofaaaMap0
import Derived.Test.YtilmidddhkofaaaFra
import Derived.WalkArith
import Derived.DeepKeys5
import Derived.Carry
namespace Go.Proofs.Ytilmidddhkofaaa
open Go.RowKit Go.Maps Crv

abbrev Tmii : TypeId := 53
abbrev Tmim : TypeId := 55
abbrev nmV (x : List UInt8) : Value := .agg (x.map byteV).toArray
/-- A number of a map's. -/
def In64 (n : Int) : Prop := (Lit.int .i64 n).wf = true
theorem in64_of {n : Int} (h : -9223372036854775808 ≤ n ∧ n ≤ 9223372036854775807) : In64 n := WalkArith.wf_i64 h
def eI : Enc Int Int := ⟨fun a => .int .i64 a, fun u => .lit (.int .i64 u), fun a b h => by injection h, fun _ => trivial⟩
theorem lt_eI (a b : Int) : eI.lt a b = decide (a < b) := rfl
theorem keyedI : Keyed Try.prog Tin := int_keyed Try.underlying3
theorem zeroI (w : World) : (zeroValue Tin).run Try.prog w = .ok (.int .i64 0) w := by kernel_rfl
abbrev MpI (W : World) (b : Nat) (l : List (Int × Int)) : Prop := MpS Try.prog Tin (plainElem Try.prog Tin) eI W b l
theorem keyI_of {a : Int} (ha : In64 a) : keyOf Try.prog Tin (iv a) = some (eI.ek a) := keyOf_int_mk Try.underlying3 ha
theorem elemI_of {u : Int} (hu : In64 u) : plainElem (H := Unit) Try.prog Tin (iv u) = some (eI.ev u, []) := plainElem_int Try.underlying3 hu
section
variable {W W' : World} {b : Nat} {l : List (Int × Int)}
theorem MpI.look (h : MpI W b l) {a : Int} (ha : In64 a) : (Instr.lookup Tmii (.map (some b)) (iv a) false).run Try.prog W = .ok (iv ((getK a l).getD 0)) W := by
  obtain ⟨z, hrun, hat, _⟩ := World.ownsMap.lookup_int h keyedI Try.underlying53 Try.underlying3 (zeroI W) (keyI_of ha)
  rw [Enc.atKey] at hat
  rw [hrun]
  cases hg : getK a l with
  | none =>
    rw [hg] at hat
    simp only [Option.map_none, Option.getD_none, DataW.lit.injEq, Lit.int.injEq, true_and] at hat
    rw [hat]; rfl
  | some u =>
    rw [hg] at hat
    simp only [Option.map_some, Option.getD_some, eI, DataW.lit.injEq, Lit.int.injEq, true_and] at hat
    rw [hat]; rfl
theorem MpI.look_ok (h : MpI W b l) {a : Int} (ha : In64 a) : ∃ v, (Instr.lookup Tmii (.map (some b)) (iv a) true).run Try.prog W = .ok (.tuple #[v, .bool (getK a l).isSome]) W := by
  obtain ⟨v, ps, hrun, _⟩ := World.ownsMap.look_ok h keyedI Try.underlying53 (zeroI W) (elemI_of (u := 0) (in64_of (by omega))) (keyI_of ha)
  rw [Enc.has] at hrun
  exact ⟨v, hrun⟩
theorem MpI.put (h : MpI W b l) {a u : Int} (ha : In64 a) (hu : In64 u) (hn : l.length ≤ 1000000) : ∃ W', (Instr.mapUpdate Tmii (.map (some b)) (iv a) (iv u)).run Try.prog W = .ok () W' ∧ MpI W' b (eI.set a u l) ∧ W.grownBy W' (some b) := by
  obtain ⟨W', hrun, ho, hg⟩ := World.ownsMap.update h keyedI Try.underlying53 (by simp only [maxLen]; omega) (keyI_of ha) (elemI_of hu)
  rw [Enc.put] at ho
  exact ⟨W', hrun, MpS.tight ho, hg⟩
theorem MpI.len (h : MpI W b l) (ty : TypeId) : (Builtin.len_ #[Tmii] ty #[.map (some b)]).run Try.prog W = .ok (iv l.length) W := by
  have := World.ownsMap.len h Try.underlying53 ty
  rwa [Enc.size] at this
theorem MpI.drop (h : MpI W b l) {a : Int} (ha : In64 a) (ty : TypeId) : ∃ W', (Builtin.delete_ #[Tmii, Tin] ty #[.map (some b), iv a]).run Try.prog W = .ok (.tuple #[]) W' ∧ MpI W' b (delK a l) ∧ W.grownBy W' (some b) := by
  obtain ⟨W', hrun, ho, hg⟩ := World.ownsMap.drop h keyedI Try.underlying53 (keyI_of ha) ty
  rw [Enc.del] at ho
  exact ⟨W', hrun, MpS.tight ho, hg.grown⟩
end
theorem keyTI : Try.prog.keyType TI = true := by kernel_rfl
theorem laidOut : laidOutB Try.prog = true := by kernel_rfl
theorem keyedN : Keyed Try.prog TI := Keyed.of_law (deep_law_gate laidOut (of_decide_eq_true (by kernel_rfl)) (of_decide_eq_true (by kernel_rfl)) keyTI (by kernel_rfl))
theorem bytes_key : ∀ x : List UInt8, keyBytes (x.map fun c => Lit.int .u8 c.toNat) = x
  | [] => rfl
  | c :: r => by
    have ih := bytes_key r
    unfold keyBytes at ih ⊢
    rw [List.map_cons, List.flatMap_cons, ih]
    have : Lit.keyBytes (.int .u8 (c.toNat : Int)) = [c] := by
      have h1 : ((c.toNat : Int) % 2 ^ IntKind.u8.bits).toNat = c.toNat := by
        have := c.toNat_lt
        have e : (2 : Int) ^ IntKind.u8.bits = 256 := by decide
        rw [e]; omega
      show bytesBE (IntKind.u8.bits / 8) _ = _
      rw [h1]
      have e : IntKind.u8.bits / 8 = 1 := by decide
      rw [e]
      simp [bytesBE, bytesLE]
    rw [this]; rfl
theorem mapM_some {α β : Type} (f : α → Option β) (g : α → β) : ∀ l : List α, (∀ a ∈ l, f a = some (g a)) → l.mapM f = some (l.map g)
  | [], _ => rfl
  | a :: r, h => by
    rw [List.mapM_cons, h a (by simp), mapM_some f g r fun b hb => h b (by simp [hb])]
    rfl
theorem nm_lits (x : List UInt8) (hx : x.length = 32) : Try.prog.keyLits (Try.prog.types.size + 1) TI (x.map byteV) = some (x.map fun c => Lit.int .u8 c.toNat) := by
  obtain ⟨n, hn⟩ : ∃ n, Try.prog.types.size = n + 1 := ⟨Try.prog.types.size - 1, by kernel_rfl⟩
  rw [hn]
  have hc : Try.prog.cellsOf TI = 32 := by kernel_rfl
  have he : Try.prog.cellsOf 5 = 1 := by kernel_rfl
  rw [Program.keyLits.eq_def]
  simp only [Try.underlying30, List.length_map, hx, hc, he, if_true]
  have hm : ∀ i ∈ List.range 32, Try.prog.keyLits (n + 1) 5 (((x.map byteV).drop (i * 1)).take 1) = some [Lit.int .u8 ((x.getD i 0).toNat : Int)] := by
    intro i hi
    have hi' : i < x.length := by rw [hx]; simpa using hi
    rw [Nat.mul_one, List.drop_eq_getElem_cons (by simpa using hi'), List.take_succ_cons, List.take_zero, List.getElem_map, Program.keyLits.eq_def]
    have hw : (Lit.int .u8 (x[i].toNat : Int)).wf = true := by
      have := x[i].toNat_lt
      have e1 : IntKind.u8.min = 0 := by decide
      have e2 : IntKind.u8.max = 255 := by decide
      simp [Lit.wf, e1, e2]
      omega
    simp only [Try.underlying5]
    rw [if_pos ⟨trivial, hw⟩, List.getD_eq_getElem?_getD, List.getElem?_eq_getElem hi']
    rfl
  have hmm : (List.range 32).mapM (fun i => Try.prog.keyLits (n + 1) 5 (((x.map byteV).drop (i * 1)).take 1)) = some ((List.range 32).map fun i => [Lit.int .u8 ((x.getD i 0).toNat : Int)]) := mapM_some _ _ _ hm
  rw [hmm]
  simp only [Option.map_some, Option.some.injEq]
  have hf : ∀ l : List Nat, (l.map fun i => [Lit.int .u8 ((x.getD i 0).toNat : Int)]).flatten = l.map fun i => Lit.int .u8 ((x.getD i 0).toNat : Int) := fun l => by
    induction l with
    | nil => rfl
    | cons a r ih => rw [List.map_cons, List.flatten_cons, ih]; rfl
  rw [hf]
  refine List.ext_getElem (by simp [hx]) fun i h1 h2 => ?_
  have hi : i < x.length := by simpa using h2
  simp [List.getD_eq_getElem?_getD, List.getElem?_eq_getElem hi]
theorem keyN_of (x : List UInt8) (hx : x.length = 32) : keyOf Try.prog TI (nmV x) = some (.string x) := by
  unfold keyOf
  have hf : (nmV x).formed Try.prog TI = true := by
    have hc : Try.prog.cellsOf TI = 32 := by kernel_rfl
    simp [Value.formed, Try.underlying30, hc, hx]
  simp only [Try.underlying30, keyTI, hf, Bool.and_self, if_true]
  show Option.map _ (Try.prog.keyLits (Try.prog.types.size + 1) TI (nmV x).cells.toList) = _
  have hc : (nmV x).cells.toList = x.map byteV := rfl
  rw [hc, nm_lits x hx, Option.map_some, bytes_key]
/-- How a map of maps' element is told: by its block. -/
def mapElem : Value → Option (DataW Unit × List MemPlace)
  | .map (some b) => some (.lit (.int .i64 (b : Int)), [])
  | .map none => some (.nil, [])
  | _ => none
def eN : Enc (List UInt8) Nat := ⟨fun x => .string x, fun b => .lit (.int .i64 (b : Int)), fun a b h => by injection h, fun _ => trivial⟩
theorem lt_eN (a b : List UInt8) : eN.lt a b = bytesBefore a b := rfl
/-- A map of maps by names: each name's block. -/
abbrev MpN (W : World) (b : Nat) (l : List (List UInt8 × Nat)) : Prop := MpS Try.prog TI mapElem eN W b l
/-- The map that a look-up answers. -/
def mapV (o : Option Nat) : Value := .map o
theorem zeroM (w : World) : (zeroValue Tmii).run Try.prog w = .ok (.map none) w := by kernel_rfl
theorem mapElem_inv {v : Value} {o : Option Nat} {ps : List MemPlace} (h : mapElem v = some ((o.map eN.ev).getD .nil, ps)) : v = .map o := by
  unfold mapElem at h
  split at h
  · rename_i b
    cases o with
    | none => simp at h
    | some c =>
      simp only [Option.map_some, Option.getD_some, eN, Option.some.injEq, Prod.mk.injEq, DataW.lit.injEq, Lit.int.injEq, true_and] at h
      have : b = c := by have := h.1; omega
      rw [this]
  · cases o with
    | none => rfl
    | some c => simp [eN] at h
  · cases h
section
variable {W W' : World} {b : Nat} {l : List (List UInt8 × Nat)}
theorem MpN.look (h : MpN W b l) {x : List UInt8} (hx : x.length = 32) : (Instr.lookup Tmim (.map (some b)) (nmV x) false).run Try.prog W = .ok (.map (getK x l)) W := by
  obtain ⟨v, ps, hrun, hv⟩ := World.ownsMap.lookup h keyedN Try.underlying55 (zeroM W) (zd := .nil) (zp := []) rfl (keyN_of x hx)
  rw [show (Lit.string x) = eN.ek x from rfl, Enc.atKey] at hv
  rw [hrun, mapElem_inv hv]
theorem MpN.look_ok (h : MpN W b l) {x : List UInt8} (hx : x.length = 32) : (Instr.lookup Tmim (.map (some b)) (nmV x) true).run Try.prog W = .ok (.tuple #[.map (getK x l), .bool (getK x l).isSome]) W := by
  obtain ⟨v, ps, hrun, hv⟩ := World.ownsMap.look_ok h keyedN Try.underlying55 (zeroM W) (zd := .nil) (zp := []) rfl (keyN_of x hx)
  rw [show (Lit.string x) = eN.ek x from rfl, Enc.atKey] at hv
  rw [show (Lit.string x) = eN.ek x from rfl, Enc.has] at hrun
  rw [hrun, mapElem_inv hv]
theorem MpN.put (h : MpN W b l) {x : List UInt8} {u : Nat} (hx : x.length = 32) (hn : l.length ≤ 1000000) : ∃ W', (Instr.mapUpdate Tmim (.map (some b)) (nmV x) (.map (some u))).run Try.prog W = .ok () W' ∧ MpN W' b (eN.set x u l) ∧ W.grownBy W' (some b) := by
  obtain ⟨W', hrun, ho, hg⟩ := World.ownsMap.update (d := eN.ev u) (ps := []) h keyedN Try.underlying55 (by simp only [maxLen]; omega) (keyN_of x hx) (show mapElem (.map (some u)) = some (eN.ev u, []) from rfl)
  rw [show (Lit.string x) = eN.ek x from rfl, Enc.put] at ho
  exact ⟨W', hrun, MpS.tight ho, hg⟩
theorem MpN.len (h : MpN W b l) (ty : TypeId) : (Builtin.len_ #[Tmim] ty #[.map (some b)]).run Try.prog W = .ok (iv l.length) W := by
  have := World.ownsMap.len h Try.underlying55 ty
  rwa [Enc.size] at this
end
end Go.Proofs.Ytilmidddhkofaaa

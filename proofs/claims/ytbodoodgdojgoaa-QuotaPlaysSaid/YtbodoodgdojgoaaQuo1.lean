/-
  Quota: a table of shares in memory.
-/
import Derived.Test.YtbodoodgdojgoaaQuo0
import Derived.Test.YtbodoodgdojgoaaPm1
namespace Go.Proofs.Ytbodoodgdojgoaa
open Go.RowKit Go.Maps Crv

abbrev Tsh : TypeId := 48
abbrev Tms : TypeId := 44
abbrev Tqu : TypeId := 46
abbrev shV (p : Int × Int) : Value := .agg #[iv p.1, iv p.2]
open Classical in
/-- How a share that a map keeps reads. -/
noncomputable def shElem (v : Value) : Option (DataW Unit × List MemPlace) := if h : ∃ p : Int × Int, v = shV p then some (eS.ev h.choose, []) else none
theorem shV_inj {p q : Int × Int} (h : shV p = shV q) : p = q := by
  injection h with h
  have h2 := List.toArray_inj h
  injection h2 with h3 h4
  injection h4 with h5 _
  injection h3 with _ h3
  injection h5 with _ h5
  exact Prod.ext h3 h5
theorem eS_inj {p q : Int × Int} (h : eS.ev p = eS.ev q) : p = q := by
  unfold eS at h
  simp only [DataW.agg.injEq, List.cons.injEq, DataW.lit.injEq, Lit.int.injEq, true_and, and_true] at h
  exact Prod.ext h.1 h.2
theorem shElem_mk (p : Int × Int) : shElem (shV p) = some (eS.ev p, []) := by
  have h : ∃ q : Int × Int, shV p = shV q := ⟨p, rfl⟩
  unfold shElem
  rw [dif_pos h, ← shV_inj h.choose_spec]
theorem shElem_inv {v : Value} {p : Int × Int} {ps : List MemPlace} (h : shElem v = some (eS.ev p, ps)) : v = shV p := by
  unfold shElem at h
  split at h
  · rename_i hx
    simp only [Option.some.injEq, Prod.mk.injEq] at h
    rw [hx.choose_spec, eS_inj h.1]
  · cases h
abbrev MpH (W : World) (b : Nat) (l : SHt) : Prop := MpS Try.prog Tin shElem eS W b l
theorem zeroS (w : World) : (zeroValue Tsh).run Try.prog w = .ok (shV (0, 0)) w := by kernel_rfl
theorem getS (o : Option (Int × Int)) : (o.map eS.ev).getD (eS.ev (0, 0)) = eS.ev (o.getD (0, 0)) := by cases o <;> rfl
theorem keyS_of {a : Int} (ha : In64 a) : keyOf Try.prog Tin (iv a) = some (eS.ek a) := keyOf_int_mk Try.underlying3 ha
section
variable {W W' : World} {b : Nat} {l : SHt}
theorem MpH.look (h : MpH W b l) {a : Int} (ha : In64 a) : (Instr.lookup Tms (.map (some b)) (iv a) false).run Try.prog W = .ok (shV ((getK a l).getD (0, 0))) W := by
  obtain ⟨v, ps, hrun, hv⟩ := World.ownsMap.lookup h keyedI Try.underlying44 (zeroS W) (shElem_mk (0, 0)) (keyS_of ha)
  rw [Enc.atKey, getS] at hv
  rw [hrun, shElem_inv hv]
theorem MpH.look_ok (h : MpH W b l) {a : Int} (ha : In64 a) : (Instr.lookup Tms (.map (some b)) (iv a) true).run Try.prog W = .ok (.tuple #[shV ((getK a l).getD (0, 0)), .bool (getK a l).isSome]) W := by
  obtain ⟨v, ps, hrun, hv⟩ := World.ownsMap.look_ok h keyedI Try.underlying44 (zeroS W) (shElem_mk (0, 0)) (keyS_of ha)
  rw [Enc.atKey, getS] at hv
  rw [Enc.has] at hrun
  rw [hrun, shElem_inv hv]
theorem MpH.put (h : MpH W b l) {a : Int} (u : Int × Int) (ha : In64 a) (hn : l.length ≤ 1000000) : ∃ W', (Instr.mapUpdate Tms (.map (some b)) (iv a) (shV u)).run Try.prog W = .ok () W' ∧ MpH W' b (eS.set a u l) ∧ W.grownBy W' (some b) := by
  obtain ⟨W', hrun, ho, hg⟩ := World.ownsMap.update h keyedI Try.underlying44 (by simp only [maxLen]; omega) (keyS_of ha) (shElem_mk u)
  rw [Enc.put] at ho
  exact ⟨W', hrun, MpS.tight ho, hg⟩
end
/-- A quota in memory: its block q, its map's block b. -/
structure Qv (w : World) (q b : Nat) (each most : Int) (T : SHt) : Prop where
  m : Mem w q Tqu [iv each, iv most, .map (some b)]
  t : MpH w b T
  rt : RtQ each most
  ok : OkQ most T
  len : T.length ≤ 100000
section
variable {w w' : World} {q b : Nat} {each most : Int} {T : SHt}
theorem Qv.uq (h : Qv w q b each most T) : Uniq T := MpS.uniq h.t keyedI
theorem Qv.of (h : Qv w q b each most T) (h1 : w'.heap[q]? = w.heap[q]?) (h2 : w'.heap[b]? = w.heap[b]?) : Qv w' q b each most T := ⟨h1.trans h.m, h.t.of h2, h.rt, h.ok, h.len⟩
theorem Qv.below (h : Qv w q b each most T) (hb : Below w.heap.size w w') : Qv w' q b each most T := h.of (hb.block q h.m.lt) (hb.block b (MpS.lt h.t))
end
end Go.Proofs.Ytbodoodgdojgoaa

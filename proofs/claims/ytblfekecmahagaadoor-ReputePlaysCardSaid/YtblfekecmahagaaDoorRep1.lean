/-
  Repute: marks and bans in memory.
-/
import Derived.Test.YtblfekecmahagaaDoorRep0
import Derived.Test.YtblfekecmahagaaDoorFraM
import Derived.Test.YtblfekecmahagaaDoorZp
import Derived.WalkArith
import Derived.DeepKeys5
import Derived.Carry
namespace Go.Proofs.YtblfekecmahagaaDoor
open Go.RowKit Go.Maps Crv

theorem Consts.old {w w' : World} {B : Nat} (h : Consts w) (hb : Below B w w') (hB : 2 ≤ B) : Consts w' := ⟨h.1.below hb (by omega), h.2.below hb (by omega)⟩
theorem Consts.on {w w' : World} (h : Consts w) (hb : Below w.heap.size w w') : Consts w' := h.old hb h.2.lt
def In64 (n : Int) : Prop := (Lit.int .i64 n).wf = true
theorem in64_of {n : Int} (h : -9223372036854775808 ≤ n ∧ n ≤ 9223372036854775807) : In64 n := WalkArith.wf_i64 h
theorem keyedI : Keyed Tryd.prog Tin := int_keyed Tryd.underlying3
abbrev Tmk : TypeId := 68
abbrev Tpf : TypeId := 37
abbrev Tmm : TypeId := 63
abbrev Tmp : TypeId := 64
abbrev Tbk : TypeId := 66
section
variable {ν : Type} (vv : ν → Value) (ev : ν → DataW Unit)
open Classical in
/-- A map's element that is told by what it is made of. -/
noncomputable def elemOf (v : Value) : Option (DataW Unit × List MemPlace) := if h : ∃ p : ν, v = vv p then some (ev h.choose, []) else none
theorem elemOf_mk (hv : ∀ p q, vv p = vv q → p = q) (p : ν) : elemOf vv ev (vv p) = some (ev p, []) := by
  have h : ∃ q : ν, vv p = vv q := ⟨p, rfl⟩
  unfold elemOf
  rw [dif_pos h, ← hv _ _ h.choose_spec]
theorem elemOf_inv (he : ∀ p q, ev p = ev q → p = q) {v : Value} {p : ν} {ps : List MemPlace} (h : elemOf vv ev v = some (ev p, ps)) : v = vv p := by
  unfold elemOf at h
  split at h
  · rename_i hx
    simp only [Option.some.injEq, Prod.mk.injEq] at h
    rw [hx.choose_spec, he _ _ h.1]
  · cases h
end
def mkV (m : MK) : Value := .agg #[iv m.1, iv m.2.1, iv m.2.2]
def pfC (p : PF) : List Value := iv p.1 :: (p.2.1.map byteV ++ [tx p.2.2])
def pfV (p : PF) : Value := .agg (pfC p).toArray
theorem iv_inj {a b : Int} (h : iv a = iv b) : a = b := by injection h
theorem mkV_inj (p q : MK) (h : mkV p = mkV q) : p = q := by
  injection h with h
  have h2 := List.toArray_inj h
  injection h2 with h3 h4
  injection h4 with h5 h6
  injection h6 with h7 _
  exact Prod.ext (iv_inj h3) (Prod.ext (iv_inj h5) (iv_inj h7))
theorem eM_inj (p q : MK) (h : eM.ev p = eM.ev q) : p = q := by
  unfold eM at h
  simp only [DataW.agg.injEq, List.cons.injEq, DataW.lit.injEq, Lit.int.injEq, true_and, and_true] at h
  exact Prod.ext h.1 (Prod.ext h.2.1 h.2.2)
theorem byteV_inj {a b : UInt8} (h : byteV a = byteV b) : a = b := by
  injection h with _ h
  exact UInt8.toNat_inj.1 (by omega)
theorem pfV_inj (p q : PF) (h : pfV p = pfV q) : p = q := by
  injection h with h
  have h2 := List.toArray_inj h
  unfold pfC at h2
  injection h2 with h3 h4
  obtain ⟨h5, h6⟩ := List.append_inj' h4 rfl
  injection h6 with h7 _
  have h8 : p.2.1 = q.2.1 := List.map_inj_right (fun a b => byteV_inj) |>.1 h5
  have h9 : p.2.2 = q.2.2 := by
    injection h7 with h7
    exact str_inj.1 h7
  exact Prod.ext (iv_inj h3) (Prod.ext h8 h9)
theorem eP_inj (p q : PF) (h : eP.ev p = eP.ev q) : p = q := by
  unfold eP at h
  simp only [DataW.agg.injEq, List.cons.injEq, DataW.lit.injEq, Lit.int.injEq, Lit.string.injEq, true_and, and_true] at h
  exact Prod.ext h.1 (Prod.ext h.2.1 h.2.2)
noncomputable abbrev mkElem : Value → Option (DataW Unit × List MemPlace) := elemOf mkV eM.ev
noncomputable abbrev pfElem : Value → Option (DataW Unit × List MemPlace) := elemOf pfV eP.ev
abbrev MpM (W : World) (b : Nat) (l : MKt) : Prop := MpS Tryd.prog Tin mkElem eM W b l
abbrev MpB (W : World) (b : Nat) (l : BNt) : Prop := MpS Tryd.prog Tin pfElem eP W b l
def zeroP : PF := (0, List.replicate 32 0, [])
theorem zeroK (w : World) : (zeroValue Tmk).run Tryd.prog w = .ok (mkV (0, 0, 0)) w := by kernel_rfl
theorem zeroF (w : World) : (zeroValue Tpf).run Tryd.prog w = .ok (pfV zeroP) w := by kernel_rfl
theorem getD_ev {κ ν : Type} (e : Enc κ ν) (o : Option ν) (z : ν) : (o.map e.ev).getD (e.ev z) = e.ev (o.getD z) := by cases o <;> rfl
theorem keyR_of {a : Int} (ha : In64 a) : keyOf Tryd.prog Tin (iv a) = some (.int .i64 a) := keyOf_int_mk Tryd.underlying3 ha
section
variable {W W' : World} {b : Nat} {l : MKt} {k : BNt}
theorem MpM.look (h : MpM W b l) {a : Int} (ha : In64 a) : (Instr.lookup Tmm (.map (some b)) (iv a) false).run Tryd.prog W = .ok (mkV (mkOf l a)) W := by
  obtain ⟨v, ps, hrun, hv⟩ := World.ownsMap.lookup h keyedI Tryd.underlying63 (zeroK W) (elemOf_mk mkV eM.ev mkV_inj (0, 0, 0)) (keyR_of ha)
  rw [show (Lit.int .i64 a) = eM.ek a from rfl, Enc.atKey, getD_ev] at hv
  rw [hrun, elemOf_inv mkV eM.ev eM_inj hv]
  rfl
theorem MpM.put (h : MpM W b l) {a : Int} (u : MK) (ha : In64 a) (hn : l.length ≤ 1000000) : ∃ W', (Instr.mapUpdate Tmm (.map (some b)) (iv a) (mkV u)).run Tryd.prog W = .ok () W' ∧ MpM W' b (eM.set a u l) ∧ W.grownBy W' (some b) := by
  obtain ⟨W', hrun, ho, hg⟩ := World.ownsMap.update h keyedI Tryd.underlying63 (by simp only [maxLen]; omega) (keyR_of ha) (elemOf_mk mkV eM.ev mkV_inj u)
  rw [show (Lit.int .i64 a) = eM.ek a from rfl, Enc.put] at ho
  exact ⟨W', hrun, MpS.tight ho, hg⟩
theorem MpB.look_ok (h : MpB W b k) {a : Int} (ha : In64 a) : (Instr.lookup Tmp (.map (some b)) (iv a) true).run Tryd.prog W = .ok (.tuple #[pfV ((getK a k).getD zeroP), .bool (getK a k).isSome]) W := by
  obtain ⟨v, ps, hrun, hv⟩ := World.ownsMap.look_ok h keyedI Tryd.underlying64 (zeroF W) (elemOf_mk pfV eP.ev pfV_inj zeroP) (keyR_of ha)
  rw [show (Lit.int .i64 a) = eP.ek a from rfl, Enc.atKey, getD_ev] at hv
  rw [show (Lit.int .i64 a) = eP.ek a from rfl, Enc.has] at hrun
  rw [hrun, elemOf_inv pfV eP.ev eP_inj hv]
theorem MpB.put (h : MpB W b k) {a : Int} (u : PF) (ha : In64 a) (hn : k.length ≤ 1000000) : ∃ W', (Instr.mapUpdate Tmp (.map (some b)) (iv a) (pfV u)).run Tryd.prog W = .ok () W' ∧ MpB W' b (eP.set a u k) ∧ W.grownBy W' (some b) := by
  obtain ⟨W', hrun, ho, hg⟩ := World.ownsMap.update h keyedI Tryd.underlying64 (by simp only [maxLen]; omega) (keyR_of ha) (elemOf_mk pfV eP.ev pfV_inj u)
  rw [show (Lit.int .i64 a) = eP.ek a from rfl, Enc.put] at ho
  exact ⟨W', hrun, MpS.tight ho, hg⟩
end
/-- The bans' proofs are proofs. -/
def OkB (B : BNt) : Prop := ∀ n p, getK n B = some p → p.2.1.length = 32
/-- A book in memory: its block k, its maps' blocks. -/
structure Bv (w : World) (k mb bb : Nat) (M : MKt) (B : BNt) : Prop where
  m : Mem w k Tbk [.map (some mb), .map (some bb)]
  t : MpM w mb M
  u : MpB w bb B
  ne : mb ≠ bb
  ok : OkM M
  okb : OkB B
  len : M.length ≤ 100000 ∧ B.length ≤ 100000
section
variable {w w' : World} {k mb bb : Nat} {M : MKt} {B : BNt}
theorem Bv.uq (h : Bv w k mb bb M B) : Uniq M := MpS.uniq h.t keyedI
theorem Bv.uqb (h : Bv w k mb bb M B) : Uniq B := MpS.uniq h.u keyedI
theorem Bv.of (h : Bv w k mb bb M B) (h1 : w'.heap[k]? = w.heap[k]?) (h2 : w'.heap[mb]? = w.heap[mb]?) (h3 : w'.heap[bb]? = w.heap[bb]?) : Bv w' k mb bb M B := ⟨h1.trans h.m, h.t.of h2, h.u.of h3, h.ne, h.ok, h.okb, h.len⟩
theorem Bv.below (h : Bv w k mb bb M B) (hb : Below w.heap.size w w') : Bv w' k mb bb M B := h.of (hb.block k h.m.lt) (hb.block mb (MpS.lt h.t)) (hb.block bb (MpS.lt h.u))
theorem mem_ne_map {g b : Nat} {t : TypeId} {cs : List Value} (h : Mem w g t cs) (hb : ∃ es c, w.heap[b]? = some (.map es c)) : g ≠ b := by
  rintro rfl
  obtain ⟨es, cl, hb⟩ := hb
  unfold Mem at h
  rw [hb] at h
  cases h
theorem Bv.km (h : Bv w k mb bb M B) : k ≠ mb := mem_ne_map h.m (MpS.block h.t)
theorem Bv.kb (h : Bv w k mb bb M B) : k ≠ bb := mem_ne_map h.m (MpS.block h.u)
/-- The marks turn. -/
theorem Bv.marks (h : Bv w k mb bb M B) (hg : w.grownBy w' (some mb)) {n : Int} {m : MK} (ho : MpM w' mb (eM.set n m M)) (hm : OkK m) (hl : M.length < 100000) : Bv w' k mb bb (eM.set n m M) B :=
  ⟨h.m.grown hg (fun e => h.km (by injection e)), ho, MpS.grown h.u hg (fun e => h.ne (by injection e with e; exact e.symm)), h.ne, h.ok.set h.uq n hm, h.okb, by have := length_setM h.uq n m; omega, h.len.2⟩
end
end Go.Proofs.YtblfekecmahagaaDoor

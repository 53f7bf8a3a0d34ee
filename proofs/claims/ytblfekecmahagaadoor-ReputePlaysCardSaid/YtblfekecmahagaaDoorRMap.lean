/-
  Repute: a map of numbers beside a book.
-/
import Derived.Test.YtblfekecmahagaaDoorRep6
namespace Go.Proofs.YtblfekecmahagaaDoor
open Go.RowKit Go.Maps Crv

abbrev Tmii : TypeId := 58
def eI : Enc Int Int := ⟨fun a => .int .i64 a, fun u => .lit (.int .i64 u), fun a b h => by injection h, fun _ => trivial⟩
theorem lt_eI (a b : Int) : eI.lt a b = decide (a < b) := rfl
theorem zeroI (w : World) : (zeroValue Tin).run Tryd.prog w = .ok (.int .i64 0) w := by kernel_rfl
abbrev MpI (W : World) (b : Nat) (l : List (Int × Int)) : Prop := MpS Tryd.prog Tin (plainElem Tryd.prog Tin) eI W b l
theorem keyI_of {a : Int} (ha : In64 a) : keyOf Tryd.prog Tin (iv a) = some (eI.ek a) := keyOf_int_mk Tryd.underlying3 ha
theorem elemI_of {u : Int} (hu : In64 u) : plainElem (H := Unit) Tryd.prog Tin (iv u) = some (eI.ev u, []) := plainElem_int Tryd.underlying3 hu
section
variable {W W' : World} {b : Nat} {l : List (Int × Int)}
theorem MpI.look (h : MpI W b l) {a : Int} (ha : In64 a) : (Instr.lookup Tmii (.map (some b)) (iv a) false).run Tryd.prog W = .ok (iv ((getK a l).getD 0)) W := by
  obtain ⟨z, hrun, hat, _⟩ := World.ownsMap.lookup_int h keyedI Tryd.underlying58 Tryd.underlying3 (zeroI W) (keyI_of ha)
  rw [Enc.atKey] at hat
  rw [hrun]
  cases hg : getK a l with
  | none =>
    rw [hg] at hat
    simp only [Option.map_none, Option.getD_none, DataW.lit.injEq, Lit.int.injEq, true_and] at hat
    rw [hat]; rfl
  | some u =>
    rw [hg] at hat
    simp only [Option.map_some, Option.getD_some, eI, DataW.lit.injEq, Lit.int.injEq, true_and] at hat
    rw [hat]; rfl
theorem MpI.look_ok (h : MpI W b l) {a : Int} (ha : In64 a) : ∃ v, (Instr.lookup Tmii (.map (some b)) (iv a) true).run Tryd.prog W = .ok (.tuple #[v, .bool (getK a l).isSome]) W := by
  obtain ⟨v, ps, hrun, _⟩ := World.ownsMap.look_ok h keyedI Tryd.underlying58 (zeroI W) (elemI_of (u := 0) (in64_of (by omega))) (keyI_of ha)
  rw [Enc.has] at hrun
  exact ⟨v, hrun⟩
theorem MpI.put (h : MpI W b l) {a u : Int} (ha : In64 a) (hu : In64 u) (hn : l.length ≤ 1000000) : ∃ W', (Instr.mapUpdate Tmii (.map (some b)) (iv a) (iv u)).run Tryd.prog W = .ok () W' ∧ MpI W' b (eI.set a u l) ∧ W.grownBy W' (some b) := by
  obtain ⟨W', hrun, ho, hg⟩ := World.ownsMap.update h keyedI Tryd.underlying58 (by simp only [maxLen]; omega) (keyI_of ha) (elemI_of hu)
  rw [Enc.put] at ho
  exact ⟨W', hrun, MpS.tight ho, hg⟩
theorem MpI.len (h : MpI W b l) (ty : TypeId) : (Builtin.len_ #[Tmii] ty #[.map (some b)]).run Tryd.prog W = .ok (iv l.length) W := by
  have := World.ownsMap.len h Tryd.underlying58 ty
  rwa [Enc.size] at this
theorem MpI.drop (h : MpI W b l) {a : Int} (ha : In64 a) (ty : TypeId) : ∃ W', (Builtin.delete_ #[Tmii, Tin] ty #[.map (some b), iv a]).run Tryd.prog W = .ok (.tuple #[]) W' ∧ MpI W' b (delK a l) ∧ W.grownBy W' (some b) := by
  obtain ⟨W', hrun, ho, hg⟩ := World.ownsMap.drop h keyedI Tryd.underlying58 (keyI_of ha) ty
  rw [Enc.del] at ho
  exact ⟨W', hrun, MpS.tight ho, hg.grown⟩
end

abbrev LBt := List (Int × Int)
def lastOf (L : LBt) (a : Int) : Int := (getK a L).getD 0
theorem lastOf_set {L : LBt} (hu : Uniq L) (n a v : Int) : lastOf (eI.set n v L) a = if a = n then v else lastOf L a := by
  unfold lastOf
  rw [getK_set eI hu]
  split <;> rfl
/-- A book and a map that a law has made since W0. -/
structure Jst (W0 : World) (k mb bb lb : Nat) (M : MKt) (B : BNt) (L : LBt) (w : World) : Prop where
  b : Lb W0 k mb bb M B w
  l : MpI w lb L
  h : W0.heap.size ≤ lb
  nm : lb ≠ mb
  nb : lb ≠ bb
section
variable {W0 w w' : World} {k mb bb lb : Nat} {M : MKt} {B : BNt} {L : LBt}
theorem Jst.on (h : Jst W0 k mb bb lb M B L w) (hb : Below w.heap.size w w') : Jst W0 k mb bb lb M B L w' := ⟨h.b.on hb, h.l.of (hb.block lb (MpS.lt h.l)), h.h, h.nm, h.nb⟩
theorem Jst.good (h : Jst W0 k mb bb lb M B L w) {n : Int} (hn : In64 n) (hl : M.length < 100000) : Calls Tryd.prog 10 #[.pointer (some ⟨k, 0, none⟩), iv n] w fun e w' => e = .returned (.tuple #[]) ∧ Jst W0 k mb bb lb (goodM M n) B L w' :=
  (h.b.good hn hl).mono fun _ _ q => ⟨q.1, q.2.1, MpS.grown h.l q.2.2 (fun e => h.nm (by injection e)), h.h, h.nm, h.nb⟩
theorem Jst.silent (h : Jst W0 k mb bb lb M B L w) {n now : Int} (hn : In64 n) (hw : 0 ≤ now ∧ now ≤ 1099511627776) (hl : M.length < 100000) : Calls Tryd.prog 12 #[.pointer (some ⟨k, 0, none⟩), iv n, iv now] w fun e w' => e = .returned (.tuple #[]) ∧ Jst W0 k mb bb lb (silM M n now) B L w' :=
  (h.b.silent hn hw hl).mono fun _ _ q => ⟨q.1, q.2.1, MpS.grown h.l q.2.2 (fun e => h.nm (by injection e)), h.h, h.nm, h.nb⟩
theorem Jst.ban (h : Jst W0 k mb bb lb M B L w) (hc : Consts W0) {n : Int} (hn : In64 n) (p : PF) (h1 : p.1 = 1) (hp : p.2.1.length = 32) (ht : p.2.2.length ≤ 1000000) (hl : B.length < 100000) : Calls Tryd.prog 15 #[.pointer (some ⟨k, 0, none⟩), iv n, .agg (pfC p).toArray] w fun e w' =>
    e = .returned (iv (if holdsP p = true then 0 else 10)) ∧ Jst W0 k mb bb lb M (if holdsP p = true then banB B n p else B) L w' :=
  (h.b.ban hc hn p h1 hp ht hl).mono fun _ _ q => ⟨q.1, q.2.1, MpS.grown h.l q.2.2 (fun e => h.nb (by injection e)), h.h, h.nm, h.nb⟩
theorem Jst.last (h : Jst W0 k mb bb lb M B L w) {n v : Int} (hn : In64 n) (hv : In64 v) (hl : L.length ≤ 1000000) : ∃ w', (Instr.mapUpdate Tmii (.map (some lb)) (iv n) (iv v)).run Tryd.prog w = .ok () w' ∧ Jst W0 k mb bb lb M B (eI.set n v L) w' := by
  obtain ⟨w', hr, ho, hg⟩ := h.l.put hn hv hl
  refine ⟨w', hr, ⟨h.b.v.of (hg.block k h.b.v.m.lt ?_) (hg.block mb (MpS.lt h.b.v.t) ?_) (hg.block bb (MpS.lt h.b.v.u) ?_), h.b.n, belowNew h.b.bel hg h.h⟩, ho, h.h, h.nm, h.nb⟩
  · intro e
    exact mem_ne_map h.b.v.m (MpS.block h.l) (by injection e)
  · intro e
    have e2 := Option.some.inj e
    exact h.nm e2.symm
  · intro e
    have e2 := Option.some.inj e
    exact h.nb e2.symm
end
/-- What stands where cells of another kind turn. -/
theorem Jst.cell {W0 w : World} {k mb bb lb : Nat} {M : MKt} {B : BNt} {L : LBt} (h : Jst W0 k mb bb lb M B L w) {ba : Nat} {cs : List Value} (hm : Mem w ba Tar cs) (i : Nat) (u : Value) (hW : W0.heap.size ≤ ba) : Jst W0 k mb bb lb M B L (w.setCell ⟨ba, i, none⟩ u) := by
  have hg := grown_cell (grownRefl w (some ba)) i u
  have n1 : some ba ≠ some k := by
    intro e
    have e2 := Option.some.inj e
    have h1 := h.b.v.m
    rw [← e2] at h1
    unfold Mem at h1 hm
    rw [hm] at h1
    simp only [Option.some.injEq, Obj.cells.injEq] at h1
    exact absurd h1.2.1 (by decide)
  have n2 : ba ≠ mb := mem_ne_map hm (MpS.block h.b.v.t)
  have n3 : ba ≠ bb := mem_ne_map hm (MpS.block h.b.v.u)
  have n4 : ba ≠ lb := mem_ne_map hm (MpS.block h.l)
  exact ⟨⟨h.b.v.of (hg.block k h.b.v.m.lt n1.symm) (hg.block mb (MpS.lt h.b.v.t) (fun e => n2 (Option.some.inj e.symm))) (hg.block bb (MpS.lt h.b.v.u) (fun e => n3 (Option.some.inj e.symm))), h.b.n, belowNew h.b.bel hg hW⟩, h.l.of (hg.block lb (MpS.lt h.l) (fun e => n4 (Option.some.inj e.symm))), h.h, h.nm, h.nb⟩
/-- What stands of marks, bans and last silences behind i acts. -/
structure JInv (M : MKt) (B : BNt) (L : LBt) (now : Int) (i : Nat) : Prop where
  u : ∀ a, 0 ≤ lastOf L a ∧ lastOf L a ≤ now ∧ (mkOf M a).2.2 ≤ lastOf L a + 32
  b : getK 0 B = none
  n : 0 ≤ now ∧ now ≤ 15 * (i : Int)
  l : M.length ≤ i ∧ B.length ≤ i ∧ L.length ≤ i
theorem JInv.nil : JInv [] [] [] 0 0 := ⟨fun a => ⟨Int.le_refl _, Int.le_refl _, show (0 : Int) ≤ 0 + 32 by omega⟩, rfl, by decide, by simp⟩
section
variable {M : MKt} {B : BNt} {L : LBt} {now d : Int} {i : Nat}
theorem JInv.time (h : JInv M B L now i) (hd : 0 ≤ d ∧ d ≤ 15) : JInv M B L (now + d) (i + 1) :=
  ⟨fun a => by have := h.u a; omega, h.b, by have := h.n; omega, by have := h.l; omega⟩
theorem JInv.good (h : JInv M B L now i) (hu : Uniq M) (n : Int) (hl : M.length + 1 ≤ i) : JInv (goodM M n) B L now i := by
  refine ⟨fun a => ?_, h.b, h.n, Nat.le_trans (length_setM hu n _) hl, h.l.2⟩
  have ha := h.u a
  rw [mkOf_good hu]
  split
  · exact ⟨ha.1, ha.2.1, show (0 : Int) ≤ _ by omega⟩
  · exact ha
theorem JInv.sil (h : JInv M B L now i) (hu : Uniq M) (hL : Uniq L) (ho : OkM M) (n : Int) (hl : M.length + 1 ≤ i) (hl2 : L.length + 1 ≤ i) : JInv (silM M n now) B (eI.set n now L) now i := by
  refine ⟨fun a => ?_, h.b, h.n, Nat.le_trans (length_setM hu n _) hl, h.l.2.1, Nat.le_trans (by rw [length_set eI hL]; split <;> omega) hl2⟩
  have ha := h.u a
  have hn := h.u n
  have hw := waitK_in ⟨(ho.mk n).2.2.1, (ho.mk n).2.2.2.1⟩
  have h0 := h.n
  rw [mkOf_sil hu, lastOf_set hL]
  split
  · refine ⟨h0.1, Int.le_refl _, ?_⟩
    unfold silK
    simp only
    omega
  · exact ha
theorem JInv.ban (h : JInv M B L now i) (hu : Uniq B) {n : Int} (hn : n ≠ 0) (p : PF) (b : Bool) (hl : B.length + 1 ≤ i) : JInv M (if b = true then banB B n p else B) L now i := by
  split
  · refine ⟨h.u, ?_, h.n, h.l.1, Nat.le_trans (length_ban hu n p) hl, h.l.2.2⟩
    rw [getK_ban hu, if_neg (fun e => hn e.symm)]
    exact h.b
  · exact h
end
theorem pfOf_ok (a : AR) : (pfOf a).1 = 1 ∧ (pfOf a).2.1.length = 32 ∧ (pfOf a).2.2.length ≤ 1000000 := ⟨rfl, rfl, by unfold pfOf; simp only [List.length_take]; omega⟩
theorem holds_same (kd n b : Int) (t : List UInt8) : holdsP (pfOf (kd, n, b, t, t)) = false := by unfold holdsP pfOf; simp
theorem ActsR.cells {W w : World} {a : Option Addr} {n cap : Nat} {acts : List AR} (h : ActsR W (.slice a n cap) acts) (hb : Below W.heap.size W w) {i : Nat} (hi : i < acts.length) :
    ∃ g off, a = some ⟨g, off, none⟩ ∧ w.cell? ⟨g, off + i * 5, none⟩ = some (iv acts[i].1) ∧ w.cell? ⟨g, off + i * 5 + 1, none⟩ = some (iv acts[i].2.1) ∧ w.cell? ⟨g, off + i * 5 + 2, none⟩ = some (iv acts[i].2.2.1) ∧ w.cell? ⟨g, off + i * 5 + 3, none⟩ = some (tx acts[i].2.2.2.1) ∧ w.cell? ⟨g, off + i * 5 + 4, none⟩ = some (tx acts[i].2.2.2.2) := by
  obtain ⟨g, off, ha, hr⟩ := h.at hb hi
  exact ⟨g, off, ha, hr 0 _ rfl, hr 1 _ rfl, hr 2 _ rfl, hr 3 _ rfl, hr 4 _ rfl⟩
end Go.Proofs.YtblfekecmahagaaDoor

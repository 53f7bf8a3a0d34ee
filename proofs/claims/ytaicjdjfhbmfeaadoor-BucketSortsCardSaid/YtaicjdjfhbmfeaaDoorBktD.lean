/-
  Several texts in one: their sentences stand at their heads.
-/
import Derived.Test.YtaicjdjfhbmfeaaDoorBktC
import Derived.Test.YtaicjdjfhbmfeaaDoorIt
/-
  Package bucket: New, All.
-/
namespace Go.Proofs.YtaicjdjfhbmfeaaDoor
open Go.RowKit Go.Sort Go.Shelf Crv

abbrev Tbs : TypeId := 74
abbrev Tbk : TypeId := 73
theorem foldB (off : Nat) : ∀ (l : List Value) (k : Nat) (arr : Array Value), off + k + l.length ≤ arr.size → List.foldl (fun (cs : Array Value) (x : Value × Nat) => cs.setIfInBounds (off + x.snd) x.fst) arr (l.zipIdx k) = (arr.toList.take (off + k) ++ l ++ arr.toList.drop (off + k + l.length)).toArray
  | [], k, arr, h => by simp
  | a :: l, k, arr, h => by
    have h' : off + k + l.length + 1 ≤ arr.size := by simpa [Nat.add_assoc] using h
    rw [List.zipIdx_cons, List.foldl_cons, foldB off l (k + 1) (arr.setIfInBounds (off + k) a) (by simp; omega)]
    congr 1
    rw [Array.toList_setIfInBounds, ← Nat.add_assoc, List.take_succ_eq_append_getElem (by simp; omega), List.take_set_of_le (Nat.le_refl _), List.drop_set_of_lt (by omega)]
    simp [Nat.add_assoc, Nat.add_comm 1]
def nilsC : List Value := List.replicate 514 (.slice none 0 0)
theorem length_nilsC : nilsC.length = 514 := List.length_replicate
/-- A new table's cells. -/
def tabC (o : Int) (a : List UInt8) : List Value := iv o :: (a.map byteV ++ nilsC)
theorem length_tabC (o : Int) (a : List UInt8) (ha : a.length = 32) : (tabC o a).length = 547 := by simp [tabC, ha, length_nilsC]
theorem zero_tab (W : World) : (zeroValue Ttb).run Tryd.prog W = .ok (.agg (tabC 0 (List.replicate 32 0)).toArray) W := by kernel_rfl
theorem set_tab (o : Int) : (tabC 0 (List.replicate 32 0)).set 0 (iv o) = tabC o (List.replicate 32 0) := rfl
theorem fold_tab (a : List UInt8) (ha : a.length = 32) (o : Int) : List.foldl (fun (cs : Array Value) (x : Value × Nat) => cs.setIfInBounds (1 + x.snd) x.fst) (tabC o (List.replicate 32 0)).toArray ((a.map byteV).zipIdx 0) = (tabC o a).toArray := by
  have h := foldB 1 (a.map byteV) 0 (tabC o (List.replicate 32 0)).toArray (by rw [List.size_toArray, length_tabC _ _ rfl, List.length_map, ha]; omega)
  rw [h, List.length_map, ha]
  congr 1
theorem run_build_tab (o : Int) (a : List UInt8) (ha : a.length = 32) (W : World) : (Instr.build Ttb #[(0, iv o), (1, .agg (a.map byteV).toArray)]).run Tryd.prog W = .ok (.agg (tabC o a).toArray) W := by
  have hz := zero_tab W
  have h1 := set_tab o
  have h2 := fold_tab a ha o
  have l1 : (tabC 0 (List.replicate 32 0)).length = 547 := length_tabC _ _ rfl
  have l2 : (tabC o (List.replicate 32 0)).length = 547 := length_tabC _ _ rfl
  obtain ⟨Z, hZ⟩ : ∃ Z, Z = tabC 0 (List.replicate 32 0) := ⟨_, rfl⟩
  obtain ⟨Y, hY⟩ : ∃ Y, Y = tabC o (List.replicate 32 0) := ⟨_, rfl⟩
  rw [← hZ] at hz h1 l1
  rw [← hY] at h1 h2 l2
  clear hZ hY
  obtain ⟨X, hX⟩ : ∃ X, X = tabC o a := ⟨_, rfl⟩
  rw [← hX] at h2 ⊢
  clear hX
  unfold Instr.build
  simp only [Sem.run_bind, hz, Result.andThen_ok]
  simp [go_sem, Instr.fill, l1, l2, h1, ha]
  exact h2
theorem Tbl.new {W : World} {tb : Nat} {o : Int} (h : Mem W tb Ttb (tabC o (idN o))) : Tbl W tb (fun _ => .slice none 0 0) (newT o) := by
  refine ⟨Tag.mem h, h.cell 0, fun i v hv => ?_, length_idN o, fun j hj => ?_, fun j _ => ?_, ?_, by simp [newT], by simp [newT]⟩
  · have hv' : ((idN o).map byteV)[i]? = some v := hv
    rw [h.cell (1 + i)]
    unfold tabC
    rw [Nat.add_comm, List.getElem?_cons_succ, List.getElem?_append_left (List.getElem?_eq_some_iff.1 hv').1, hv']
  · rw [h.cell (33 + j)]
    unfold tabC
    rw [show 33 + j = (32 + j) + 1 from by omega, List.getElem?_cons_succ, List.getElem?_append_right (by rw [List.length_map, length_idN]; omega), List.length_map, length_idN, Nat.add_sub_cancel_left]
    unfold nilsC
    rw [List.getElem?_replicate, if_pos hj]
  · have e : lstB (newT o) j = [] := by unfold lstB newT; simp
    rw [e]
    exact Owns.nil _ _ _
  · intro j j' b _ _ hb
    cases hb
section
variable {P : Program} {ops : Array Oper} {rest : List Oper} {o : Oper} {a : Act} {w : World} {Q : Exit → Act → World → Prop}
theorem wp_buildB {ty : TypeId} {x y : Operand} {u v r : Value} (hr : (Instr.build ty #[(0, u), (1, v)]).run P w = .ok r w) (hgd : o.guard = none) (ho : o.op = .build ty #[(0, x), (1, y)]) (hx : a.eval x = u) (hy : a.eval y = v)
    (h : wpList P ops Q rest (a.put o.dst r) w) : wpList P ops Q (o :: rest) a w := by
  refine wpList_plain hgd fun K hK => ?_
  unfold Oper.wp execOp
  simp only [ho, List.map_toArray, List.map_cons, List.map_nil, hx, hy, hr, Sem.run_bind, Sem.run_pure, Result.andThen_ok]
  exact hK _ _ h
end
section
variable {W W' : World} {tb : Nat} {sv : Nat → Value} {x : BS} {F : Nat → Prop}
theorem one_tabC (o : Int) (a : List UInt8) : ∀ u ∈ tabC o a, u.oneCell' = true := by
  intro u hu
  rcases List.mem_cons.1 hu with rfl | hu
  · rfl
  rcases List.mem_append.1 hu with hu | hu
  · exact oneBytes _ u hu
  · have := List.eq_of_mem_replicate hu
    subst this
    rfl
set_option maxHeartbeats 1000000 in
set_option maxRecDepth 100000 in
theorem bnew_any (o : Int) (hc : Consts W) : Calls Tryd.prog 22 #[iv o] W fun e w' =>
    ∃ tb, e = .returned (.pointer (some ⟨tb, 0, none⟩)) ∧ W.heap.size ≤ tb ∧ Tbl w' tb (fun _ => .slice none 0 0) (newT o) ∧ Below W.heap.size W w' := by
  have HI := Lib.hid (id_any o W hc)
  have HB := Lib.hid (fun w => run_build_tab o (idN o) (length_idN o) w)
  have HN := Lib.hid (fun (w1 : World) (g : Nat) (hm : Mem w1 g Ttb (tabC o (idN o))) => Tbl.new hm)
  have HL := Lib.hid (length_tabC o (idN o) (length_idN o))
  obtain ⟨C, hC⟩ : ∃ C, C = tabC o (idN o) := ⟨_, rfl⟩
  obtain ⟨a, ha⟩ : ∃ a, a = idN o := ⟨_, rfl⟩
  simp only [← hC] at HB HN HL
  simp only [← ha] at HI HB
  clear hC ha hc
  go_enter Tryd.func22, Tryd.ntmps22
  go_wp2_with fail
  refine HI.out.mono ?_
  rintro e w1 ⟨rfl, hb⟩
  have HBB := Lib.hid hb
  clear hb
  go_wp2_with (first
    | (refine wp_buildB (HB.out _) rfl rfl rfl rfl ?_)
    | fail)
  go_ret
  exact ⟨_, rfl, HBB.out.size, HN.out _ _ (Mem.new w1 Ttb C), belowThen HBB.out (belowSelf w1 _)⟩
theorem ld_bs (p : Value) : Instr.loadAt Tbs p = ldRow Tbs p := rfl
/-- All lists' cells. -/
def bsC (sv : Nat → Value) : List Value := (List.range 514).map sv
theorem length_bsC (sv : Nat → Value) : (bsC sv).length = 514 := by simp [bsC]
theorem Tbl.ldB (h : Tbl W tb sv x) : (ldRow Tbs (.pointer (some ⟨tb, 33, none⟩))).run Tryd.prog W = .ok (.agg (bsC sv).toArray) W :=
  run_loadAt_mid _ tb 33 Tbs (bsC sv) (.array 257 Tbk) (fun j u hu => by
    have hj : j < 514 := by have := (List.getElem?_eq_some_iff.1 hu).1; rw [length_bsC] at this; exact this
    rw [h.cell j hj]
    unfold bsC at hu
    rw [List.getElem?_map, List.getElem?_range hj] at hu
    exact hu) Tryd.underlying74 rfl (by rw [length_bsC]; kernel_rfl)
theorem extract2 (l : List Value) (i : Nat) (a b : Value) (ha : l[i]? = some a) (hb : l[i + 1]? = some b) : l.toArray.extract i (i + 2) = #[a, b] := by
  have hi := (List.getElem?_eq_some_iff.1 hb).1
  have h1 : l[i] = a := (List.getElem?_eq_some_iff.1 ha).2
  have h2 : l[i + 1] = b := (List.getElem?_eq_some_iff.1 hb).2
  apply Array.ext'
  rw [List.extract_toArray]
  show (l.extract i (i + 2)) = [a, b]
  rw [List.extract_eq_take_drop, List.drop_eq_getElem_cons (by omega), List.drop_eq_getElem_cons hi, show i + 2 - i = 2 by omega, h1, h2]
  rfl
theorem bsC_get (sv : Nat → Value) (j : Nat) (hj : j < 514) : (bsC sv)[j]? = some (sv j) := by
  unfold bsC
  rw [List.getElem?_map, List.getElem?_range hj]
  rfl
theorem index_bs (sv : Nat → Value) (i : Nat) (hi : i < 257) (W : World) : (Instr.index Tbs (.agg (bsC sv).toArray) (.int .i64 (i : Int))).run Tryd.prog W = .ok (.agg #[sv (i * 2), sv (i * 2 + 1)]) W := by
  have h0 : (0 : Int) ≤ i ∧ (i : Int) < 257 := by omega
  have hz : (Go.sizeOf Tbk).run Tryd.prog W = .ok 2 W := by kernel_rfl
  have hx := extract2 (bsC sv) (i * 2) _ _ (bsC_get sv (i * 2) (by omega)) (bsC_get sv (i * 2 + 1) (by omega))
  simp [Instr.index, asIntOf, run_underlying Tryd.underlying74, hi, hz, part]
  simpa using hx
theorem ys_len (x : BS) (h : ∀ k, (x.K k).length ≤ 4) : ∀ m, (allB x m).length ≤ m * 4
  | 0 => by simp [allB]
  | m + 1 => by
    have := ys_len x h m
    have := h m
    rw [allB_succ, List.length_append]
    omega
theorem below_own {w0 w w' : World} {v : Value} (h : Below w0.heap.size w0 w) (hg : w.grownBy w' v.ownBlock) (hs : ∀ g, v.ownBlock = some g → w0.heap.size ≤ g) : Below w0.heap.size w0 w' :=
  ⟨hg.os.trans h.os, hg.tape.trans h.tape, hg.output.trans h.output, Nat.le_trans h.size hg.size, fun k hk => (hg.block k (Nat.lt_of_lt_of_le hk h.size) (fun e => by have := hs k e.symm; omega)).trans (h.block k hk)⟩
theorem take_put {zs d : List Int} {cur : Array Value} (h : zs.length ≤ cur.size) (hd : d.length = zs.length) : (putCells (Value.int .i64) 0 d.toArray cur).toList.take zs.length = d.map iv := by
  apply List.ext_getElem?
  intro j
  by_cases hj : j < zs.length
  · rw [List.getElem?_take_of_lt hj, Array.getElem?_toList]
    simp only [putCells, Array.getElem?_mapIdx]
    rw [Array.getElem?_eq_getElem (by omega), Option.map_some, if_pos ⟨Nat.zero_le _, by simp; omega⟩, List.getElem?_map, List.getElem?_eq_getElem (by omega), Nat.sub_zero]
    simp [hd, hj]
  · rw [List.getElem?_eq_none (by rw [List.length_take]; omega), List.getElem?_eq_none (by rw [List.length_map]; omega)]
theorem sort_any {w : World} {base : Nat} {v : Value} {zs : List Int} (ho : Owns w base Tin v (zs.map iv)) (hl : zs.length ≤ 1000000) : Calls Tryd.prog 42 #[v] w fun e w' =>
    e = .returned (.tuple #[]) ∧ Owns w' base Tin v ((zs.mergeSort fun a b => decide (a ≤ b)).map iv) ∧ w.grownBy w' v.ownBlock := by
  have hlen := ho.1
  rw [List.length_map] at hlen
  rcases ho.2 with ⟨rfl, h0⟩ | ⟨g, cap, cur, rfl, hb, hg, hn, hm, hs, ht⟩
  · have e : zs = [] := by cases zs with
      | nil => rfl
      | cons y r => simp at h0
    subst e
    have h := AnyM.slices_Sort_int_none Tryd.sortA none 0 w
    refine Calls.mono (P := Tryd.prog) (f := 42) h ?_
    rintro e w' ⟨rfl, rfl⟩
    exact ⟨rfl, by simpa using ho, grownRefl _ _⟩
  · rw [List.length_map] at hn ht
    rw [List.length_map]
    have hgl := (Array.getElem?_eq_some_iff.1 hg).1
    have h := AnyM.slices_Sort_int Tryd.sortA g 0 cap zs w (fun j hj => by
      have hj' : j < zs.length := by simpa using hj
      have hc : cur.toList[j]? = some (iv zs[j]) := by
        have := congrArg (fun l : List Value => l[j]?) ht
        simp only [Nat.mul_one, List.getElem?_take_of_lt hj', List.getElem?_map, List.getElem?_eq_getElem hj', Option.map_some] at this
        exact this
      constructor
      · simp [World.cell?, hg]
        rw [← Array.getElem?_toList, hc, List.getElem?_eq_getElem hj']
        rfl
      · simp [World.frozen?, hg]) hgl (by omega)
    refine Calls.mono (P := Tryd.prog) (f := 42) h ?_
    rintro e w' ⟨rfl, n, os, rfl⟩
    have hsl : (zs.mergeSort fun a b => decide (a ≤ b)).length = zs.length := List.length_mergeSort _
    refine ⟨rfl, ⟨by simp [hsl], .inr ⟨g, cap, putCells (Value.int .i64) 0 (zs.mergeSort fun a b => decide (a ≤ b)).toArray cur, by simp [hsl], hb, ?_, by simp [hsl]; omega, hm, by simp [putCells, hs], ?_⟩⟩, ?_⟩
    · have hgm : (putRow (Value.int .i64) (Sort.ahead w n) g 0 (zs.mergeSort fun a b => decide (a ≤ b)).toArray).heap[g]? = some (.cells (putCells (Value.int .i64) 0 (zs.mergeSort fun a b => decide (a ≤ b)).toArray cur) Tin (0, 0)) := by
        show (w.heap.modify g _)[g]? = _
        rw [Array.getElem?_modify, if_pos rfl, hg]
        rfl
      show (_ ++ os)[g]? = _
      rw [Array.getElem?_append_left (by rw [size_putRow]; exact hgl)]
      exact hgm
    · rw [List.length_map, Nat.mul_one, hsl]
      exact take_put (by omega) hsl
    · refine ⟨rfl, rfl, rfl, by simp [grow, Sort.ahead], fun k hk hne => ?_⟩
      show (_ ++ os)[k]? = _
      rw [Array.getElem?_append_left (by rw [size_putRow]; exact hk)]
      have hne' : g ≠ k := fun e => hne (by rw [e]; rfl)
      simp [putRow, mapBlock, Sort.ahead, Array.getElem?_modify, hne']
attribute [local go_sem ↓] ld_bs
set_option maxHeartbeats 1000000 in
set_option maxRecDepth 100000 in
theorem all_any (h : Tbl W tb sv x) : Calls Tryd.prog 14 #[.pointer (some ⟨tb, 0, none⟩)] W fun e w' =>
    ∃ v, e = .returned v ∧ Owns w' W.heap.size Tin v (((allB x 257).mergeSort fun a b => decide (a ≤ b)).map iv) ∧ Below W.heap.size W w' := by
  have hld := h.ldB
  have HIX := Lib.hid (index_bs sv)
  have HT := Lib.hid h
  have HL := Lib.hid (ys_len x h.k4)
  obtain ⟨C, hC⟩ : ∃ C, C = bsC sv := ⟨_, rfl⟩
  rw [← hC] at hld HIX
  clear h hC
  go_enter Tryd.func14, Tryd.ntmps14
  go_wp2_with fail
  go_loopw [3, 10] (fun v k wr => ∃ i : Nat, i ≤ 257 ∧ k = .int .i64 i ∧ Hid (Owns wr W.heap.size Tin v ((allB x i).map iv)) ∧ Below W.heap.size W wr) (fun _ k _ => 257 - (intOf k).toNat)
  case atStart => exact ⟨0, by omega, rfl, Lib.hid (Owns.nil _ _ _), Below.refl _ _⟩
  case round =>
    obtain ⟨i, hi, rfl, HO, hb⟩ := hrel
    have HB := Lib.hid hb
    by_cases hlt : i < 257
    · have hix := HIX.out i hlt
      have hl1 : (i : Int) < 257 := by omega
      have hTr := HT.out.below hb
      have hO1 := hTr.own (i * 2) (by omega)
      have hO2 := hTr.own (i * 2 + 1) (by omega)
      rw [lstB_K] at hO1
      obtain ⟨a1, c1, e1, -, -, -⟩ := hO1.form
      obtain ⟨a2, c2, e2, -, -, -⟩ := hO2.form
      rw [List.length_map] at e1 e2
      rw [e1, e2] at hix
      rw [e1] at hO1
      have HO1 := Lib.hid hO1
      have hll := HL.out i
      have HLL := Lib.hid (show (allB x i).length + (x.K i).length ≤ 1000000 by have := hTr.k4 i; omega)
      clear hTr hO1 hO2 e1 e2 hb hll
      obtain ⟨⟨hq0, hsz⟩⟩ : Nonempty (PProd (W.heap.size ≤ wr.heap.size) True) := ⟨⟨HB.out.size, trivial⟩⟩
      have HSZ := Lib.hid hq0
      clear hq0 hsz
      go_wp2_with (first
        | (at_builtin
           obtain ⟨v3, w3, hr3, ho3, hg3, hat3⟩ := run_append_two (W := wr.alloc (.cells #[.slice a1 (x.K i).length c1, .slice a2 (lstB x (i * 2 + 1)).length c2] Tbk)) (HO.out.alloc _) (HO1.out.alloc _) HLL.out Tis (Nat.le_trans HSZ.out (belowSelf wr _).size)
           refine wp_append_at (.tmp 13) (.tmp 15) Tis Tis hr3 rfl rfl rfl rfl rfl ?_
           have HO3 := Lib.hid ho3
           have HB3 := Lib.hid (show Below W.heap.size W w3 from below_own (belowThen HB.out (belowSelf wr _)) hg3 (fun g hg => (HO.out.lt g hg).2))
           clear hr3 ho3 hg3 hat3)
        | fail)
      go_round
      case rel => exact ⟨i + 1, by omega, by go_num, by rw [allB_succ]; exact HO3, HB3.out⟩
      case measure => simp [intOf]; omega
    · have hl1 : ¬ (i : Int) < 257 := by omega
      have hi2 : i = 257 := by omega
      subst hi2
      have HS := Lib.hid (sort_any HO.out (by have := HL.out 257; omega))
      clear hb
      go_wp2_with fail
      refine HS.out.mono ?_
      rintro e w1 ⟨rfl, ho, hg⟩
      have HO2 := Lib.hid ho
      have HB2 := Lib.hid (show Below W.heap.size W w1 from below_own HB.out hg (fun g hg => (HO.out.lt g hg).2))
      clear ho hg
      go_wp2_with fail
      go_ret
      exact ⟨_, rfl, HO2.out, HB2.out⟩
end
end Go.Proofs.YtaicjdjfhbmfeaaDoor

/-
  A table beside what is kept; the reference's ID; awake of layer 19.
-/
namespace Go.Proofs.YtaicjdjfhbmfeaaDoor
open Go.RowKit Crv

/-- What is new since base, but for these blocks. -/
abbrev Ex (base : Nat) (S : List Nat) : Nat → Prop := fun b => base ≤ b ∧ b ∉ S
theorem Fr.ex {base : Nat} {S : List Nat} {W W' : World} (h : Fr (Ex base S) W W') (hb : base ≤ W.heap.size) : Below base W W' := h.below (fun k hk hF => by have := hF.1; omega) hb
theorem Consts.old {w w' : World} {B : Nat} (h : Consts w) (hb : Below B w w') (hB : 3 ≤ B) : Consts w' := ⟨h.1.below hb (by omega), h.2.below hb (by omega)⟩
/-- A table that a law has made since W0, beside the blocks S that are kept. -/
structure BT (W0 : World) (S : List Nat) (tb : Nat) (x : BS) (w : World) : Prop where
  b : Bx w (Ex W0.heap.size S) tb x
  below : Below W0.heap.size W0 w
  c : Consts w
  inv : Inv x
  s : ∀ s ∈ S, s < w.heap.size
  gb : 3 ≤ W0.heap.size
section
variable {W0 w w' : World} {S : List Nat} {tb : Nat} {x : BS}
theorem BT.next (h : BT W0 S tb x w) {y : BS} (hy : Inv y) (hx : Bx w' (And_new (Ex W0.heap.size S) w) tb y) (hf : Fr (Ex W0.heap.size S) w w') : BT W0 S tb y w' := by
  have hb := hf.ex h.below.size
  refine ⟨hx.mono fun b _ hF => ?_, h.below.trans hb, h.c.old hb h.gb, hy, fun s hs => Nat.lt_of_lt_of_le (h.s s hs) hf.size, h.gb⟩
  rcases hF with hF | hF
  · exact hF
  · exact ⟨Nat.le_trans h.below.size hF, fun hs => by have := h.s b hs; omega⟩
theorem BT.on (h : BT W0 S tb x w) (hb : Below w.heap.size w w') : BT W0 S tb x w' := ⟨h.b.below hb, belowThen h.below hb, h.c.below hb, h.inv, fun s hs => Nat.lt_of_lt_of_le (h.s s hs) hb.size, h.gb⟩
theorem BT.add (h : BT W0 S tb x w) (o : Obj) : BT W0 (w.heap.size :: S) tb x (w.alloc o) := by
  have h1 := h.on (belowSelf w o)
  refine ⟨(h.b.mono (F' := Ex W0.heap.size (w.heap.size :: S)) fun b hlt hF => ⟨hF.1, fun hs => ?_⟩).below (belowSelf w o), h1.below, h1.c, h1.inv, fun s hs => ?_, h.gb⟩
  · rcases List.mem_cons.1 hs with e | hs
    · omega
    · exact hF.2 hs
  · rcases List.mem_cons.1 hs with e | hs
    · rw [e]; simp
    · exact h1.s s hs
theorem BT.turn (h : BT W0 S tb x w) {g : Nat} (hS : g ∈ S) (hW : W0.heap.size ≤ g) (hg : w.grownBy w' (some g)) : BT W0 S tb x w' := by
  have hb : Below W0.heap.size W0 w' := belowNew h.below hg hW
  refine ⟨h.b.of fun b hlt hF => hg.block b hlt (fun e => ?_), hb, h.c.grown hg (Nat.le_trans h.gb hW), h.inv, fun s hs => Nat.lt_of_lt_of_le (h.s s hs) hg.size, h.gb⟩
  injection e with e
  subst e
  exact hF.2 hS
theorem BT.heard (h : BT W0 S tb x w) (n : Int) : Calls Tryd.prog 23 #[.pointer (some ⟨tb, 0, none⟩), iv n] w fun e w' =>
    e = .returned (.tuple #[iv ((heardT x n).2.getD 0), .bool (heardT x n).2.isSome]) ∧ BT W0 S tb (heardT x n).1 w' ∧ ∀ s ∈ S, w'.heap[s]? = w.heap[s]? :=
  (Heard_any h.b h.c n).mono fun _ _ q => ⟨q.1, h.next (h.inv.heard n) q.2.1 q.2.2, fun s hs => q.2.2.block s (h.s s hs) (fun e => e.2 hs)⟩
theorem BT.gone (h : BT W0 S tb x w) (n : Int) : Calls Tryd.prog 28 #[.pointer (some ⟨tb, 0, none⟩), iv n] w fun e w' =>
    e = .returned (.bool (goneT x n).2) ∧ BT W0 S tb (goneT x n).1 w' ∧ ∀ s ∈ S, w'.heap[s]? = w.heap[s]? :=
  (Gone_any h.b h.c n).mono fun _ _ q => ⟨q.1, h.next (h.inv.gone n) q.2.1 q.2.2, fun s hs => q.2.2.block s (h.s s hs) (fun e => e.2 hs)⟩
theorem BT.knows (h : BT W0 S tb x w) (n : Int) : Calls Tryd.prog 20 #[.pointer (some ⟨tb, 0, none⟩), iv n] w fun e w' =>
    e = .returned (.bool (knowsT x n)) ∧ BT W0 S tb x w' ∧ Below w.heap.size w w' :=
  (Knows_any h.b h.c n).mono fun _ _ q => ⟨q.1, h.on q.2.2, q.2.2⟩
def sorted (l : List Int) : List Int := l.mergeSort fun a b => decide (a ≤ b)
theorem BT.all (h : BT W0 S tb x w) : Calls Tryd.prog 14 #[.pointer (some ⟨tb, 0, none⟩)] w fun e w' =>
    ∃ v, e = .returned v ∧ Owns w' w.heap.size Tin v ((sorted (allB x 257)).map iv) ∧ BT W0 S tb x w' ∧ Below w.heap.size w w' := by
  obtain ⟨sv, hT, _⟩ := h.b
  exact (all_any hT).mono fun _ _ ⟨v, q1, q2, q3⟩ => ⟨v, q1, q2, h.on q3, q3⟩
theorem BT.make (hb : Below W0.heap.size W0 w) (hc : Consts w) (hg : 3 ≤ W0.heap.size) (o : Int) : Calls Tryd.prog 22 #[iv o] w fun e w' => ∃ tb, e = .returned (.pointer (some ⟨tb, 0, none⟩)) ∧ BT W0 [] tb (newT o) w' :=
  (bnew_any o hc).mono fun _ _ ⟨tb, q1, q2, q3, q4⟩ => ⟨tb, q1, ⟨⟨_, q3, fun b hb' => by
    rcases hb' with rfl | ⟨j, _, hj⟩
    · exact ⟨Nat.le_trans hb.size q2, by simp⟩
    · cases hj⟩, belowThen hb q4, hc.below q4, Inv.new o, by simp, hg⟩⟩
end
set_option maxHeartbeats 2000000 in
set_option maxRecDepth 100000 in
theorem refOfPeer_any (s : List UInt8) (w : World) (hs : s.length ≤ 1000000) :
    Calls Tryd.prog 66 #[.int .i64 4, .string (str s)] w fun e w' => e = .returned (.string (str (sha ([99, 114, 118] ++ headOf 4 s.length ++ s)))) ∧ Below w.heap.size w w' := by
  have hcv : ∀ W : World, (convert 79 9 (.slice (some ⟨W.heap.size, 0, none⟩) 1 1)).run Tryd.prog (W.alloc (.cells #[.int .u8 4] 5)) = .ok (.string (str [4])) (W.alloc (.cells #[.int .u8 4] 5)) := fun W => byteStr 4 4 rfl _ (Mem.new W _ _)
  have hcd : ∀ W : World, (convert 79 9 (.slice (some ⟨W.heap.size, 0, none⟩) 1 1)).run Tryd.prog (W.alloc (.cells #[.int .u8 4] 5)).drew = .ok (.string (str [4])) (W.alloc (.cells #[.int .u8 4] 5)).drew := fun W => byteStr 4 4 rfl _ (Mem.new W _ _).drew
  obtain ⟨L, hL⟩ : ∃ L, L = s.length := ⟨_, rfl⟩
  have HL := Lib.hid hL
  have hLI : L ≤ 1000000 := by omega
  have HBY := Lib.hid (fun W => refBytes_any s.length W (by omega))
  have HSZ := Lib.hid (show w.heap.size < ((w.alloc (.cells #[.int .u8 4] 5)).drew).heap.size by simp)
  have u0 : IntKind.u8.wrap 4 = 4 := by decide
  have u1 : IntKind.u32.wrap (s.length : Int) = (s.length : Int) := IntWalk.u32_in _ (by omega)
  have HREF := Lib.hid (fun W => refOf_any ([99, 114, 118] ++ headOf 4 s.length ++ s) W (by simp [headOf, be4]; omega))
  obtain ⟨b4, hb4⟩ : ∃ b4, b4 = be4 s.length := ⟨_, rfl⟩
  have hb4l : b4.length = 4 := by rw [hb4]; rfl
  have HHD := Lib.hid (show [99, 114, 118] ++ headOf 4 s.length ++ s = ([99, 114, 118, 4] : List UInt8) ++ (b4 ++ s) by rw [hb4]; simp [headOf])
  rw [← hb4] at HBY
  obtain ⟨D, hD⟩ : ∃ D, D = sha ([99, 114, 118] ++ headOf 4 s.length ++ s) := ⟨_, rfl⟩
  rw [← hD, HHD.out] at HREF
  rw [← hD]
  clear hL hb4 hD
  go_enter Tryd.func66, Tryd.ntmps66
  go_wp2_with fail
  go_region_with (first
      | (go_at_call 86; refine (HBY.out _).mono ?_; rintro e w1 ⟨rfl, hb1⟩; (first | have hc1 := byteStr 4 4 rfl w1 (Mem.below (Mem.drew (Mem.new w 5 [.int .u8 4])) hb1 HSZ.out) | skip))
      | (go_at_call 85; refine (HREF.out _).mono ?_; rintro e w2 ⟨rfl, hb2⟩)
      | fail)
  all_goals
    rename_i K hK hov
    refine hK _ _ ?_
    go_wp2
    go_ret
    first
      | exact ⟨rfl, belowThen (belowThen (below_drewN (belowSelf w _) 1) hb1) hb2⟩
      | exact ⟨rfl, belowThen (belowThen (belowThen (below_drewN (Below.refl w.heap.size w) 1) hb1) (belowSelf _ _)) hb2⟩
set_option maxHeartbeats 1000000 in
set_option maxRecDepth 100000 in
theorem refID_any (n : Nat) (hn : n < 256) (w : World) : Calls Tryd.prog 39 #[iv n] w fun e w' => e = .returned (tx (idN n)) ∧ Below w.heap.size w w' := by
  have HR := Lib.hid (fun w => refOfPeer_any [b8 n] w (by simp))
  have hD : sha ([99, 114, 118] ++ headOf 4 [b8 (n : Int)].length ++ [b8 n]) = idN n := rfl
  simp only [hD] at HR
  obtain ⟨d, hd⟩ : ∃ d, d = idN n := ⟨_, rfl⟩
  simp only [← hd] at HR ⊢
  have hb : (n : Int) = ((b8 (n : Int)).toNat : Int) := by rw [b8_nat]; omega
  have hs := byteStr (n : Int) (b8 n) hb (w.alloc (.cells #[.int .u8 (n : Int)] 5)) (Mem.new w 5 [.int .u8 (n : Int)])
  obtain ⟨c, hc⟩ : ∃ c, c = b8 (n : Int) := ⟨_, rfl⟩
  rw [← hc] at HR hs
  have hm : (n : Int) % 256 = (n : Int) := by omega
  clear hd hD hb hc
  go_enter Tryd.func39, Tryd.ntmps39
  go_wp2_with fail
  refine (HR.out _).mono ?_
  rintro e w1 ⟨rfl, hb1⟩
  have HB := Lib.hid (belowThen (belowSelf w _) hb1)
  clear hb1
  go_wp2_with fail
  go_ret
  exact ⟨rfl, HB.out⟩
/-- The answers of awake's table. -/
theorem aw19 : (heardT (newT 0) 5).2 = none ∧ knowsT (heardT (newT 0) 5).1 5 = true ∧ (goneT (heardT (newT 0) 5).1 5).2 = true ∧ knowsT (heardT (newT 0) 5).1 0 = false ∧ (allB (heardT (newT 0) 5).1 257).length = 1 ∧ (allB (goneT (heardT (newT 0) 5).1 5).1 257).length = 0 := by
  have hI := Inv.new 0
  have ok : okA (newT 0).own 5 := by decide
  have hlt : rowB (newT 0) 5 < 257 := by have := rowB_le (newT 0) 5; omega
  have h0 : rowB (newT 0) 0 = 256 := hI.own
  have hh : heardT (newT 0) 5 = (putB (newT 0) (rowB (newT 0) 5) [5] [], none) := by
    unfold heardT heardB
    rw [if_pos ok]
    simp [newT]
  have hg : goneT (putB (newT 0) (rowB (newT 0) 5) [5] []) 5 = (putB (putB (newT 0) (rowB (newT 0) 5) [5] []) (rowB (newT 0) 5) [] [], true) := by
    unfold goneT goneB
    rw [rowB_put, K_put, Q_put]
    simp
  have hall : ∀ m, (allB (newT 0) m).length = 0 := fun m => by
    induction m with
    | zero => rfl
    | succ m ih => rw [allB_succ, List.length_append, ih]; rfl
  have l1 := len_put (newT 0) (rowB (newT 0) 5) [5] [] 257 hlt
  have l2 := len_put (putB (newT 0) (rowB (newT 0) 5) [5] []) (rowB (newT 0) 5) [] [] 257 hlt
  rw [hall] at l1
  rw [K_put] at l2
  have e0 : (newT 0).K (rowB (newT 0) 5) = [] := rfl
  rw [e0] at l1
  simp only [List.length_cons, List.length_nil] at l1 l2
  rw [hh]
  refine ⟨rfl, ?_, by rw [hg], ?_, by simp only; omega, by rw [hg]; simp only; omega⟩
  · unfold knowsT
    simp [rowB_put, K_put]
  · have h5 := (hI.heard 5)
    rw [hh] at h5
    unfold knowsT
    simp only [rowB_put]
    refine decide_eq_false fun hm => ?_
    exact ((h5.kin _ _ hm).2.1) rfl
theorem length_sorted (l : List Int) : (sorted l).length = l.length := List.length_mergeSort _
set_option maxHeartbeats 2000000 in
set_option maxRecDepth 100000 in
theorem awake19_any (w : World) (hc : Consts w) : Calls Tryd.prog 11 #[] w fun e w' => e = .returned (.bool true) ∧ Below w.heap.size w w' := by
  have HN := Lib.hid (BT.make (W0 := w) (Below.refl _ w) hc hc.2.lt 0)
  have HI := Lib.hid (fun (w1 : World) (hc : Consts w1) => id_any 7 w1 hc)
  have HR := Lib.hid (fun (w1 : World) => refID_any 7 (by omega) w1)
  have HL := Lib.hid (length_idN 7)
  obtain ⟨d, hd⟩ : ∃ d, d = idN 7 := ⟨_, rfl⟩
  have hd' : idN ((7 : Nat) : Int) = d := hd.symm
  simp only [hd'] at HR
  simp only [← hd] at HI HL
  clear hd hd'
  have HBY := Lib.hid (fun (w1 : World) => bytes_any d w1 HL.out)
  obtain ⟨a1, a2, a3, a4, a5, a6⟩ := aw19
  obtain ⟨x1, hx1⟩ : ∃ x1, x1 = (heardT (newT 0) 5).1 := ⟨_, rfl⟩
  obtain ⟨x2, hx2⟩ : ∃ x2, x2 = (goneT x1 5).1 := ⟨_, rfl⟩
  rw [← hx1] at a2 a3 a4 a5 a6
  rw [← hx2] at a6
  have A1 := Lib.hid a1
  have A2 := Lib.hid a2
  have A3 := Lib.hid a3
  have A4 := Lib.hid a4
  have A5 := Lib.hid a5
  have A6 := Lib.hid a6
  have X1 := Lib.hid hx1
  have X2 := Lib.hid hx2
  clear a1 a2 a3 a4 a5 a6 hx1 hx2 hc
  go_enter Tryd.func11, Tryd.ntmps11
  go_wp2_with fail
  refine HN.out.mono ?_
  rintro e w1 ⟨tb, rfl, h1⟩
  have H1 := Lib.hid h1
  clear h1 HN
  go_wp2_with fail
  refine (H1.out.heard 5).mono ?_
  rintro e w2 ⟨rfl, h2, -⟩
  rw [A1.out, ← X1.out] at *
  have H2 := Lib.hid h2
  clear h2 H1
  go_wp2_with fail
  refine (H2.out.knows 5).mono ?_
  rintro e w3 ⟨rfl, h3, -⟩
  rw [A2.out]
  have H3 := Lib.hid h3
  clear h3 H2
  go_wp2_with fail
  refine (H3.out.knows 0).mono ?_
  rintro e w4 ⟨rfl, h4, -⟩
  rw [A4.out]
  have H4 := Lib.hid h4
  clear h4 H3
  go_wp2_with fail
  refine (H4.out.all).mono ?_
  rintro e w5 ⟨v, rfl, ho, h5, -⟩
  obtain ⟨q1, q2, rfl, -, -, -⟩ := ho.form
  have HLN := Lib.hid (show (List.map iv (sorted (allB x1 257))).length = 1 by rw [List.length_map, length_sorted, A5.out])
  rw [HLN.out]
  have H5 := Lib.hid h5
  clear h5 H4 ho
  go_wp2_with fail
  refine (H5.out.gone 5).mono ?_
  rintro e w6 ⟨rfl, h6, -⟩
  rw [A3.out]
  rw [← X2.out] at h6
  have H6 := Lib.hid h6
  clear h6 H5
  go_wp2_with fail
  refine (H6.out.all).mono ?_
  rintro e w7 ⟨v, rfl, ho, h7, -⟩
  obtain ⟨q3, q4, rfl, -, -, -⟩ := ho.form
  have HLM := Lib.hid (show (List.map iv (sorted (allB x2 257))).length = 0 by rw [List.length_map, length_sorted, A6.out])
  rw [HLM.out]
  have H7 := Lib.hid h7
  clear h7 H6 ho
  go_wp2_with fail
  refine (HI.out w7 H7.out.c).mono ?_
  rintro e w8 ⟨rfl, hb8⟩
  have H8 := Lib.hid (H7.out.on hb8)
  clear hb8 H7
  go_wp2_with fail
  refine (HBY.out w8).mono ?_
  rintro e w9 ⟨rfl, hb9⟩
  have H9 := Lib.hid (H8.out.on hb9)
  clear hb9 H8
  go_wp2_with fail
  refine (HR.out w9).mono ?_
  rintro e w10 ⟨rfl, hb10⟩
  have H10 := Lib.hid (H9.out.on hb10)
  clear hb10 H9
  go_wp2_with fail
  go_ret
  exact ⟨by first | rfl | simp, H10.out.below⟩
end Go.Proofs.YtaicjdjfhbmfeaaDoor

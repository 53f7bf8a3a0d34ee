/-
  Package bucket: New, All.
-/
import Derived.Test.YtaicjdjfhbmfeaaDoorBkt7
import Derived.Test.YtaicjdjfhbmfeaaDoorIt
namespace Go.Proofs.YtaicjdjfhbmfeaaDoor
open Go.RowKit Go.Sort Go.Shelf Crv

abbrev Tbs : TypeId := 74
abbrev Tbk : TypeId := 73
theorem foldB (off : Nat) : ∀ (l : List Value) (k : Nat) (arr : Array Value), off + k + l.length ≤ arr.size → List.foldl (fun (cs : Array Value) (x : Value × Nat) => cs.setIfInBounds (off + x.snd) x.fst) arr (l.zipIdx k) = (arr.toList.take (off + k) ++ l ++ arr.toList.drop (off + k + l.length)).toArray
  | [], k, arr, h => by simp
  | a :: l, k, arr, h => by
    have h' : off + k + l.length + 1 ≤ arr.size := by simpa [Nat.add_assoc] using h
    rw [List.zipIdx_cons, List.foldl_cons, foldB off l (k + 1) (arr.setIfInBounds (off + k) a) (by simp; omega)]
    congr 1
    rw [Array.toList_setIfInBounds, ← Nat.add_assoc, List.take_succ_eq_append_getElem (by simp; omega), List.take_set_of_le (Nat.le_refl _), List.drop_set_of_lt (by omega)]
    simp [Nat.add_assoc, Nat.add_comm 1]
def nilsC : List Value := List.replicate 514 (.slice none 0 0)
theorem length_nilsC : nilsC.length = 514 := List.length_replicate
/-- A new table's cells. -/
def tabC (o : Int) (a : List UInt8) : List Value := iv o :: (a.map byteV ++ nilsC)
theorem length_tabC (o : Int) (a : List UInt8) (ha : a.length = 32) : (tabC o a).length = 547 := by simp [tabC, ha, length_nilsC]
theorem zero_tab (W : World) : (zeroValue Ttb).run Tryd.prog W = .ok (.agg (tabC 0 (List.replicate 32 0)).toArray) W := by kernel_rfl
theorem set_tab (o : Int) : (tabC 0 (List.replicate 32 0)).set 0 (iv o) = tabC o (List.replicate 32 0) := rfl
theorem fold_tab (a : List UInt8) (ha : a.length = 32) (o : Int) : List.foldl (fun (cs : Array Value) (x : Value × Nat) => cs.setIfInBounds (1 + x.snd) x.fst) (tabC o (List.replicate 32 0)).toArray ((a.map byteV).zipIdx 0) = (tabC o a).toArray := by
  have h := foldB 1 (a.map byteV) 0 (tabC o (List.replicate 32 0)).toArray (by rw [List.size_toArray, length_tabC _ _ rfl, List.length_map, ha]; omega)
  rw [h, List.length_map, ha]
  congr 1
theorem run_build_tab (o : Int) (a : List UInt8) (ha : a.length = 32) (W : World) : (Instr.build Ttb #[(0, iv o), (1, .agg (a.map byteV).toArray)]).run Tryd.prog W = .ok (.agg (tabC o a).toArray) W := by
  have hz := zero_tab W
  have h1 := set_tab o
  have h2 := fold_tab a ha o
  have l1 : (tabC 0 (List.replicate 32 0)).length = 547 := length_tabC _ _ rfl
  have l2 : (tabC o (List.replicate 32 0)).length = 547 := length_tabC _ _ rfl
  obtain ⟨Z, hZ⟩ : ∃ Z, Z = tabC 0 (List.replicate 32 0) := ⟨_, rfl⟩
  obtain ⟨Y, hY⟩ : ∃ Y, Y = tabC o (List.replicate 32 0) := ⟨_, rfl⟩
  rw [← hZ] at hz h1 l1
  rw [← hY] at h1 h2 l2
  clear hZ hY
  obtain ⟨X, hX⟩ : ∃ X, X = tabC o a := ⟨_, rfl⟩
  rw [← hX] at h2 ⊢
  clear hX
  unfold Instr.build
  simp only [Sem.run_bind, hz, Result.andThen_ok]
  simp [go_sem, Instr.fill, l1, l2, h1, ha]
  exact h2
theorem Tbl.new {W : World} {tb : Nat} {o : Int} (h : Mem W tb Ttb (tabC o (idN o))) : Tbl W tb (fun _ => .slice none 0 0) (newT o) := by
  refine ⟨Tag.mem h, h.cell 0, fun i v hv => ?_, length_idN o, fun j hj => ?_, fun j _ => ?_, ?_, by simp [newT], by simp [newT]⟩
  · have hv' : ((idN o).map byteV)[i]? = some v := hv
    rw [h.cell (1 + i)]
    unfold tabC
    rw [Nat.add_comm, List.getElem?_cons_succ, List.getElem?_append_left (List.getElem?_eq_some_iff.1 hv').1, hv']
  · rw [h.cell (33 + j)]
    unfold tabC
    rw [show 33 + j = (32 + j) + 1 from by omega, List.getElem?_cons_succ, List.getElem?_append_right (by rw [List.length_map, length_idN]; omega), List.length_map, length_idN, Nat.add_sub_cancel_left]
    unfold nilsC
    rw [List.getElem?_replicate, if_pos hj]
  · have e : lstB (newT o) j = [] := by unfold lstB newT; simp
    rw [e]
    exact Owns.nil _ _ _
  · intro j j' b _ _ hb
    cases hb
section
variable {P : Program} {ops : Array Oper} {rest : List Oper} {o : Oper} {a : Act} {w : World} {Q : Exit → Act → World → Prop}
theorem wp_buildB {ty : TypeId} {x y : Operand} {u v r : Value} (hr : (Instr.build ty #[(0, u), (1, v)]).run P w = .ok r w) (hgd : o.guard = none) (ho : o.op = .build ty #[(0, x), (1, y)]) (hx : a.eval x = u) (hy : a.eval y = v)
    (h : wpList P ops Q rest (a.put o.dst r) w) : wpList P ops Q (o :: rest) a w := by
  refine wpList_plain hgd fun K hK => ?_
  unfold Oper.wp execOp
  simp only [ho, List.map_toArray, List.map_cons, List.map_nil, hx, hy, hr, Sem.run_bind, Sem.run_pure, Result.andThen_ok]
  exact hK _ _ h
end
section
variable {W W' : World} {tb : Nat} {sv : Nat → Value} {x : BS} {F : Nat → Prop}
theorem one_tabC (o : Int) (a : List UInt8) : ∀ u ∈ tabC o a, u.oneCell' = true := by
  intro u hu
  rcases List.mem_cons.1 hu with rfl | hu
  · rfl
  rcases List.mem_append.1 hu with hu | hu
  · exact oneBytes _ u hu
  · have := List.eq_of_mem_replicate hu
    subst this
    rfl
set_option maxHeartbeats 1000000 in
set_option maxRecDepth 100000 in
theorem bnew_any (o : Int) (hc : Consts W) : Calls Tryd.prog 22 #[iv o] W fun e w' =>
    ∃ tb, e = .returned (.pointer (some ⟨tb, 0, none⟩)) ∧ W.heap.size ≤ tb ∧ Tbl w' tb (fun _ => .slice none 0 0) (newT o) ∧ Below W.heap.size W w' := by
  have HI := Lib.hid (id_any o W hc)
  have HB := Lib.hid (fun w => run_build_tab o (idN o) (length_idN o) w)
  have HN := Lib.hid (fun (w1 : World) (g : Nat) (hm : Mem w1 g Ttb (tabC o (idN o))) => Tbl.new hm)
  have HL := Lib.hid (length_tabC o (idN o) (length_idN o))
  obtain ⟨C, hC⟩ : ∃ C, C = tabC o (idN o) := ⟨_, rfl⟩
  obtain ⟨a, ha⟩ : ∃ a, a = idN o := ⟨_, rfl⟩
  simp only [← hC] at HB HN HL
  simp only [← ha] at HI HB
  clear hC ha hc
  go_enter Tryd.func22, Tryd.ntmps22
  go_wp2_with fail
  refine HI.out.mono ?_
  rintro e w1 ⟨rfl, hb⟩
  have HBB := Lib.hid hb
  clear hb
  go_wp2_with (first
    | (refine wp_buildB (HB.out _) rfl rfl rfl rfl ?_)
    | fail)
  go_ret
  exact ⟨_, rfl, HBB.out.size, HN.out _ _ (Mem.new w1 Ttb C), belowThen HBB.out (belowSelf w1 _)⟩
theorem ld_bs (p : Value) : Instr.loadAt Tbs p = ldRow Tbs p := rfl
/-- All lists' cells. -/
def bsC (sv : Nat → Value) : List Value := (List.range 514).map sv
theorem length_bsC (sv : Nat → Value) : (bsC sv).length = 514 := by simp [bsC]
theorem Tbl.ldB (h : Tbl W tb sv x) : (ldRow Tbs (.pointer (some ⟨tb, 33, none⟩))).run Tryd.prog W = .ok (.agg (bsC sv).toArray) W :=
  run_loadAt_mid _ tb 33 Tbs (bsC sv) (.array 257 Tbk) (fun j u hu => by
    have hj : j < 514 := by have := (List.getElem?_eq_some_iff.1 hu).1; rw [length_bsC] at this; exact this
    rw [h.cell j hj]
    unfold bsC at hu
    rw [List.getElem?_map, List.getElem?_range hj] at hu
    exact hu) Tryd.underlying74 rfl (by rw [length_bsC]; kernel_rfl)
theorem extract2 (l : List Value) (i : Nat) (a b : Value) (ha : l[i]? = some a) (hb : l[i + 1]? = some b) : l.toArray.extract i (i + 2) = #[a, b] := by
  have hi := (List.getElem?_eq_some_iff.1 hb).1
  have h1 : l[i] = a := (List.getElem?_eq_some_iff.1 ha).2
  have h2 : l[i + 1] = b := (List.getElem?_eq_some_iff.1 hb).2
  apply Array.ext'
  rw [List.extract_toArray]
  show (l.extract i (i + 2)) = [a, b]
  rw [List.extract_eq_take_drop, List.drop_eq_getElem_cons (by omega), List.drop_eq_getElem_cons hi, show i + 2 - i = 2 by omega, h1, h2]
  rfl
theorem bsC_get (sv : Nat → Value) (j : Nat) (hj : j < 514) : (bsC sv)[j]? = some (sv j) := by
  unfold bsC
  rw [List.getElem?_map, List.getElem?_range hj]
  rfl
theorem index_bs (sv : Nat → Value) (i : Nat) (hi : i < 257) (W : World) : (Instr.index Tbs (.agg (bsC sv).toArray) (.int .i64 (i : Int))).run Tryd.prog W = .ok (.agg #[sv (i * 2), sv (i * 2 + 1)]) W := by
  have h0 : (0 : Int) ≤ i ∧ (i : Int) < 257 := by omega
  have hz : (Go.sizeOf Tbk).run Tryd.prog W = .ok 2 W := by kernel_rfl
  have hx := extract2 (bsC sv) (i * 2) _ _ (bsC_get sv (i * 2) (by omega)) (bsC_get sv (i * 2 + 1) (by omega))
  simp [Instr.index, asIntOf, run_underlying Tryd.underlying74, hi, hz, part]
  simpa using hx
theorem ys_len (x : BS) (h : ∀ k, (x.K k).length ≤ 4) : ∀ m, (allB x m).length ≤ m * 4
  | 0 => by simp [allB]
  | m + 1 => by
    have := ys_len x h m
    have := h m
    rw [allB_succ, List.length_append]
    omega
theorem below_own {w0 w w' : World} {v : Value} (h : Below w0.heap.size w0 w) (hg : w.grownBy w' v.ownBlock) (hs : ∀ g, v.ownBlock = some g → w0.heap.size ≤ g) : Below w0.heap.size w0 w' :=
  ⟨hg.os.trans h.os, hg.tape.trans h.tape, hg.output.trans h.output, Nat.le_trans h.size hg.size, fun k hk => (hg.block k (Nat.lt_of_lt_of_le hk h.size) (fun e => by have := hs k e.symm; omega)).trans (h.block k hk)⟩
theorem take_put {zs d : List Int} {cur : Array Value} (h : zs.length ≤ cur.size) (hd : d.length = zs.length) : (putCells (Value.int .i64) 0 d.toArray cur).toList.take zs.length = d.map iv := by
  apply List.ext_getElem?
  intro j
  by_cases hj : j < zs.length
  · rw [List.getElem?_take_of_lt hj, Array.getElem?_toList]
    simp only [putCells, Array.getElem?_mapIdx]
    rw [Array.getElem?_eq_getElem (by omega), Option.map_some, if_pos ⟨Nat.zero_le _, by simp; omega⟩, List.getElem?_map, List.getElem?_eq_getElem (by omega), Nat.sub_zero]
    simp [hd, hj]
  · rw [List.getElem?_eq_none (by rw [List.length_take]; omega), List.getElem?_eq_none (by rw [List.length_map]; omega)]
theorem sort_any {w : World} {base : Nat} {v : Value} {zs : List Int} (ho : Owns w base Tin v (zs.map iv)) (hl : zs.length ≤ 1000000) : Calls Tryd.prog 42 #[v] w fun e w' =>
    e = .returned (.tuple #[]) ∧ Owns w' base Tin v ((zs.mergeSort fun a b => decide (a ≤ b)).map iv) ∧ w.grownBy w' v.ownBlock := by
  have hlen := ho.1
  rw [List.length_map] at hlen
  rcases ho.2 with ⟨rfl, h0⟩ | ⟨g, cap, cur, rfl, hb, hg, hn, hm, hs, ht⟩
  · have e : zs = [] := by cases zs with
      | nil => rfl
      | cons y r => simp at h0
    subst e
    have h := AnyM.slices_Sort_int_none Tryd.sortA none 0 w
    refine Calls.mono (P := Tryd.prog) (f := 42) h ?_
    rintro e w' ⟨rfl, rfl⟩
    exact ⟨rfl, by simpa using ho, grownRefl _ _⟩
  · rw [List.length_map] at hn ht
    rw [List.length_map]
    have hgl := (Array.getElem?_eq_some_iff.1 hg).1
    have h := AnyM.slices_Sort_int Tryd.sortA g 0 cap zs w (fun j hj => by
      have hj' : j < zs.length := by simpa using hj
      have hc : cur.toList[j]? = some (iv zs[j]) := by
        have := congrArg (fun l : List Value => l[j]?) ht
        simp only [Nat.mul_one, List.getElem?_take_of_lt hj', List.getElem?_map, List.getElem?_eq_getElem hj', Option.map_some] at this
        exact this
      constructor
      · simp [World.cell?, hg]
        rw [← Array.getElem?_toList, hc, List.getElem?_eq_getElem hj']
        rfl
      · simp [World.frozen?, hg]) hgl (by omega)
    refine Calls.mono (P := Tryd.prog) (f := 42) h ?_
    rintro e w' ⟨rfl, n, os, rfl⟩
    have hsl : (zs.mergeSort fun a b => decide (a ≤ b)).length = zs.length := List.length_mergeSort _
    refine ⟨rfl, ⟨by simp [hsl], .inr ⟨g, cap, putCells (Value.int .i64) 0 (zs.mergeSort fun a b => decide (a ≤ b)).toArray cur, by simp [hsl], hb, ?_, by simp [hsl]; omega, hm, by simp [putCells, hs], ?_⟩⟩, ?_⟩
    · have hgm : (putRow (Value.int .i64) (Sort.ahead w n) g 0 (zs.mergeSort fun a b => decide (a ≤ b)).toArray).heap[g]? = some (.cells (putCells (Value.int .i64) 0 (zs.mergeSort fun a b => decide (a ≤ b)).toArray cur) Tin (0, 0)) := by
        show (w.heap.modify g _)[g]? = _
        rw [Array.getElem?_modify, if_pos rfl, hg]
        rfl
      show (_ ++ os)[g]? = _
      rw [Array.getElem?_append_left (by rw [size_putRow]; exact hgl)]
      exact hgm
    · rw [List.length_map, Nat.mul_one, hsl]
      exact take_put (by omega) hsl
    · refine ⟨rfl, rfl, rfl, by simp [grow, Sort.ahead], fun k hk hne => ?_⟩
      show (_ ++ os)[k]? = _
      rw [Array.getElem?_append_left (by rw [size_putRow]; exact hk)]
      have hne' : g ≠ k := fun e => hne (by rw [e]; rfl)
      simp [putRow, mapBlock, Sort.ahead, Array.getElem?_modify, hne']
attribute [local go_sem ↓] ld_bs
set_option maxHeartbeats 1000000 in
set_option maxRecDepth 100000 in
theorem all_any (h : Tbl W tb sv x) : Calls Tryd.prog 14 #[.pointer (some ⟨tb, 0, none⟩)] W fun e w' =>
    ∃ v, e = .returned v ∧ Owns w' W.heap.size Tin v (((allB x 257).mergeSort fun a b => decide (a ≤ b)).map iv) ∧ Below W.heap.size W w' := by
  have hld := h.ldB
  have HIX := Lib.hid (index_bs sv)
  have HT := Lib.hid h
  have HL := Lib.hid (ys_len x h.k4)
  obtain ⟨C, hC⟩ : ∃ C, C = bsC sv := ⟨_, rfl⟩
  rw [← hC] at hld HIX
  clear h hC
  go_enter Tryd.func14, Tryd.ntmps14
  go_wp2_with fail
  go_loopw [3, 10] (fun v k wr => ∃ i : Nat, i ≤ 257 ∧ k = .int .i64 i ∧ Hid (Owns wr W.heap.size Tin v ((allB x i).map iv)) ∧ Below W.heap.size W wr) (fun _ k _ => 257 - (intOf k).toNat)
  case atStart => exact ⟨0, by omega, rfl, Lib.hid (Owns.nil _ _ _), Below.refl _ _⟩
  case round =>
    obtain ⟨i, hi, rfl, HO, hb⟩ := hrel
    have HB := Lib.hid hb
    by_cases hlt : i < 257
    · have hix := HIX.out i hlt
      have hl1 : (i : Int) < 257 := by omega
      have hTr := HT.out.below hb
      have hO1 := hTr.own (i * 2) (by omega)
      have hO2 := hTr.own (i * 2 + 1) (by omega)
      rw [lstB_K] at hO1
      obtain ⟨a1, c1, e1, -, -, -⟩ := hO1.form
      obtain ⟨a2, c2, e2, -, -, -⟩ := hO2.form
      rw [List.length_map] at e1 e2
      rw [e1, e2] at hix
      rw [e1] at hO1
      have HO1 := Lib.hid hO1
      have hll := HL.out i
      have HLL := Lib.hid (show (allB x i).length + (x.K i).length ≤ 1000000 by have := hTr.k4 i; omega)
      clear hTr hO1 hO2 e1 e2 hb hll
      obtain ⟨⟨hq0, hsz⟩⟩ : Nonempty (PProd (W.heap.size ≤ wr.heap.size) True) := ⟨⟨HB.out.size, trivial⟩⟩
      have HSZ := Lib.hid hq0
      clear hq0 hsz
      go_wp2_with (first
        | (at_builtin
           obtain ⟨v3, w3, hr3, ho3, hg3, hat3⟩ := run_append_two (W := wr.alloc (.cells #[.slice a1 (x.K i).length c1, .slice a2 (lstB x (i * 2 + 1)).length c2] Tbk)) (HO.out.alloc _) (HO1.out.alloc _) HLL.out Tis (Nat.le_trans HSZ.out (belowSelf wr _).size)
           refine wp_append_at (.tmp 13) (.tmp 15) Tis Tis hr3 rfl rfl rfl rfl rfl ?_
           have HO3 := Lib.hid ho3
           have HB3 := Lib.hid (show Below W.heap.size W w3 from below_own (belowThen HB.out (belowSelf wr _)) hg3 (fun g hg => (HO.out.lt g hg).2))
           clear hr3 ho3 hg3 hat3)
        | fail)
      go_round
      case rel => exact ⟨i + 1, by omega, by go_num, by rw [allB_succ]; exact HO3, HB3.out⟩
      case measure => simp [intOf]; omega
    · have hl1 : ¬ (i : Int) < 257 := by omega
      have hi2 : i = 257 := by omega
      subst hi2
      have HS := Lib.hid (sort_any HO.out (by have := HL.out 257; omega))
      clear hb
      go_wp2_with fail
      refine HS.out.mono ?_
      rintro e w1 ⟨rfl, ho, hg⟩
      have HO2 := Lib.hid ho
      have HB2 := Lib.hid (show Below W.heap.size W w1 from below_own HB.out hg (fun g hg => (HO.out.lt g hg).2))
      clear ho hg
      go_wp2_with fail
      go_ret
      exact ⟨_, rfl, HO2.out, HB2.out⟩
end
end Go.Proofs.YtaicjdjfhbmfeaaDoor

/-
  slices.Delete, Index and Contains of numbers.
-/
import Derived.Test.YtaicjdjfhbmfeaaDoorBkt2
import Derived.Lib.SliceRun
namespace Go.Proofs.YtaicjdjfhbmfeaaDoor
open Go.RowKit Crv

theorem int_inf : ∃ i, Tryd.prog.info? Tin = some i ∧ i.zero = some (iv 0) ∧ i.size = 1 ∧ i.bytes = 8 := info_of (by kernel_rfl)
theorem delete_run {W : World} {g i m cap : Nat} {cur : Array Value} (hg : W.heap[g]? = some (.cells cur Tin (0, 0))) (hi : i ≤ m) (hm : m + 1 ≤ cap) (hs : cur.size = cap) (h1 : ∀ u ∈ cur.toList.take (m + 1), u.oneCell' = true) :
    ∃ W1 W2 cur2, (∀ ty, (Builtin.append_ #[Tis, Tis] ty #[.slice (some ⟨g, 0, none⟩) i cap, .slice (if cap = i + 1 then some ⟨g, 0, none⟩ else some ⟨g, i + 1, none⟩) (m + 1 - (i + 1)) (cap - (i + 1))]).run Tryd.prog W = .ok (.slice (some ⟨g, 0, none⟩) m cap) W1) ∧
      (∀ ty, (Builtin.clear_ #[Tis] ty #[.slice (some ⟨g, m, none⟩) (m + 1 - m) (cap - m)]).run Tryd.prog W1 = .ok (.tuple #[]) W2) ∧ W.grownBy W2 (some g) ∧
      W2.heap[g]? = some (.cells cur2 Tin (0, 0)) ∧ cur2.size = cap ∧ cur2.toList.take m = (cur.toList.take (m + 1)).eraseIdx i := by
  obtain ⟨ti, hti, hz, hs1, hby⟩ := int_inf
  have hln : cur.toList.length = cap := by simp [hs]
  have hnl : ((cur.toList.take (m + 1)).drop (i + 1)).length = (m + 1 - (i + 1)) * ti.size := by
    rw [hs1, Nat.mul_one, List.length_drop, List.length_take, hln]
    omega
  have happ : ∀ ty, (Builtin.append_ #[Tis, Tis] ty #[.slice (some ⟨g, 0, none⟩) i cap, .slice (if cap = i + 1 then some ⟨g, 0, none⟩ else some ⟨g, i + 1, none⟩) (m + 1 - (i + 1)) (cap - (i + 1))]).run Tryd.prog W = .ok (.slice (some ⟨g, 0, none⟩) m cap) (W.setRow g (cur.toList.take i ++ (cur.toList.take (m + 1)).drop (i + 1) ++ cur.toList.drop m).toArray) := by
    intro ty
    have key : ∀ a : Addr, (∀ j u, ((cur.toList.take (m + 1)).drop (i + 1))[j]? = some u → W.cell? (a.add j) = some u) →
        (Builtin.append_ #[Tis, Tis] ty #[.slice (some ⟨g, 0, none⟩) i cap, .slice (some a) (m + 1 - (i + 1)) (cap - (i + 1))]).run Tryd.prog W = .ok (.slice (some ⟨g, 0, none⟩) m cap) (W.setRow g (cur.toList.take i ++ (cur.toList.take (m + 1)).drop (i + 1) ++ cur.toList.drop m).toArray) := by
      intro a ha
      have h := run_append_room (P := Tryd.prog) W Tis ty Tin ti Tryd.underlying31 hti g i cap cur hg a (m + 1 - (i + 1)) (cap - (i + 1)) _ hnl ha (fun u hu => h1 u (List.mem_of_mem_drop hu)) (by omega) (by rw [hnl, hs1, hs]; omega)
      rw [h, hnl, hs1, Nat.mul_one, Nat.mul_one, show i + (m + 1 - (i + 1)) = m by omega]
    have hcells : ∀ j u, ((cur.toList.take (m + 1)).drop (i + 1))[j]? = some u → W.cell? ⟨g, i + 1 + j, none⟩ = some u := by
      intro j u hu
      rw [List.getElem?_drop] at hu
      have hlt : i + 1 + j < m + 1 := by
        have := (List.getElem?_eq_some_iff.1 hu).1
        rw [List.length_take] at this
        omega
      rw [List.getElem?_take_of_lt hlt] at hu
      simp [World.cell?, hg]
      simpa using hu
    split
    · rename_i hc
      refine key _ fun j u hu => ?_
      have hlt := (List.getElem?_eq_some_iff.1 hu).1
      rw [List.length_drop, List.length_take, hln] at hlt
      omega
    · refine key _ fun j u hu => ?_
      rw [show (⟨g, i + 1, none⟩ : Addr).add j = ⟨g, i + 1 + j, none⟩ from by unfold Addr.add; split <;> simp_all]
      exact hcells j u hu
  have hM : Mem (W.setRow g (cur.toList.take i ++ (cur.toList.take (m + 1)).drop (i + 1) ++ cur.toList.drop m).toArray) g Tin (cur.toList.take i ++ (cur.toList.take (m + 1)).drop (i + 1) ++ cur.toList.drop m) := setRow_heap W g _ _ Tin (0, 0) hg
  have hlen : (cur.toList.take i ++ (cur.toList.take (m + 1)).drop (i + 1) ++ cur.toList.drop m).length = cap := by
    simp only [List.length_append, List.length_take, List.length_drop, hln]
    omega
  have hgr : W.grownBy (W.setRow g (cur.toList.take i ++ (cur.toList.take (m + 1)).drop (i + 1) ++ cur.toList.drop m).toArray) (some g) :=
    ⟨rfl, rfl, rfl, by simp [World.setRow], fun k hk hne => heap_setRow_other W g k _ (fun e => hne (by rw [e]))⟩
  obtain ⟨W1, hW1⟩ : ∃ W1, W1 = W.setRow g (cur.toList.take i ++ (cur.toList.take (m + 1)).drop (i + 1) ++ cur.toList.drop m).toArray := ⟨_, rfl⟩
  rw [← hW1] at happ hM hgr
  have hcl : ∀ ty, (Builtin.clear_ #[Tis] ty #[.slice (some ⟨g, m, none⟩) (m + 1 - m) (cap - m)]).run Tryd.prog W1 = .ok (.tuple #[]) (W1.setCell ⟨g, m, none⟩ (iv 0)) := by
    intro ty
    have h := Lib.run_clear_slice (P := Tryd.prog) W1 Tis Tin ty (iv 0) Tryd.underlying31 (fun w => by kernel_rfl) rfl rfl g m (m + 1 - m) (cap - m) (by omega) (fun j hj => by
      rw [hM.cell, List.getElem?_eq_getElem (by omega)]; rfl) (fun j hj => hM.frozen _)
    rw [h, show m + 1 - m = 1 by omega]
    rfl
  refine ⟨W1, _, (cur.toList.take i ++ (cur.toList.take (m + 1)).drop (i + 1) ++ cur.toList.drop m).set m (iv 0) |>.toArray, happ, hcl, ?_, hM.set m (iv 0), ?_, ?_⟩
  · exact ⟨hgr.os, hgr.tape, hgr.output, by simpa [World.setCell] using hgr.size, fun k hk hne => (Below.heap_setCell W1 ⟨g, m, none⟩ (iv 0) k (fun e => hne (by rw [e]))).trans (hgr.block k hk hne)⟩
  · simp only [List.size_toArray, List.length_set, hlen]
  · rw [List.toList_toArray, List.take_set_of_le (Nat.le_refl m), List.take_append_of_le_length (by simp only [List.length_append, List.length_take, List.length_drop, hln]; omega),
      List.take_of_length_le (by simp only [List.length_append, List.length_take, List.length_drop, hln]; omega), List.eraseIdx_eq_take_drop_succ, List.take_take, Nat.min_eq_left (by omega)]
theorem step_append_run {P : Program} {ops : Array Oper} {o : Oper} {a : Act} {w : World} {Q : Exit → Act → World → Prop} {K : Act → World → Prop} {E : Prop} {v y v' : Value} {w' : World} (s x : Operand) (t : TypeId)
    (hr : ∀ ty, (Builtin.append_ #[t, t] ty #[v, y]).run P w = .ok v' w') (hgd : o.guard = none) (ho : o.op = .call { callee := .builtin .append, args := #[s, x], argTypes := #[t, t] }) (hs : a.eval s = v) (hx : a.eval x = y)
    (h : K (a.put o.dst v') w') : if Region.wanted o (yielded ops a.tmps) = true then Oper.wp P o a w K Q else E := by
  have hw : Region.wanted o (yielded ops a.tmps) = true := by simp [Region.wanted, hgd]
  rw [if_pos hw]
  unfold Oper.wp execOp
  simp only [ho, resolve, invoke, builtin, Sem.run_bind, Sem.run_pure, Result.andThen_ok, List.map_toArray, List.map_cons, List.map_nil, hs, hx, hr]
  exact h
theorem map_eraseIdx' {α β : Type} (f : α → β) : ∀ (l : List α) (i : Nat), (l.eraseIdx i).map f = (l.map f).eraseIdx i
  | [], _ => by simp
  | a :: r, 0 => by simp
  | a :: r, i + 1 => by simp [map_eraseIdx' f r i]
set_option maxHeartbeats 1000000 in
set_option maxRecDepth 100000 in
theorem delete_any {W : World} {v : Value} {ls : List Int} (ho : Owns W 0 Tin v (ls.map iv)) (i : Nat) (hi : i < ls.length) :
    Calls Tryd.prog 74 #[v, .int .i64 i, .int .i64 ((i : Int) + 1)] W fun e W' => ∃ v', e = .returned v' ∧ Owns W' 0 Tin v' ((ls.eraseIdx i).map iv) ∧ W.grownBy W' v.ownBlock ∧ v'.ownBlock = v.ownBlock := by
  have hlen := ho.1
  rcases ho.2 with ⟨rfl, h0⟩ | ⟨g, cap, cur, rfl, _, hg, hnc, hcm, hcs, htk⟩
  · rw [List.length_map] at h0
    omega
  rw [List.length_map] at hnc
  obtain ⟨m, hm⟩ : ∃ m, ls.length = m + 1 := ⟨ls.length - 1, by omega⟩
  rw [List.length_map, hm, Nat.mul_one] at htk
  have hcm2 : (cap : Int) ≤ 9223372036854775807 := by simp only [maxLen] at hcm; omega
  obtain ⟨W1, W2, cur2, happ, hcl, hgr, hg2, hs2, ht2⟩ := delete_run (W := W.drew) (g := g) (i := i) (m := m) (cap := cap) (cur := cur) hg (by omega) (by omega) (by omega) (by
    rw [htk]
    intro u hu
    obtain ⟨y, _, rfl⟩ := List.mem_map.1 hu
    rfl)
  rw [htk, ← map_eraseIdx'] at ht2
  rw [show m + 1 - (i + 1) = m - i by omega] at happ
  rw [show m + 1 - m = 1 by omega] at hcl
  have HF := Lib.hid (show Owns W2 0 Tin (.slice (some ⟨g, 0, none⟩) m cap) ((ls.eraseIdx i).map iv) from by
    have hl2 : ((ls.eraseIdx i).map iv).length = m := by rw [List.length_map, List.length_eraseIdx_of_lt hi]; omega
    refine ⟨by rw [hl2, Nat.mul_one], .inr ⟨g, cap, cur2, by rw [hl2], Nat.zero_le _, hg2, by omega, hcm, by omega, by rw [hl2, Nat.mul_one, ht2]⟩⟩)
  have HG := Lib.hid (show W.grownBy W2 (some g) from ⟨hgr.os, hgr.tape, hgr.output, hgr.size, hgr.block⟩)
  have h1 : (i : Int) + 1 ≤ (m : Int) + 1 := by omega
  have h2 : i ≤ cap := by omega
  have h3 : (m : Int) + 1 ≤ (cap : Int) := by omega
  have h4 : ¬ cap = m := by omega
  have h5 : (i : Int) ≤ (m : Int) + 1 := by omega
  have h7 : (0 : Int) ≤ (i : Int) + 1 := by omega
  have h8 : (m : Int) ≤ (m : Int) + 1 := by omega
  simp only [List.length_map, hm]
  clear hgr hg2 hs2 ht2 htk hcs hcm hlen ho hg hm hnc
  go_enter Tryd.func74, Tryd.ntmps74
  go_wp2_with fail
  have HAP := Lib.hid happ
  clear happ
  go_region_held3 (fun _ => True) (trivial)
    (first
      | (refine step_append_run (.tmp 22) (.tmp 25) Tis HAP.out rfl rfl rfl rfl ?_)
      | fail)
  rename_i K hK hov
  refine hK _ _ ?_
  have hcl' : ∀ ty, (Builtin.clear_ #[31] ty #[.slice (some ⟨g, m, none⟩) 1 (cap - m)]).run Tryd.prog W1 = .ok (.tuple #[]) W2 := hcl
  clear hcl
  go_wp2_with fail
  all_goals
    go_ret
    first
      | exact ⟨_, rfl, HF.out, HG.out, rfl⟩
      | (have hce : cap = i + 1 := by assumption
         subst hce
         exact ⟨_, rfl, HF.out, HG.out, rfl⟩)


theorem idxOf_none {xs : List Int} {n : Int} : ∀ {i : Nat}, i ≤ xs.length → (∀ j, j < i → xs.getD j 0 ≠ n) → n ∈ xs → i ≤ xs.idxOf n := by
  intro i hi h hm
  have hlt := List.idxOf_lt_length_iff.2 hm
  refine Classical.byContradiction fun e => ?_
  have h2 := h (xs.idxOf n) (by omega)
  rw [List.getD_eq_getElem?_getD, List.getElem?_eq_getElem hlt] at h2
  exact h2 (by simp)
theorem idxOf_at {xs : List Int} {n : Int} {i : Nat} (hi : i < xs.length) (h : ∀ j, j < i → xs.getD j 0 ≠ n) (he : xs.getD i 0 = n) : n ∈ xs ∧ xs.idxOf n = i := by
  have hg : xs[i] = n := by rw [List.getD_eq_getElem?_getD, List.getElem?_eq_getElem hi] at he; exact he
  have hm : n ∈ xs := hg ▸ List.getElem_mem hi
  refine ⟨hm, ?_⟩
  have h1 := idxOf_none (Nat.le_of_lt hi) h hm
  refine Nat.le_antisymm (Classical.byContradiction fun e => ?_) h1
  have := List.not_of_lt_findIdx (p := (· == n)) (xs := xs) (i := i) (by show i < xs.idxOf n; omega)
  simp [hg] at this
def idxI (xs : List Int) (n : Int) : Int := if n ∈ xs then (xs.idxOf n : Int) else -1
theorem Zs'.cell {W : World} {v : Value} {xs : List Int} (h : Owns W 0 Tin v (xs.map iv)) : ∃ a cap, v = .slice a xs.length cap ∧ xs.length ≤ cap ∧ cap ≤ maxLen ∧ ∀ i, i < xs.length → ∃ g, a = some ⟨g, 0, none⟩ ∧ W.cell? ⟨g, i, none⟩ = some (iv (xs.getD i 0)) := by
  obtain ⟨a, cap, h1, h2, h3, h4⟩ := h.form
  rw [List.length_map] at h1 h2 h4
  refine ⟨a, cap, h1, h2, h3, fun i hi => ?_⟩
  obtain ⟨g, hg, _, hc⟩ := h4 i hi
  refine ⟨g, hg, hc.trans ?_⟩
  rw [List.getElem?_map, List.getD_eq_getElem?_getD, List.getElem?_eq_getElem hi]
  rfl
set_option maxHeartbeats 1000000 in
set_option maxRecDepth 100000 in
theorem index_any {W : World} {v : Value} {xs : List Int} (ho : Owns W 0 Tin v (xs.map iv)) (hl : xs.length ≤ 1000000) (n : Int) :
    Calls Tryd.prog 73 #[v, iv n] W fun e W' => e = .returned (iv (idxI xs n)) ∧ W = W' := by
  obtain ⟨a, cap, rfl, -, -, hc⟩ := Zs'.cell ho
  have HO := Lib.hid hc
  clear ho hc
  go_enter Tryd.func73, Tryd.ntmps73
  go_wp2_with fail
  go_loop [8] (fun k => ∃ i : Nat, i ≤ xs.length ∧ k = .int .i64 i ∧ ∀ j, j < i → xs.getD j 0 ≠ n) (fun k => xs.length - (intOf k).toNat)
  case atStart => exact ⟨0, by omega, rfl, fun j hj => by omega⟩
  case round =>
    obtain ⟨i, hi, rfl, hno⟩ := hrel
    have HN := Lib.hid hno
    clear hno
    by_cases hlt : i < xs.length
    · obtain ⟨g, rfl, hcell⟩ := HO.out i hlt
      obtain ⟨c, hc⟩ : ∃ c, c = xs.getD i 0 := ⟨_, rfl⟩
      have HC := Lib.hid hc.symm
      rw [← hc] at hcell
      clear hc
      have hl1 : (i : Int) < (xs.length : Int) := by omega
      by_cases he : n = c
      · subst he
        obtain ⟨h1, h2⟩ := idxOf_at hlt HN.out HC.out
        have HX := Lib.hid (show idxI xs n = (i : Int) by unfold idxI; rw [if_pos h1, h2])
        clear h1 h2 hlt
        go_wp2_with fail
        go_ret
        exact ⟨by rw [HX.out]; rfl, rfl⟩
      · have he' : decide (n = c) = false := by simpa using he
        go_wp2_with fail
        go_round
        case rel => exact ⟨i + 1, by omega, by go_num, fun j hj => by
          by_cases e : j = i
          · subst e
            rw [HC.out]
            exact fun e => he e.symm
          · exact HN.out j (by omega)⟩
        case measure => simp [intOf]; omega
    · have hl1 : ¬ (i : Int) < (xs.length : Int) := by omega
      have HX := Lib.hid (show idxI xs n = -1 by
        unfold idxI
        rw [if_neg]
        intro hm
        have h1 := idxOf_none hi HN.out hm
        have h2 := List.idxOf_lt_length_iff.2 hm
        omega)
      clear hlt
      go_wp2_with fail
      go_ret
      exact ⟨by rw [HX.out]; rfl, rfl⟩
theorem idxI_ge (xs : List Int) (n : Int) : decide (0 ≤ idxI xs n) = decide (n ∈ xs) := by
  unfold idxI
  by_cases h : n ∈ xs
  · rw [if_pos h, decide_eq_true h, decide_eq_true (by omega)]
  · rw [if_neg h, decide_eq_false h, decide_eq_false (by omega)]
theorem contains_any {W : World} {v : Value} {xs : List Int} (ho : Owns W 0 Tin v (xs.map iv)) (hl : xs.length ≤ 1000000) (n : Int) :
    Calls Tryd.prog 45 #[v, iv n] W fun e W' => e = .returned (.bool (decide (n ∈ xs))) ∧ W = W' := by
  have HI := Lib.hid (index_any ho hl n)
  rw [← idxI_ge]
  clear ho
  go_enter Tryd.func45, Tryd.ntmps45
  go_wp2_with fail
  refine HI.out.mono ?_
  rintro e w' ⟨rfl, rfl⟩
  go_wp2_with fail
  go_ret
  exact ⟨rfl, rfl⟩
end Go.Proofs.YtaicjdjfhbmfeaaDoor

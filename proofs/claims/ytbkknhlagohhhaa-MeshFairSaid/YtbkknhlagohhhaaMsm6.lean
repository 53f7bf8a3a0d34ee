/-
  slices.Delete of one element; Mesh: remove, Take, Drop.
-/
import Derived.Test.YtbkknhlagohhhaaMsm5
import Derived.Lib.SliceRun
namespace Go.Proofs.Ytbkknhlagohhhaa
open Go.RowKit Crv

theorem delete_run {W : World} {g i m cap : Nat} {cur : Array Value} (hg : W.heap[g]? = some (.cells cur Tst (0, 0))) (hi : i ≤ m) (hm : m + 1 ≤ cap) (hs : cur.size = cap) (h1 : ∀ u ∈ cur.toList.take (m + 1), u.oneCell' = true) :
    ∃ W1 W2 cur2, (∀ ty, (Builtin.append_ #[Tss, Tss] ty #[.slice (some ⟨g, 0, none⟩) i cap, .slice (if cap = i + 1 then some ⟨g, 0, none⟩ else some ⟨g, i + 1, none⟩) (m + 1 - (i + 1)) (cap - (i + 1))]).run Try.prog W = .ok (.slice (some ⟨g, 0, none⟩) m cap) W1) ∧
      (∀ ty, (Builtin.clear_ #[Tss] ty #[.slice (some ⟨g, m, none⟩) (m + 1 - m) (cap - m)]).run Try.prog W1 = .ok (.tuple #[]) W2) ∧ W.grownBy W2 (some g) ∧
      W2.heap[g]? = some (.cells cur2 Tst (0, 0)) ∧ cur2.size = cap ∧ cur2.toList.take m = (cur.toList.take (m + 1)).eraseIdx i := by
  obtain ⟨ti, hti, hz, hs1, hby⟩ := str_inf
  have hln : cur.toList.length = cap := by simp [hs]
  have hnl : ((cur.toList.take (m + 1)).drop (i + 1)).length = (m + 1 - (i + 1)) * ti.size := by
    rw [hs1, Nat.mul_one, List.length_drop, List.length_take, hln]
    omega
  have happ : ∀ ty, (Builtin.append_ #[Tss, Tss] ty #[.slice (some ⟨g, 0, none⟩) i cap, .slice (if cap = i + 1 then some ⟨g, 0, none⟩ else some ⟨g, i + 1, none⟩) (m + 1 - (i + 1)) (cap - (i + 1))]).run Try.prog W = .ok (.slice (some ⟨g, 0, none⟩) m cap) (W.setRow g (cur.toList.take i ++ (cur.toList.take (m + 1)).drop (i + 1) ++ cur.toList.drop m).toArray) := by
    intro ty
    have key : ∀ a : Addr, (∀ j u, ((cur.toList.take (m + 1)).drop (i + 1))[j]? = some u → W.cell? (a.add j) = some u) →
        (Builtin.append_ #[Tss, Tss] ty #[.slice (some ⟨g, 0, none⟩) i cap, .slice (some a) (m + 1 - (i + 1)) (cap - (i + 1))]).run Try.prog W = .ok (.slice (some ⟨g, 0, none⟩) m cap) (W.setRow g (cur.toList.take i ++ (cur.toList.take (m + 1)).drop (i + 1) ++ cur.toList.drop m).toArray) := by
      intro a ha
      have h := run_append_room (P := Try.prog) W Tss ty Tst ti Try.underlying79 hti g i cap cur hg a (m + 1 - (i + 1)) (cap - (i + 1)) _ hnl ha (fun u hu => h1 u (List.mem_of_mem_drop hu)) (by omega) (by rw [hnl, hs1, hs]; omega)
      rw [h, hnl, hs1, Nat.mul_one, Nat.mul_one, show i + (m + 1 - (i + 1)) = m by omega]
    have hcells : ∀ j u, ((cur.toList.take (m + 1)).drop (i + 1))[j]? = some u → W.cell? ⟨g, i + 1 + j, none⟩ = some u := by
      intro j u hu
      rw [List.getElem?_drop] at hu
      have hlt : i + 1 + j < m + 1 := by
        have := (List.getElem?_eq_some_iff.1 hu).1
        rw [List.length_take] at this
        omega
      rw [List.getElem?_take_of_lt hlt] at hu
      simp [World.cell?, hg]
      simpa using hu
    split
    · rename_i hc
      refine key _ fun j u hu => ?_
      have hlt := (List.getElem?_eq_some_iff.1 hu).1
      rw [List.length_drop, List.length_take, hln] at hlt
      omega
    · refine key _ fun j u hu => ?_
      rw [show (⟨g, i + 1, none⟩ : Addr).add j = ⟨g, i + 1 + j, none⟩ from by unfold Addr.add; split <;> simp_all]
      exact hcells j u hu
  have hM : Mem (W.setRow g (cur.toList.take i ++ (cur.toList.take (m + 1)).drop (i + 1) ++ cur.toList.drop m).toArray) g Tst (cur.toList.take i ++ (cur.toList.take (m + 1)).drop (i + 1) ++ cur.toList.drop m) := setRow_heap W g _ _ Tst (0, 0) hg
  have hlen : (cur.toList.take i ++ (cur.toList.take (m + 1)).drop (i + 1) ++ cur.toList.drop m).length = cap := by
    simp only [List.length_append, List.length_take, List.length_drop, hln]
    omega
  have hgr : W.grownBy (W.setRow g (cur.toList.take i ++ (cur.toList.take (m + 1)).drop (i + 1) ++ cur.toList.drop m).toArray) (some g) :=
    ⟨rfl, rfl, rfl, by simp [World.setRow], fun k hk hne => heap_setRow_other W g k _ (fun e => hne (by rw [e]))⟩
  obtain ⟨W1, hW1⟩ : ∃ W1, W1 = W.setRow g (cur.toList.take i ++ (cur.toList.take (m + 1)).drop (i + 1) ++ cur.toList.drop m).toArray := ⟨_, rfl⟩
  rw [← hW1] at happ hM hgr
  have hcl : ∀ ty, (Builtin.clear_ #[Tss] ty #[.slice (some ⟨g, m, none⟩) (m + 1 - m) (cap - m)]).run Try.prog W1 = .ok (.tuple #[]) (W1.setCell ⟨g, m, none⟩ (tx [])) := by
    intro ty
    have h := Lib.run_clear_slice (P := Try.prog) W1 Tss Tst ty (tx []) Try.underlying79 (fun w => by kernel_rfl) rfl rfl g m (m + 1 - m) (cap - m) (by omega) (fun j hj => by
      rw [hM.cell, List.getElem?_eq_getElem (by omega)]; rfl) (fun j hj => hM.frozen _)
    rw [h, show m + 1 - m = 1 by omega]
    rfl
  refine ⟨W1, _, (cur.toList.take i ++ (cur.toList.take (m + 1)).drop (i + 1) ++ cur.toList.drop m).set m (tx []) |>.toArray, happ, hcl, ?_, hM.set m (tx []), ?_, ?_⟩
  · exact ⟨hgr.os, hgr.tape, hgr.output, by simpa [World.setCell] using hgr.size, fun k hk hne => (Below.heap_setCell W1 ⟨g, m, none⟩ (tx []) k (fun e => hne (by rw [e]))).trans (hgr.block k hk hne)⟩
  · simp only [List.size_toArray, List.length_set, hlen]
  · rw [List.toList_toArray, List.take_set_of_le (Nat.le_refl m), List.take_append_of_le_length (by simp only [List.length_append, List.length_take, List.length_drop, hln]; omega),
      List.take_of_length_le (by simp only [List.length_append, List.length_take, List.length_drop, hln]; omega), List.eraseIdx_eq_take_drop_succ, List.take_take, Nat.min_eq_left (by omega)]
theorem step_append_run {P : Program} {ops : Array Oper} {o : Oper} {a : Act} {w : World} {Q : Exit → Act → World → Prop} {K : Act → World → Prop} {E : Prop} {v y v' : Value} {w' : World} (s x : Operand) (t : TypeId)
    (hr : ∀ ty, (Builtin.append_ #[t, t] ty #[v, y]).run P w = .ok v' w') (hgd : o.guard = none) (ho : o.op = .call { callee := .builtin .append, args := #[s, x], argTypes := #[t, t] }) (hs : a.eval s = v) (hx : a.eval x = y)
    (h : K (a.put o.dst v') w') : if Region.wanted o (yielded ops a.tmps) = true then Oper.wp P o a w K Q else E := by
  have hw : Region.wanted o (yielded ops a.tmps) = true := by simp [Region.wanted, hgd]
  rw [if_pos hw]
  unfold Oper.wp execOp
  simp only [ho, resolve, invoke, builtin, Sem.run_bind, Sem.run_pure, Result.andThen_ok, List.map_toArray, List.map_cons, List.map_nil, hs, hx, hr]
  exact h
theorem map_eraseIdx' {α β : Type} (f : α → β) : ∀ (l : List α) (i : Nat), (l.eraseIdx i).map f = (l.map f).eraseIdx i
  | [], _ => by simp
  | a :: r, 0 => by simp
  | a :: r, i + 1 => by simp [map_eraseIdx' f r i]
set_option maxHeartbeats 1000000 in
set_option maxRecDepth 100000 in
theorem delete_any {W : World} {v : Value} {ls : List (List UInt8)} (ho : Owns W 0 Tst v (ls.map tx)) (i : Nat) (hi : i < ls.length) :
    Calls Try.prog 93 #[v, .int .i64 i, .int .i64 ((i : Int) + 1)] W fun e W' => ∃ v', e = .returned v' ∧ Owns W' 0 Tst v' ((ls.eraseIdx i).map tx) ∧ W.grownBy W' v.ownBlock ∧ v'.ownBlock = v.ownBlock := by
  have hlen := ho.1
  rcases ho.2 with ⟨rfl, h0⟩ | ⟨g, cap, cur, rfl, _, hg, hnc, hcm, hcs, htk⟩
  · rw [List.length_map] at h0
    omega
  rw [List.length_map] at hnc
  obtain ⟨m, hm⟩ : ∃ m, ls.length = m + 1 := ⟨ls.length - 1, by omega⟩
  rw [List.length_map, hm, Nat.mul_one] at htk
  have hcm2 : (cap : Int) ≤ 9223372036854775807 := by simp only [maxLen] at hcm; omega
  obtain ⟨W1, W2, cur2, happ, hcl, hgr, hg2, hs2, ht2⟩ := delete_run (W := W.drew) (g := g) (i := i) (m := m) (cap := cap) (cur := cur) hg (by omega) (by omega) (by omega) (by
    rw [htk]
    intro u hu
    obtain ⟨y, _, rfl⟩ := List.mem_map.1 hu
    rfl)
  rw [htk, ← map_eraseIdx'] at ht2
  rw [show m + 1 - (i + 1) = m - i by omega] at happ
  rw [show m + 1 - m = 1 by omega] at hcl
  have HF := Lib.hid (show Owns W2 0 Tst (.slice (some ⟨g, 0, none⟩) m cap) ((ls.eraseIdx i).map tx) from by
    have hl2 : ((ls.eraseIdx i).map tx).length = m := by rw [List.length_map, List.length_eraseIdx_of_lt hi]; omega
    refine ⟨by rw [hl2, Nat.mul_one], .inr ⟨g, cap, cur2, by rw [hl2], Nat.zero_le _, hg2, by omega, hcm, by omega, by rw [hl2, Nat.mul_one, ht2]⟩⟩)
  have HG := Lib.hid (show W.grownBy W2 (some g) from ⟨hgr.os, hgr.tape, hgr.output, hgr.size, hgr.block⟩)
  have h1 : (i : Int) + 1 ≤ (m : Int) + 1 := by omega
  have h2 : i ≤ cap := by omega
  have h3 : (m : Int) + 1 ≤ (cap : Int) := by omega
  have h4 : ¬ cap = m := by omega
  have h5 : (i : Int) ≤ (m : Int) + 1 := by omega
  have h7 : (0 : Int) ≤ (i : Int) + 1 := by omega
  have h8 : (m : Int) ≤ (m : Int) + 1 := by omega
  simp only [List.length_map, hm]
  clear hgr hg2 hs2 ht2 htk hcs hcm hlen ho hg hm hnc
  go_enter Try.func93, Try.ntmps93
  go_wp2_with fail
  have HAP := Lib.hid happ
  clear happ
  go_region_held3 (fun _ => True) (trivial)
    (first
      | (refine step_append_run (.tmp 22) (.tmp 25) Tss HAP.out rfl rfl rfl rfl ?_)
      | fail)
  rename_i K hK hov
  refine hK _ _ ?_
  have hcl' : ∀ ty, (Builtin.clear_ #[79] ty #[.slice (some ⟨g, m, none⟩) 1 (cap - m)]).run Try.prog W1 = .ok (.tuple #[]) W2 := hcl
  clear hcl
  go_wp2_with fail
  all_goals
    go_ret
    first
      | exact ⟨_, rfl, HF.out, HG.out, rfl⟩
      | (have hce : cap = i + 1 := by assumption
         subst hce
         exact ⟨_, rfl, HF.out, HG.out, rfl⟩)

/-- A packet taken out of a queue: the mesh, the text, was there one? -/
def removeM (x : MS) (t f i : Int) : MS × List UInt8 × Bool := if hasM x t f i = true then (dropM x t.toNat f.toNat i.toNat, (x.q t.toNat f.toNat).getD i.toNat [], true) else (x, [], false)
theorem hasM_true {x : MS} {t f i : Int} (h : hasM x t f i = true) : ∃ t' f' i' : Nat, t = t' ∧ f = f' ∧ i = i' ∧ t' < x.n ∧ f' < x.n ∧ i' < (x.q t' f').length := by
  unfold hasM waitsM at h
  simp only [Bool.and_eq_true, decide_eq_true_eq] at h
  obtain ⟨h0, h1⟩ := h
  split at h1
  · rename_i h2
    obtain ⟨t', rfl, ht⟩ := isAdr_true h2.1
    obtain ⟨f', rfl, hf⟩ := isAdr_true h2.2
    exact ⟨t', f', i.toNat, rfl, rfl, by omega, ht, hf, by simpa using (by omega : i.toNat < (x.q (t' : Int).toNat (f' : Int).toNat).length)⟩
  · omega
section
variable {W W' : World} {mb bb : Nat} {qb : Nat → Nat} {sv : Nat → Nat → Value} {x : MS} {F : Nat → Prop}
set_option maxHeartbeats 1000000 in
set_option maxRecDepth 100000 in
theorem remove_any (hX : Mx W F mb x) (t f i : Int) : Calls Try.prog 76 #[.pointer (some ⟨mb, 0, none⟩), .int .i64 t, .int .i64 f, .int .i64 i] W fun e w' =>
    e = .returned (.tuple #[tx (removeM x t f i).2.1, .bool (removeM x t f i).2.2]) ∧ Mx w' (And_new F W) mb (removeM x t f i).1 ∧ Fr F W w' := by
  obtain ⟨bb, qb, sv, h, hF⟩ := hX
  have HH := Lib.hid (hasM_any h t f i)
  by_cases hh : hasM x t f i = true
  · have e : removeM x t f i = (dropM x t.toNat f.toNat i.toNat, (x.q t.toNat f.toNat).getD i.toNat [], true) := by simp [removeM, hh]
    rw [e]
    rw [hh] at HH
    obtain ⟨t, f, i, rfl, rfl, rfl, ht, hf, hi⟩ := hasM_true hh
    simp only [Int.toNat_natCast]
    have HQ := Lib.hid (queue_any h t f ht hf)
    have HO := Lib.hid (h.own t f ht hf)
    obtain ⟨a, cap, hs, hcap, hcm, hcell⟩ := HO.out.form
    rw [List.length_map] at hs hcap
    obtain ⟨g, hag, _, hci⟩ := hcell i (by rw [List.length_map]; exact hi)
    subst hag
    have hget : ((x.q t f).map tx)[i]? = some (tx ((x.q t f).getD i [])) := by rw [List.getElem?_map, List.getD_eq_getElem?_getD, List.getElem?_eq_getElem hi]; rfl
    rw [hget] at hci
    obtain ⟨y, hy⟩ : ∃ y, y = (x.q t f).getD i [] := ⟨_, rfl⟩
    rw [← hy] at hci ⊢
    clear hy
    have hq := h.que t f ht hf
    have HD := Lib.hid (delete_any HO.out i hi)
    have h8 := h.le8 t f
    have HS := Lib.hid hs
    rw [hs] at hq HD
    have hi1 : (i : Int) < ((x.q t f).length : Int) := by omega
    have HL8 := Lib.hid (show ((x.q t f).eraseIdx i).length ≤ 8 by rw [List.length_eraseIdx_of_lt hi]; omega)
    have HHH := Lib.hid h
    have HFF := Lib.hid hF
    have HT := Lib.hid ht
    have HFv := Lib.hid hf
    clear h hF hs hcell ht hf hh e hget hcap hcm
    go_enter Try.func76, Try.ntmps76
    go_wp2_with fail
    refine HH.out.mono ?_
    rintro e w' ⟨rfl, rfl⟩
    go_wp2_with fail
    refine HQ.out.mono ?_
    rintro e w' ⟨rfl, rfl⟩
    go_wp2_with fail
    refine HD.out.mono ?_
    rintro e w1 ⟨v', rfl, ho', hg', hb'⟩
    obtain ⟨a3, c3, rfl, -, -, -⟩ := ho'.form
    have HO3 := Lib.hid ho'
    have HG3 := Lib.hid hg'
    have HB3 := Lib.hid hb'
    obtain ⟨⟨hc3, hz3⟩⟩ : Nonempty (PProd (w1.cell? ⟨qb t, f, none⟩ = some (.slice (some ⟨g, 0, none⟩) (x.q t f).length cap)) (w1.frozen? ⟨qb t, f, none⟩ = false)) := by
      have h3 := HHH.out.atq HT.out HFv.out (by rw [HS.out]; exact HG3.out)
      rw [HS.out] at h3
      exact ⟨⟨h3.1, h3.2⟩⟩
    clear ho' hg' hb' hq hci
    go_wp2_with fail
    go_ret2
    have h4 := Mx.put HHH.out HFF.out HT.out HFv.out HO3.out HL8.out (by rw [HS.out]; exact HG3.out) (by rw [HS.out]; exact .inl HB3.out)
    rw [List.length_map] at h4
    exact ⟨rfl, h4⟩
  · have hh' : hasM x t f i = false := by simpa using hh
    have e : removeM x t f i = (x, [], false) := by simp [removeM, hh']
    rw [e]
    rw [hh'] at HH
    have HP := Lib.hid (Mx.same (F := F) h hF)
    clear h hF e hh hh'
    go_enter Try.func76, Try.ntmps76
    go_wp2_with fail
    refine HH.out.mono ?_
    rintro e w' ⟨rfl, rfl⟩
    go_wp2_with fail
    go_ret2
    exact ⟨rfl, HP.out⟩
end
end Go.Proofs.Ytbkknhlagohhhaa

/-
  Package bucket: heard, gone, whatever is given; Heard, Gone.
-/
import Derived.Test.YtaicjdjfhbmfeaaDoorBkt6
namespace Go.Proofs.YtaicjdjfhbmfeaaDoor
open Go.RowKit Crv

set_option maxRecDepth 100000 in
theorem run_append_two {W : World} {base : Nat} {v1 v2 : Value} {xs ys : List Int} (h1 : Owns W base Tin v1 (xs.map iv)) (h2 : Owns W 0 Tin v2 (ys.map iv)) (hl : xs.length + ys.length ≤ 1000000) (ty : TypeId) (hb : base ≤ W.heap.size) :
    ∃ v' w', (Builtin.append_ #[Tis, Tis] ty #[v1, v2]).run Tryd.prog W = .ok v' w' ∧ Owns w' base Tin v' ((xs ++ ys).map iv) ∧ W.grownBy w' v1.ownBlock ∧ (v'.ownBlock = v1.ownBlock ∨ v'.ownBlock = some W.heap.size) := by
  obtain ⟨ti, hi, hz, hsz, hby⟩ := int_inf
  have hf := h2.form
  rcases h2.2 with ⟨rfl, h0⟩ | ⟨g, cap, cur, rfl, _, _⟩
  · have e : ys = [] := by cases ys with
      | nil => rfl
      | cons y r => simp at h0
    subst e
    exact ⟨v1, W, run_append_owned_none W base Tis ty Tin ti 1 Tryd.underlying31 hi v1 (xs.map iv).length (xs.map iv) h1, by simpa using h1, grownRefl _ _, .inl rfl⟩
  · obtain ⟨a', c', e, _, _, hc⟩ := hf
    injection e with e1 e2 e3
    subst e1
    obtain ⟨v', w', hr, h3, h4, h5, _⟩ := run_append_keep (P := Tryd.prog) h1 (ys.map iv) Tis ty ti (iv 0) Tryd.underlying31 hi hz hsz (by omega) rfl (g := g) (c := cap) (fun j u hu => by
      have hj := (List.getElem?_eq_some_iff.1 hu).1
      obtain ⟨g', e', _, hcc⟩ := hc j hj
      injection e' with e'
      injection e' with e'
      subst e'
      rw [hcc, hu]) (fun u hu => by
      obtain ⟨y, _, rfl⟩ := List.mem_map.1 hu
      rfl) (by simp only [List.length_map]; omega) hb
    exact ⟨v', w', hr, by rw [List.map_append]; exact h3, h4, h5⟩
theorem wp_append_at {P : Program} {ops : Array Oper} {rest : List Oper} {o : Oper} {a : Act} {w : World} {Q : Exit → Act → World → Prop} {v y v' : Value} {w' : World} (s x : Operand) (t ty : TypeId)
    (hr : (Builtin.append_ #[t, t] ty #[v, y]).run P w = .ok v' w') (hgd : o.guard = none) (ho : o.op = .call { callee := .builtin .append, args := #[s, x], argTypes := #[t, t] }) (hty : o.type = ty) (hs : a.eval s = v) (hx : a.eval x = y)
    (h : wpList P ops Q rest (a.put o.dst v') w') : wpList P ops Q (o :: rest) a w := by
  refine wpList_plain hgd fun K hK => ?_
  subst hty
  unfold Oper.wp execOp
  simp only [ho, resolve, invoke, builtin, Sem.run_bind, Sem.run_pure, Result.andThen_ok, List.map_toArray, List.map_cons, List.map_nil, hs, hx, hr]
  exact hK _ _ h
theorem step_append_at {P : Program} {ops : Array Oper} {o : Oper} {a : Act} {w : World} {Q : Exit → Act → World → Prop} {K : Act → World → Prop} {E : Prop} {v y v' : Value} {w' : World} (s x : Operand) (t ty : TypeId)
    (hr : (Builtin.append_ #[t, t] ty #[v, y]).run P w = .ok v' w') (hgd : o.guard = none) (ho : o.op = .call { callee := .builtin .append, args := #[s, x], argTypes := #[t, t] }) (hty : o.type = ty) (hs : a.eval s = v) (hx : a.eval x = y)
    (h : K (a.put o.dst v') w') : if Region.wanted o (yielded ops a.tmps) = true then Oper.wp P o a w K Q else E := by
  have hw : Region.wanted o (yielded ops a.tmps) = true := by simp [Region.wanted, hgd]
  rw [if_pos hw]
  unfold Oper.wp execOp
  subst hty
  simp only [ho, resolve, invoke, builtin, Sem.run_bind, Sem.run_pure, Result.andThen_ok, List.map_toArray, List.map_cons, List.map_nil, hs, hx, hr]
  exact h
section
variable {W W' : World} {tb : Nat} {sv : Nat → Value} {x : BS} {F : Nat → Prop}
theorem Tbl.own_at (h : Tbl W tb sv x) {j i : Nat} (hj : j < 514) (hi : i < 514) (hne : i ≠ j) (hg : W.grownBy W' (sv j).ownBlock) : Owns W' 0 Tin (sv i) ((lstB x i).map iv) :=
  (h.own i hi).of_below fun g hg' => hg.block g ((h.own i hi).lt g hg').1 (fun e => hne (h.one i j g hi hj hg' e.symm))
theorem Bx.same (h : Tbl W tb sv x) (hF : ∀ b, FootB tb sv b → F b) : Bx W (And_new F W) tb x ∧ Fr F W W := ⟨⟨sv, h, fun b hb => .inl (hF b hb)⟩, Fr.refl _ _⟩
set_option maxHeartbeats 1000000 in
set_option maxRecDepth 100000 in
theorem heard_stay (h : Tbl W tb sv x) {k : Nat} (hk : k < 257) {n : Int} (hm : n ∉ x.K k) (hl : ¬ (x.K k).length < 4) (hq : ¬ (x.Q k).length = 0) : Calls Tryd.prog 47 #[.pointer (some ⟨tb, 33 + k * 2, none⟩), iv n] W fun e w' =>
    e = .returned (.tuple #[iv 0, .bool false]) ∧ W = w' := by
  have hO := h.own (k * 2) (by omega)
  rw [lstB_K] at hO
  have h4 := h.k4 k
  have HI := Lib.hid (index_any hO (by omega) n)
  have hidx : idxI (x.K k) n = -1 := by unfold idxI; rw [if_neg hm]
  rw [hidx] at HI
  have hO2 := h.own (k * 2 + 1) (by omega)
  rw [lstB_Q] at hO2
  have hcK := h.cell (k * 2) (by omega)
  obtain ⟨cQ⟩ : Nonempty (PLift (W.cell? ⟨tb, 33 + k * 2 + 1, none⟩ = some (sv (k * 2 + 1)))) := ⟨⟨h.cell (k * 2 + 1) (by omega)⟩⟩
  have hcQ := cQ.down
  clear cQ
  obtain ⟨a2, cap2, hs2, -, -, -⟩ := hO2.form
  rw [List.length_map] at hs2
  rw [hs2] at hcQ
  obtain ⟨a, cap, hs, -, -, -⟩ := hO.form
  rw [hs] at hcK HI
  simp only [List.length_map] at hcK HI
  have hd4 : decide (((x.K k).length : Int) < 4) = false := by simp; omega
  have hl4 : ¬ ((x.K k).length : Int) < 4 := by omega
  have hq0 : decide (((x.Q k).length : Int) = 0) = false := by rw [decide_eq_false]; omega
  have hq1 : ¬ ((x.Q k).length : Int) = 0 := by omega
  clear h hO hO2 hs hs2 hidx hm hk h4
  go_enter Tryd.func47, Tryd.ntmps47
  go_wp2_with fail
  refine HI.out.mono ?_
  rintro e w' ⟨rfl, rfl⟩
  go_wp2_with fail
  go_ret2
  exact ⟨rfl, rfl⟩
theorem heard_any (h : Tbl W tb sv x) (hF : ∀ b, FootB tb sv b → F b) {k : Nat} (hk : k < 257) (n : Int) : Calls Tryd.prog 47 #[.pointer (some ⟨tb, 33 + k * 2, none⟩), iv n] W fun e w' =>
    e = .returned (.tuple #[iv ((heardB (x.K k) (x.Q k) n).2.2.getD 0), .bool (heardB (x.K k) (x.Q k) n).2.2.isSome]) ∧ Bx w' (And_new F W) tb (putB x k (heardB (x.K k) (x.Q k) n).1 (heardB (x.K k) (x.Q k) n).2.1) ∧ Fr F W w' := by
  by_cases hm : n ∈ x.K k
  · have e : (heardB (x.K k) (x.Q k) n).2.2 = none := by unfold heardB; rw [if_pos hm]
    rw [e]
    exact heard_in h hF hk hm
  · by_cases hl : (x.K k).length < 4
    · have e : heardB (x.K k) (x.Q k) n = (x.K k ++ [n], x.Q k, none) := by unfold heardB; rw [if_neg hm, if_pos hl]
      rw [e]
      exact heard_room h hF hk hm hl
    · by_cases hq : (x.Q k).length = 0
      · have e : heardB (x.K k) (x.Q k) n = (x.K k, [n], some ((x.K k).getD 0 0)) := by unfold heardB; rw [if_neg hm, if_neg hl, if_pos hq]
        rw [e]
        exact heard_ask h hF hk hm hl hq
      · have e : heardB (x.K k) (x.Q k) n = (x.K k, x.Q k, none) := by unfold heardB; rw [if_neg hm, if_neg hl, if_neg hq]
        rw [e]
        simp only [putB_self]
        refine (heard_stay h hk hm hl hq).mono ?_
        rintro e w' ⟨rfl, rfl⟩
        exact ⟨rfl, Bx.same h hF⟩
set_option maxHeartbeats 2000000 in
set_option maxRecDepth 100000 in
theorem gone_in (h : Tbl W tb sv x) (hF : ∀ b, FootB tb sv b → F b) {k : Nat} (hk : k < 257) {n : Int} (hm : n ∈ x.K k) : Calls Tryd.prog 56 #[.pointer (some ⟨tb, 33 + k * 2, none⟩), iv n] W fun e w' =>
    e = .returned (.bool true) ∧ Bx w' (And_new F W) tb (putB x k (goneB (x.K k) (x.Q k) n).1 (goneB (x.K k) (x.Q k) n).2.1) ∧ Fr F W w' := by
  have hO := h.own (k * 2) (by omega)
  rw [lstB_K] at hO
  have h4 := h.k4 k
  have hq1 := h.q1 k
  have HI := Lib.hid (index_any hO (by omega) n)
  obtain ⟨i, hi⟩ : ∃ i, i = (x.K k).idxOf n := ⟨_, rfl⟩
  have hidx : idxI (x.K k) n = (i : Int) := by unfold idxI; rw [if_pos hm, hi]
  have hil : i < (x.K k).length := by rw [hi]; exact List.idxOf_lt_length_iff.2 hm
  have e : goneB (x.K k) (x.Q k) n = ((x.K k).eraseIdx i ++ x.Q k, [], true) := by unfold goneB; rw [if_pos hm, hi]
  rw [e]
  rw [hidx] at HI
  have HD := Lib.hid (delete_any (W := W.drew) (Owns.drewN hO 1) i hil)
  have hel : ((x.K k).eraseIdx i).length + 1 = (x.K k).length := by rw [List.length_eraseIdx_of_lt hil]; omega
  obtain ⟨L1, hL1⟩ : ∃ L1, L1 = (x.K k).eraseIdx i := ⟨_, rfl⟩
  rw [← hL1] at HD hel ⊢
  have HEL := Lib.hid (show (L1 ++ x.Q k).length ≤ 4 by rw [List.length_append]; omega)
  have HLEN := Lib.hid (show L1.length + (x.Q k).length ≤ 1000000 by omega)
  have hO2 := h.own (k * 2 + 1) (by omega)
  rw [lstB_Q] at hO2
  have hcK := h.cell (k * 2) (by omega)
  obtain ⟨cQ⟩ : Nonempty (PLift (W.cell? ⟨tb, 33 + k * 2 + 1, none⟩ = some (sv (k * 2 + 1)))) := ⟨⟨h.cell (k * 2 + 1) (by omega)⟩⟩
  have hcQ := cQ.down
  clear cQ
  obtain ⟨a2, cap2, hs2, -, -, -⟩ := hO2.form
  rw [List.length_map] at hs2
  rw [hs2] at hcQ
  have hi4 : i < 4 := by omega
  have hneg : decide ((i : Int) < 0) = false := by simp
  obtain ⟨a, cap, hs, -, -, -⟩ := hO.form
  rw [hs] at hcK HI HD
  simp only [List.length_map] at hcK HI HD hs
  have HS := Lib.hid hs
  have HS2 := Lib.hid hs2
  have HO2 := Lib.hid hO2
  have HT := Lib.hid h
  have HFF := Lib.hid hF
  have HK := Lib.hid hk
  have HK5 : k * 2 < 514 := by omega
  clear h hF e hO hO2 hs hs2 hi hidx hil hel h4 hq1 hm hL1 hk
  go_enter Tryd.func56, Tryd.ntmps56
  go_wp2_with fail
  refine HI.out.mono ?_
  rintro e w' ⟨rfl, rfl⟩
  go_wp2_with fail
  refine wp_region_held_drew (S := fun w' => w'.cell? ⟨tb, 33 + k * 2 + 1, none⟩ = some (.slice a2 (x.Q k).length cap2)) (by kernel_rfl) hcQ (fun hHeld => ?_)
  refine wpAnyH_take (i := 0) (oi := { dst := some 14, op := Op.move (Operand.tmp 0), type := 83, pos := "bucket.go:108", after := #[], guard := none }) (v := .pointer (some ⟨tb, 33 + k * 2, none⟩)) rfl (by kernel_rfl) (by kernel_rfl) (by kernel_rfl) (fun _ _ _ h => h) (Or.inl ⟨by rfl, ?_⟩) hHeld ?_
  · intro w' hSw
    have y0 := hSw
    clear hSw
    go_simp
  simp only [Act.put, List.setIfInBounds_toArray, List.set_cons_zero, List.set_cons_succ]
  refine wpAnyH_take (i := 1) (oi := { dst := some 15, op := Op.move (Operand.tmp 0), type := 83, pos := "bucket.go:108", after := #[], guard := none }) (v := .pointer (some ⟨tb, 33 + k * 2, none⟩)) rfl (by kernel_rfl) (by kernel_rfl) (by kernel_rfl) (fun _ _ _ h => h) (Or.inl ⟨by rfl, ?_⟩) hHeld ?_
  · intro w' hSw
    have y0 := hSw
    clear hSw
    go_simp
  simp only [Act.put, List.setIfInBounds_toArray, List.set_cons_zero, List.set_cons_succ]
  refine wpAnyH_take (i := 2) (oi := { dst := some 16, op := Op.nilCheck (Operand.tmp 15), type := 0, pos := "bucket.go:108", after := #[{ on := 1, ground := Ground.data }], guard := none }) (v := .pointer (some ⟨tb, 33 + k * 2, none⟩)) rfl (by kernel_rfl) (by kernel_rfl) (by kernel_rfl) (fun _ _ _ h => h) (Or.inl ⟨by rfl, ?_⟩) hHeld ?_
  · intro w' hSw
    have y0 := hSw
    clear hSw
    go_simp
  simp only [Act.put, List.setIfInBounds_toArray, List.set_cons_zero, List.set_cons_succ]
  refine wpAnyH_take (i := 3) (oi := { dst := some 17, op := Op.fieldAddr 73 (Operand.tmp 16) 0, type := 0, pos := "bucket.go:108", after := #[{ on := 2, ground := Ground.data }], guard := none }) (v := .pointer (some ⟨tb, 33 + k * 2, none⟩)) rfl (by kernel_rfl) (by kernel_rfl) (by kernel_rfl) (fun _ _ _ h => h) (Or.inl ⟨by rfl, ?_⟩) hHeld ?_
  · intro w' hSw
    have y0 := hSw
    clear hSw
    go_simp
  simp only [Act.put, List.setIfInBounds_toArray, List.set_cons_zero, List.set_cons_succ]
  refine wpAnyH_take (i := 5) (oi := { dst := some 19, op := Op.move (Operand.tmp 5), type := 3, pos := "bucket.go:108", after := #[], guard := none }) (v := .int .i64 (i : Int)) rfl (by kernel_rfl) (by kernel_rfl) (by kernel_rfl) (fun _ _ _ h => h) (Or.inl ⟨by rfl, ?_⟩) hHeld ?_
  · intro w' hSw
    have y0 := hSw
    clear hSw
    go_simp
  simp only [Act.put, List.setIfInBounds_toArray, List.set_cons_zero, List.set_cons_succ]
  refine wpAnyH_take (i := 6) (oi := { dst := some 20, op := Op.move (Operand.tmp 5), type := 3, pos := "bucket.go:108", after := #[], guard := none }) (v := .int .i64 (i : Int)) rfl (by kernel_rfl) (by kernel_rfl) (by kernel_rfl) (fun _ _ _ h => h) (Or.inl ⟨by rfl, ?_⟩) hHeld ?_
  · intro w' hSw
    have y0 := hSw
    clear hSw
    go_simp
  simp only [Act.put, List.setIfInBounds_toArray, List.set_cons_zero, List.set_cons_succ]
  refine wpAnyH_take (i := 7) (oi := { dst := some 21, op := Op.binOp BinOp.add 3 (Operand.tmp 20) (Operand.const (Value.int IntKind.i64 1)) 3, type := 3, pos := "bucket.go:108", after := #[{ on := 6, ground := Ground.data }], guard := none }) (v := .int .i64 ((i : Int) + 1)) rfl (by kernel_rfl) (by kernel_rfl) (by kernel_rfl) (fun _ _ _ h => h) (Or.inl ⟨by rfl, ?_⟩) hHeld ?_
  · intro w' hSw
    have y0 := hSw
    clear hSw
    simp [go_sem, IntKind.wrap, IntKind.bits, IntKind.signed]; omega
  simp only [Act.put, List.setIfInBounds_toArray, List.set_cons_zero, List.set_cons_succ]
  refine wpAnyH_take (i := 9) (oi := { dst := some 23, op := Op.move (Operand.tmp 0), type := 83, pos := "bucket.go:108", after := #[], guard := none }) (v := .pointer (some ⟨tb, 33 + k * 2, none⟩)) rfl (by kernel_rfl) (by kernel_rfl) (by kernel_rfl) (fun _ _ _ h => h) (Or.inl ⟨by rfl, ?_⟩) hHeld ?_
  · intro w' hSw
    have y0 := hSw
    clear hSw
    go_simp
  simp only [Act.put, List.setIfInBounds_toArray, List.set_cons_zero, List.set_cons_succ]
  refine wpAnyH_take (i := 10) (oi := { dst := some 24, op := Op.nilCheck (Operand.tmp 23), type := 0, pos := "bucket.go:108", after := #[{ on := 9, ground := Ground.data }], guard := none }) (v := .pointer (some ⟨tb, 33 + k * 2, none⟩)) rfl (by kernel_rfl) (by kernel_rfl) (by kernel_rfl) (fun _ _ _ h => h) (Or.inl ⟨by rfl, ?_⟩) hHeld ?_
  · intro w' hSw
    have y0 := hSw
    clear hSw
    go_simp
  simp only [Act.put, List.setIfInBounds_toArray, List.set_cons_zero, List.set_cons_succ]
  refine wpAnyH_take (i := 11) (oi := { dst := some 25, op := Op.fieldAddr 73 (Operand.tmp 24) 1, type := 0, pos := "bucket.go:108", after := #[{ on := 10, ground := Ground.data }], guard := none }) (v := .pointer (some ⟨tb, 33 + k * 2 + 1, none⟩)) rfl (by kernel_rfl) (by kernel_rfl) (by kernel_rfl) (fun _ _ _ h => h) (Or.inl ⟨by rfl, ?_⟩) hHeld ?_
  · intro w' hSw
    have y0 := hSw
    clear hSw
    go_simp
  simp only [Act.put, List.setIfInBounds_toArray, List.set_cons_zero, List.set_cons_succ]
  refine wpAnyH_take (i := 12) (oi := { dst := some 26, op := Op.load 31 (Operand.tmp 25), type := 31, pos := "bucket.go:108", after := #[{ on := 11, ground := Ground.data }], guard := none }) (v := .slice a2 (x.Q k).length cap2) rfl (by kernel_rfl) (by kernel_rfl) (by kernel_rfl) (fun _ _ _ h => h) (Or.inl ⟨by rfl, ?_⟩) hHeld ?_
  · intro w' hSw
    have y0 := hSw
    clear hSw
    go_simp
  simp only [Act.put, List.setIfInBounds_toArray, List.set_cons_zero, List.set_cons_succ]
  refine wpAnyH_ready (rs := [4]) (by kernel_rfl) (by simp) (AllReadyH.cons rfl (fun K hK => ?_) AllReadyH.nil)
  go_simp
  refine hK.out _ _ hcQ (fun hH1 => ?_)
  clear hK K
  refine wpAnyH_ready (rs := [8]) (by kernel_rfl) (by simp) (AllReadyH.cons rfl (fun K hK => ?_) AllReadyH.nil)
  go_simp
  refine HD.out.mono ?_
  rintro e w1 ⟨v1, rfl, ho1, hg1, hb1⟩
  have hf1 := ho1.form
  rw [List.length_map] at hf1
  obtain ⟨a1, c1, rfl, -, -, -⟩ := hf1
  dsimp only
  have HO1 := Lib.hid ho1
  have HG1 := Lib.hid (show W.grownBy w1 (sv (k * 2)).ownBlock by rw [HS.out]; exact ⟨hg1.os, hg1.tape, hg1.output, hg1.size, hg1.block⟩)
  have HB1 := Lib.hid hb1
  obtain ⟨⟨hcQ1⟩⟩ : Nonempty (PLift (w1.cell? ⟨tb, 33 + k * 2 + 1, none⟩ = some (.slice a2 (x.Q k).length cap2))) := by
    have h3 := HT.out.atj HK5 (show k * 2 + 1 < 514 by omega) HG1.out
    rw [HS2.out] at h3
    exact ⟨⟨h3.1⟩⟩
  clear ho1 hg1 hb1
  refine hK.out _ _ hcQ1 (fun hH2 => ?_)
  clear hK K
  refine wpAnyH_ready (rs := [13]) (by kernel_rfl) (by simp) (AllReadyH.cons rfl (fun K hK => ?_) AllReadyH.nil)
  have ho2 := HT.out.own_at HK5 (show k * 2 + 1 < 514 by omega) (by omega) HG1.out
  rw [HS2.out, lstB_Q] at ho2
  obtain ⟨v3, w3, hr3, ho3, hg3, hat3⟩ := run_append_two HO1.out ho2 HLEN.out Tis (Nat.zero_le _)
  have hf3 := ho3.form
  rw [List.length_map, List.length_append] at hf3
  obtain ⟨a3, c3, rfl, -, -, -⟩ := hf3
  refine step_append_at (.tmp 22) (.tmp 26) Tis Tis hr3 rfl rfl rfl rfl rfl ?_
  simp only [List.getElem_toArray, List.getElem_cons_succ, List.getElem_cons_zero, Act.put]
  have HO3 := Lib.hid ho3
  have HG3 := Lib.hid (show W.grownBy w3 (sv (k * 2)).ownBlock from grown_trans HG1.out (by rw [HS.out, ← HB1.out]; exact hg3))
  have HAT3 := Lib.hid (show ∀ g, (Value.slice a3 (L1.length + (x.Q k).length) c3).ownBlock = some g → (sv (k * 2)).ownBlock = some g ∨ W.heap.size ≤ g from fun g hg => by
    rcases hat3 with e | e
    · rw [HS.out, ← HB1.out, ← e]; exact .inl hg
    · rw [e] at hg
      injection hg with hg
      subst hg
      exact .inr HG1.out.size)
  obtain ⟨⟨hc3, hz3⟩⟩ : Nonempty (PProd (w3.cell? ⟨tb, 33 + k * 2, none⟩ = some (.slice a (x.K k).length cap)) (w3.frozen? ⟨tb, 33 + k * 2, none⟩ = false)) := by
    have h3 := HT.out.atj HK5 HK5 HG3.out
    rw [HS.out] at h3
    exact ⟨⟨h3.1, h3.2⟩⟩
  obtain ⟨⟨hcQ3⟩⟩ : Nonempty (PLift (w3.cell? ⟨tb, 33 + k * 2 + 1, none⟩ = some (.slice a2 (x.Q k).length cap2))) := by
    have h3 := HT.out.atj HK5 (show k * 2 + 1 < 514 by omega) HG3.out
    rw [HS2.out] at h3
    exact ⟨⟨h3.1⟩⟩
  have HT4 := Lib.hid (HT.out.putK HK.out HO3.out HEL.out HG3.out HAT3.out)
  have HF4 := Lib.hid (foot_put (W := W) (F := F) HFF.out HAT3.out HK5)
  have HR4 := Lib.hid (fr_put (v' := .slice a3 (L1.length + (x.Q k).length) c3) HFF.out HK5 (33 + k * 2) HG3.out)
  obtain ⟨⟨hcQ4, hzQ4⟩⟩ : Nonempty (PProd ((w3.setCell ⟨tb, 33 + k * 2, none⟩ (.slice a3 (L1.length + (x.Q k).length) c3)).cell? ⟨tb, 33 + k * 2 + 1, none⟩ = some (.slice a2 (x.Q k).length cap2)) ((w3.setCell ⟨tb, 33 + k * 2, none⟩ (.slice a3 (L1.length + (x.Q k).length) c3)).frozen? ⟨tb, 33 + k * 2 + 1, none⟩ = false)) := by
    have e := HT4.out.cell (k * 2 + 1) (by omega)
    rw [updV_other _ _ (by omega), HS2.out] at e
    exact ⟨⟨e, HT4.out.tag.frozen _⟩⟩
  refine hK.out _ _ hcQ3 (fun hH13 => ?_)
  clear hK K hr3 ho3 hg3 hat3 ho2
  refine wpAnyH_take (i := 14) (oi := { dst := some 28, op := Op.nilCheck (Operand.tmp 14), type := 0, pos := "bucket.go:108", after := #[{ on := 0, ground := Ground.data }, { on := 0, ground := Ground.phase }, { on := 1, ground := Ground.phase }, { on := 2, ground := Ground.phase }, { on := 3, ground := Ground.phase }, { on := 4, ground := Ground.phase }, { on := 5, ground := Ground.phase }, { on := 6, ground := Ground.phase }, { on := 7, ground := Ground.phase }, { on := 8, ground := Ground.phase }, { on := 9, ground := Ground.phase }, { on := 10, ground := Ground.phase }, { on := 11, ground := Ground.phase }, { on := 12, ground := Ground.phase }, { on := 13, ground := Ground.phase }], guard := none }) (v := .pointer (some ⟨tb, 33 + k * 2, none⟩)) rfl (by kernel_rfl) (by kernel_rfl) (by kernel_rfl) (fun _ _ _ h => h) (Or.inl ⟨by rfl, ?_⟩) hH13 ?_
  · intro w' hSw
    have y0 := hSw
    clear hSw
    go_simp
  simp only [Act.put, List.setIfInBounds_toArray, List.set_cons_zero, List.set_cons_succ]
  refine wpAnyH_take (i := 15) (oi := { dst := some 29, op := Op.fieldAddr 73 (Operand.tmp 28) 0, type := 0, pos := "bucket.go:108", after := #[{ on := 14, ground := Ground.data }, { on := 0, ground := Ground.phase }, { on := 1, ground := Ground.phase }, { on := 2, ground := Ground.phase }, { on := 3, ground := Ground.phase }, { on := 4, ground := Ground.phase }, { on := 5, ground := Ground.phase }, { on := 6, ground := Ground.phase }, { on := 7, ground := Ground.phase }, { on := 8, ground := Ground.phase }, { on := 9, ground := Ground.phase }, { on := 10, ground := Ground.phase }, { on := 11, ground := Ground.phase }, { on := 12, ground := Ground.phase }, { on := 13, ground := Ground.phase }], guard := none }) (v := .pointer (some ⟨tb, 33 + k * 2, none⟩)) rfl (by kernel_rfl) (by kernel_rfl) (by kernel_rfl) (fun _ _ _ h => h) (Or.inl ⟨by rfl, ?_⟩) hH13 ?_
  · intro w' hSw
    have y0 := hSw
    clear hSw
    go_simp
  simp only [Act.put, List.setIfInBounds_toArray, List.set_cons_zero, List.set_cons_succ]
  refine wpAnyH_ready (rs := [16]) (by kernel_rfl) (by simp) (AllReadyH.cons rfl (fun K hK => ?_) AllReadyH.nil)
  go_simp
  refine hK.out _ _ hcQ4 (fun hH3 => ?_)
  clear hK K
  refine wpAnyH_done (by kernel_rfl) ?_ _
  rename_i Kz hKz
  refine hKz _ _ ?_
  go_wp2_with fail
  go_ret
  have h5 := HT4.out.nilQ HK.out
  rw [K_put, putB_put] at h5
  exact ⟨rfl, ⟨_, h5, fun b hb => HF4.out b (foot_nil b hb)⟩, HR4.out.trans (Fr.set (F := F) _ _ (HFF.out tb (.inl rfl))) (fun _ hi => .inl hi)⟩
set_option maxRecDepth 100000 in
theorem gone_any (h : Tbl W tb sv x) (hF : ∀ b, FootB tb sv b → F b) {k : Nat} (hk : k < 257) (n : Int) : Calls Tryd.prog 56 #[.pointer (some ⟨tb, 33 + k * 2, none⟩), iv n] W fun e w' =>
    e = .returned (.bool (goneB (x.K k) (x.Q k) n).2.2) ∧ Bx w' (And_new F W) tb (putB x k (goneB (x.K k) (x.Q k) n).1 (goneB (x.K k) (x.Q k) n).2.1) ∧ Fr F W w' := by
  by_cases hm : n ∈ x.K k
  · have e : (goneB (x.K k) (x.Q k) n).2.2 = true := by unfold goneB; rw [if_pos hm]
    rw [e]
    exact gone_in h hF hk hm
  · have e : goneB (x.K k) (x.Q k) n = (x.K k, x.Q k, false) := by unfold goneB; rw [if_neg hm]
    rw [e]
    simp only [putB_self]
    have hO := h.own (k * 2) (by omega)
    rw [lstB_K] at hO
    have h4 := h.k4 k
    have HI := Lib.hid (index_any hO (by omega) n)
    have hidx : idxI (x.K k) n = -1 := by unfold idxI; rw [if_neg hm]
    rw [hidx] at HI
    have hcK := h.cell (k * 2) (by omega)
    obtain ⟨a, cap, hs, -, -, -⟩ := hO.form
    rw [hs] at hcK HI
    have HB := Lib.hid (Bx.same h hF)
    clear h hF hO hs hidx hm hk h4 e
    go_enter Tryd.func56, Tryd.ntmps56
    simp only [List.length_map] at hcK HI
    go_wp2_with fail
    refine HI.out.mono ?_
    rintro e w' ⟨rfl, rfl⟩
    go_wp2_with fail
    go_ret
    exact ⟨rfl, HB.out⟩
theorem Bx.new_new {W1 : World} (h : Bx W' (And_new F W1) tb x) (hb : W.heap.size ≤ W1.heap.size) : Bx W' (And_new F W) tb x := h.mono fun _ _ hF => hF.imp id fun e => Nat.le_trans hb e
set_option maxRecDepth 100000 in
theorem Heard_any (h : Bx W F tb x) (hc : Consts W) (n : Int) : Calls Tryd.prog 23 #[.pointer (some ⟨tb, 0, none⟩), iv n] W fun e w' =>
    e = .returned (.tuple #[iv ((heardT x n).2.getD 0), .bool (heardT x n).2.isSome]) ∧ Bx w' (And_new F W) tb (heardT x n).1 ∧ Fr F W w' := by
  obtain ⟨sv, h, hF⟩ := h
  have h0 := h.ownc
  by_cases ok : okA x.own n
  · have e : heardT x n = (putB x (rowB x n) (heardB (x.K (rowB x n)) (x.Q (rowB x n)) n).1 (heardB (x.K (rowB x n)) (x.Q (rowB x n)) n).2.1, (heardB (x.K (rowB x n)) (x.Q (rowB x n)) n).2.2) := by unfold heardT; rw [if_pos ok]
    rw [e]
    have HB := Lib.hid (bucket_any h hc n)
    have hle := rowB_le x n
    obtain ⟨k, hk⟩ : ∃ k, k = rowB x n := ⟨_, rfl⟩
    rw [← hk] at HB hle ⊢
    have HK := Lib.hid (show k < 257 by omega)
    have HH := Lib.hid (fun (w1 : World) (hb : Below W.heap.size W w1) => heard_any (h.below hb) hF HK.out n)
    obtain ⟨r, hr⟩ : ∃ r, r = heardB (x.K k) (x.Q k) n := ⟨_, rfl⟩
    rw [← hr] at HH ⊢
    obtain ⟨q1, q2, q3⟩ := ok
    have HFr := Lib.hid (fun (w1 : World) (hb : Below W.heap.size W w1) => Fr.of_below (F := F) hb)
    have d1 : decide (n = x.own) = false := by simpa using q1
    have d2 : decide (n < 0) = false := by simp; omega
    have d3 : decide (64 ≤ n) = false := by simp; omega
    obtain ⟨v0, hv0⟩ : ∃ v0, v0 = r.2.2.getD 0 := ⟨_, rfl⟩
    obtain ⟨v1, hv1⟩ : ∃ v1, v1 = r.2.2.isSome := ⟨_, rfl⟩
    obtain ⟨y, hy⟩ : ∃ y, y = putB x k r.1 r.2.1 := ⟨_, rfl⟩
    simp only [← hv0, ← hv1, ← hy] at HH ⊢
    clear h hF hc e hk hr hv0 hv1 hy hle
    go_enter Tryd.func23, Tryd.ntmps23
    go_wp2_with fail
    refine HB.out.mono ?_
    rintro e w1 ⟨rfl, hb⟩
    have HH1 := Lib.hid (HH.out w1 hb)
    have HF1 := Lib.hid (HFr.out w1 hb)
    have HSZ := Lib.hid hb.size
    clear hb HH HFr h0
    go_wp2_with fail
    refine HH1.out.mono ?_
    rintro e w2 ⟨rfl, hx, hf⟩
    have HX := Lib.hid (hx.new_new HSZ.out)
    have HF2 := Lib.hid (HF1.out.trans hf (fun _ hi => .inl hi))
    clear hx hf
    go_wp2_with fail
    go_ret2
    exact ⟨rfl, HX.out, HF2.out⟩
  · have e : heardT x n = (x, none) := by unfold heardT; rw [if_neg ok]
    rw [e]
    have HB := Lib.hid (Bx.same h hF)
    have hno : n = x.own ∨ n < 0 ∨ 64 ≤ n := by unfold okA at ok; omega
    clear h hF e ok hc
    obtain ⟨o, ho⟩ : ∃ o, o = x.own := ⟨_, rfl⟩
    rw [← ho] at h0 hno
    clear ho
    by_cases e1 : n = o
    · subst e1
      go_enter Tryd.func23, Tryd.ntmps23
      go_wp2_with fail
      go_ret2
      exact ⟨rfl, HB.out⟩
    · have d1 : decide (n = o) = false := by simpa using e1
      by_cases e2 : n < 0
      · go_enter Tryd.func23, Tryd.ntmps23
        go_wp2_with fail
        go_ret2
        exact ⟨rfl, HB.out⟩
      · have d2 : decide (n < 0) = false := by simp; omega
        have d3 : 64 ≤ n := by omega
        go_enter Tryd.func23, Tryd.ntmps23
        go_wp2_with fail
        go_ret2
        exact ⟨rfl, HB.out⟩
set_option maxRecDepth 100000 in
theorem Gone_any (h : Bx W F tb x) (hc : Consts W) (n : Int) : Calls Tryd.prog 28 #[.pointer (some ⟨tb, 0, none⟩), iv n] W fun e w' =>
    e = .returned (.bool (goneT x n).2) ∧ Bx w' (And_new F W) tb (goneT x n).1 ∧ Fr F W w' := by
  obtain ⟨sv, h, hF⟩ := h
  have e : goneT x n = (putB x (rowB x n) (goneB (x.K (rowB x n)) (x.Q (rowB x n)) n).1 (goneB (x.K (rowB x n)) (x.Q (rowB x n)) n).2.1, (goneB (x.K (rowB x n)) (x.Q (rowB x n)) n).2.2) := rfl
  rw [e]
  have HB := Lib.hid (bucket_any h hc n)
  have hle := rowB_le x n
  obtain ⟨k, hk⟩ : ∃ k, k = rowB x n := ⟨_, rfl⟩
  rw [← hk] at HB hle ⊢
  have HK := Lib.hid (show k < 257 by omega)
  have HH := Lib.hid (fun (w1 : World) (hb : Below W.heap.size W w1) => gone_any (h.below hb) hF HK.out n)
  have HFr := Lib.hid (fun (w1 : World) (hb : Below W.heap.size W w1) => Fr.of_below (F := F) hb)
  obtain ⟨v0, hv0⟩ : ∃ v0, v0 = (goneB (x.K k) (x.Q k) n).2.2 := ⟨_, rfl⟩
  obtain ⟨y, hy⟩ : ∃ y, y = putB x k (goneB (x.K k) (x.Q k) n).1 (goneB (x.K k) (x.Q k) n).2.1 := ⟨_, rfl⟩
  simp only [← hv0, ← hy] at HH ⊢
  clear h hF hc e hk hv0 hy hle
  go_enter Tryd.func28, Tryd.ntmps28
  go_wp2_with fail
  refine HB.out.mono ?_
  rintro e w1 ⟨rfl, hb⟩
  have HH1 := Lib.hid (HH.out w1 hb)
  have HF1 := Lib.hid (HFr.out w1 hb)
  have HSZ := Lib.hid hb.size
  clear hb HH HFr
  go_wp2_with fail
  refine HH1.out.mono ?_
  rintro e w2 ⟨rfl, hx, hf⟩
  have HX := Lib.hid (hx.new_new HSZ.out)
  have HF2 := Lib.hid (HF1.out.trans hf (fun _ hi => .inl hi))
  clear hx hf
  go_wp2_with fail
  go_ret
  exact ⟨rfl, HX.out, HF2.out⟩
theorem Knows_any (h : Bx W F tb x) (hc : Consts W) (n : Int) : Calls Tryd.prog 20 #[.pointer (some ⟨tb, 0, none⟩), iv n] W fun e w' =>
    e = .returned (.bool (knowsT x n)) ∧ Bx w' F tb x ∧ Below W.heap.size W w' := by
  obtain ⟨sv, h, hF⟩ := h
  exact (knows_any h hc n).mono fun _ _ q => ⟨q.1, ⟨sv, h.below q.2, hF⟩, q.2⟩
end
end Go.Proofs.YtaicjdjfhbmfeaaDoor

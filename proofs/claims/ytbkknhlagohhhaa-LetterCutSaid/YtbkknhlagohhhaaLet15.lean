/-
  letter.Bytes where the kind has lists.
-/
import Derived.Test.YtbkknhlagohhhaaLet11
namespace Go.Proofs.Ytbkknhlagohhhaa
open Go.RowKit Crv

set_option maxHeartbeats 4000000 in
set_option maxRecDepth 100000 in
theorem bytes_list (l : LV) (ps hs : List Int) (W : World) (kL : listK l.kind = true) (hid : l.id.length = 32) (hps : ZsR W l.pv ps) (hhs : ZsR W l.hv hs) (hpl : ps.length ≤ 10) (hhl : hs.length ≤ 10) (htl : l.text.length ≤ 600)
    (hr : ∀ k ∈ [l.kind, l.fr, l.to, l.seq, l.what], -9223372036854775808 ≤ k ∧ k < 9223372036854775808) (hpr : ∀ k ∈ ps, -9223372036854775808 ≤ k ∧ k < 9223372036854775808) (hhr : ∀ k ∈ hs, -9223372036854775808 ≤ k ∧ k < 9223372036854775808) :
    Calls Try.prog 18 #[.agg (ltC l).toArray] W fun e w' => e = .returned (tx (bytesL l ps hs)) ∧ Below W.heap.size W w' := by
  have hM0 : Mem (W.alloc (.cells (ltC l).toArray Tlt)) W.heap.size Tlt (ltC l) := Mem.new W Tlt (ltC l)
  have hB0 := belowSelf W (.cells (ltC l).toArray Tlt)
  obtain ⟨⟨c0, c1, c2, c3⟩, -⟩ := lt_cells hM0 hid
  have hA := belowSelf (W.alloc (.cells (ltC l).toArray Tlt)) (.cells #[.int .i64 l.kind, .int .i64 l.fr, .int .i64 l.to, .int .i64 l.seq] 3)
  obtain ⟨N, hN⟩ : ∃ N, N = numsL [l.kind, l.fr, l.to, l.seq] := ⟨_, rfl⟩
  have hr4 : ∀ k ∈ [l.kind, l.fr, l.to, l.seq], -9223372036854775808 ≤ k ∧ k < 9223372036854775808 := fun k hk => hr k (by simp at hk ⊢; omega)
  have hnu := nums_any _ _ [l.kind, l.fr, l.to, l.seq] (ints_new (W.alloc (.cells (ltC l).toArray Tlt)) [l.kind, l.fr, l.to, l.seq]) (by simp) hr4
  have hNl : N.length ≤ 36 := by
    rw [hN]
    exact length_nums [l.kind, l.fr, l.to, l.seq] (fun k hk => (hr4 k hk).2)
  have hnn : ([l.kind, l.fr, l.to, l.seq].flatMap fun k => numOf (nat0 k)) = N := hN.symm
  rw [hnn] at hnu
  simp only [List.map_cons, List.map_nil, List.length_cons, List.length_nil, Nat.zero_add, Nat.reduceAdd] at hnu
  rw [show (W.alloc (.cells (ltC l).toArray Tlt)).heap.size = W.heap.size + 1 from by simp] at hnu
  have HNU := Lib.hid hnu
  have HB := Lib.hid (hB0.trans (hA.mono hB0.size))
  have HM0 := Lib.hid (hM0.below hA hM0.lt)
  have HI := Lib.hid (fun w => hasID_any l.kind w)
  have HLI := Lib.hid (fun w => hasLists_any l.kind w)
  have HWH := Lib.hid (fun w => hasWhat_any l.kind w)
  have HTX := Lib.hid (fun w => hasText_any l.kind w)
  -- the parts
  obtain ⟨EP, hEP⟩ : ∃ E, E = encL ps := ⟨_, rfl⟩
  obtain ⟨EH, hEH⟩ : ∃ E, E = encL hs := ⟨_, rfl⟩
  have hel : ∀ ks : List Int, ks.length ≤ 10 → (∀ k ∈ ks, -9223372036854775808 ≤ k ∧ k < 9223372036854775808) → (encL ks).length ≤ 99 := fun ks hl hk => by
    unfold encL
    rw [List.length_append]
    have h1 := length_numsL [(ks.length : Int)] (fun k h => by simp only [List.mem_singleton] at h; subst h; omega)
    have h2 := length_numsL ks (fun k h => (hk k h).2)
    simp only [List.length_singleton] at h1
    omega
  have hEPl : EP.length ≤ 99 := by rw [hEP]; exact hel ps hpl hpr
  have hEHl : EH.length ≤ 99 := by rw [hEH]; exact hel hs hhl hhr
  have HE1 := Lib.hid (fun X (hX : Below W.heap.size W X) => encoded_any l.pv ps X (hps.below hX) (by omega) hpr)
  have HE2 := Lib.hid (fun X (hX : Below W.heap.size W X) => encoded_any l.hv hs X (hhs.below hX) (by omega) hhr)
  rw [← hEP] at HE1
  rw [← hEH] at HE2
  obtain ⟨pa, pc, hpv, _⟩ := hps.form
  obtain ⟨ha, hc, hhv, _⟩ := hhs.form
  rw [hpv] at HE1
  rw [hhv] at HE2
  have HPV := Lib.hid hpv
  have HHV := Lib.hid hhv
  have hwr := hr l.what (by simp)
  obtain ⟨A, hA5⟩ : ∃ A, A = numsL [l.what] := ⟨_, rfl⟩
  have hAl : A.length ≤ 9 := by
    rw [hA5]
    have := length_numsL [l.what] (fun k h => by simp only [List.mem_singleton] at h; subst h; exact hwr.2)
    simpa using this
  have HNW : Hid (∀ X : World, Calls Try.prog 49 #[.slice (some ⟨X.heap.size, 0, none⟩) 1 1] (X.alloc (.cells #[.int .i64 l.what] 3)) fun e w' => e = .returned (tx A) ∧ Below (X.alloc (.cells #[.int .i64 l.what] 3)).heap.size (X.alloc (.cells #[.int .i64 l.what] 3)) w') := Lib.hid fun X => by
    have h1 := nums_any _ _ [l.what] (ints_new X [l.what]) (by simp) (by
      intro k hk
      simp only [List.mem_singleton] at hk
      subst hk
      exact hwr)
    simp only [List.map_cons, List.map_nil, List.length_cons, List.length_nil, Nat.zero_add] at h1
    rw [show ([l.what].flatMap fun k => numOf (nat0 k)) = A from hA5.symm] at h1
    exact h1
  have HST := Lib.hid (fun w => str_any l.text w (by omega))
  obtain ⟨T, hT⟩ : ∃ T, T = strOf l.text := ⟨_, rfl⟩
  rw [← hT] at HST
  have hTl : T.length ≤ 1009 := by rw [hT]; exact length_strOf l.text (by omega)
  have HIB := Lib.hid (fun w => idBytes_any l.id w hid)
  have SZI := Lib.hid (sz_id l.id hid)
  have HID := Lib.hid hid
  have HM : Hid (bytesL l ps hs = (let s0 := cvT ++ N
      let s1 := if idK l.kind = true then s0 ++ l.id else s0
      let s2 := if listK l.kind = true then s1 ++ (EP ++ EH) else s1
      let s3 := if whatK l.kind = true then s2 ++ A else s2
      if textK l.kind = true then s3 ++ T else s3)) := Lib.hid (by rw [hN, hEP, hEH, hA5, hT]; rfl)
  obtain ⟨m, hm⟩ : ∃ m, m = bytesL l ps hs := ⟨_, rfl⟩
  rw [← hm] at HM ⊢
  clear hnu hnn hM0 hB0 hA hN hr hr4 hpr hhr hEP hEH hel hpv hhv hps hhs hA5 hT hm hwr
  have kI : idK l.kind = true := by
    rcases Bool.eq_false_or_eq_true (idK l.kind) with h | h
    · exact h
    · rw [(no_id h).1] at kL
      exact absurd kL (by simp)
  obtain ⟨kW, kT⟩ := no_list kL
  have hmv : m = ((cvT ++ N) ++ l.id) ++ (EP ++ EH) := by
    rw [HM.out]
    simp only [kI, kL, kW, kT, if_true, Bool.false_eq_true, if_false]
  have HMV := Lib.hid hmv
  rw [kI] at HI
  rw [kL] at HLI
  rw [kW] at HWH
  rw [kT] at HTX
  clear hmv kI kL kW kT
  go_enter Try.func18, Try.ntmps18
  go_wp2_with fail
  refine HNU.out.mono ?_
  rintro e w1 ⟨rfl, hb1⟩
  have HB1 := Lib.hid (HB.out.trans (hb1.mono HB.out.size))
  have HM1 := Lib.hid (Mem.below HM0.out hb1 HM0.out.lt)
  obtain ⟨⟨e0, -, -, -⟩, e36, e37, e38, e39⟩ := lt_cells HM1.out HID.out
  rw [HPV.out] at e38
  rw [HHV.out] at e39
  clear hb1
  go_wp2_with fail
  refine (HI.out _).mono ?_
  rintro e w ⟨rfl, rfl⟩
  go_wp2_with (first
    | (refine wp_load_row (ltC_rng HM1.out) Ti (.tmp 19) (.array 32 5) rfl rfl rfl Try.underlying23 rfl SZI.out ?_)
    | fail)
  refine (HIB.out _).mono ?_
  rintro e w2 ⟨rfl, hb2⟩
  clear e0 e36 e37 e38 e39
  have HB2 := Lib.hid (HB1.out.trans (hb2.mono HB1.out.size))
  have HM2 := Lib.hid (Mem.below HM1.out hb2 HM1.out.lt)
  obtain ⟨⟨e0, -, -, -⟩, e36, e37, e38, e39⟩ := lt_cells HM2.out HID.out
  rw [HPV.out] at e38
  rw [HHV.out] at e39
  clear hb2
  go_wp2_with fail
  refine (HLI.out _).mono ?_
  rintro e w ⟨rfl, rfl⟩
  go_wp2_with fail
  have hz2 : Below w2.heap.size w2 w2.drew := (Below.refl _ _).drew
  have hSD : Mem w2.drew W.heap.size Tlt (ltC l) ∧ Below W.heap.size W w2.drew := ⟨Mem.below HM2.out hz2 HM2.out.lt, HB2.out.drew⟩
  have HSD := Lib.hid hSD
  clear hz2 hSD e0 e36 e37 e38 e39
  refine wp_region_held_drew (S := fun w' => Mem w' W.heap.size Tlt (ltC l) ∧ Below W.heap.size W w') (by kernel_rfl) HSD.out (fun hHeld => ?_)
  refine wpAnyH_take (i := 0) (oi := { dst := some 26, op := Op.move (Operand.tmp 3), type := 9, pos := "letter.go:112", after := #[], guard := none }) (v := .string ({ data := #[99, 118] } ++ str N ++ str l.id)) rfl (by kernel_rfl) (by kernel_rfl) (by kernel_rfl) (fun _ _ _ h => h) (Or.inl ⟨by rfl, ?_⟩) hHeld ?_
  · intro w' hSw
    have f38 := (lt_cells hSw.1 HID.out).2.2.2.1
    rw [HPV.out] at f38
    have f39 := (lt_cells hSw.1 HID.out).2.2.2.2
    rw [HHV.out] at f39
    clear hSw
    go_simp
  simp only [Act.put, List.setIfInBounds_toArray, List.set_cons_zero, List.set_cons_succ]
  refine wpAnyH_take (i := 1) (oi := { dst := some 27, op := Op.fieldAddr 26 (Operand.tmp 1) 7, type := 0, pos := "letter.go:112", after := #[], guard := none }) (v := .pointer (some ⟨W.heap.size, 38, none⟩)) rfl (by kernel_rfl) (by kernel_rfl) (by kernel_rfl) (fun _ _ _ h => h) (Or.inl ⟨by rfl, ?_⟩) hHeld ?_
  · intro w' hSw
    have f38 := (lt_cells hSw.1 HID.out).2.2.2.1
    rw [HPV.out] at f38
    have f39 := (lt_cells hSw.1 HID.out).2.2.2.2
    rw [HHV.out] at f39
    clear hSw
    go_simp
  simp only [Act.put, List.setIfInBounds_toArray, List.set_cons_zero, List.set_cons_succ]
  refine wpAnyH_take (i := 2) (oi := { dst := some 28, op := Op.load 24 (Operand.tmp 27), type := 24, pos := "letter.go:112", after := #[{ on := 1, ground := Ground.data }], guard := none }) (v := .slice pa ps.length pc) rfl (by kernel_rfl) (by kernel_rfl) (by kernel_rfl) (fun _ _ _ h => h) (Or.inl ⟨by rfl, ?_⟩) hHeld ?_
  · intro w' hSw
    have f38 := (lt_cells hSw.1 HID.out).2.2.2.1
    rw [HPV.out] at f38
    have f39 := (lt_cells hSw.1 HID.out).2.2.2.2
    rw [HHV.out] at f39
    clear hSw
    go_simp
  simp only [Act.put, List.setIfInBounds_toArray, List.set_cons_zero, List.set_cons_succ]
  refine wpAnyH_take (i := 4) (oi := { dst := some 30, op := Op.fieldAddr 26 (Operand.tmp 1) 8, type := 0, pos := "letter.go:112", after := #[], guard := none }) (v := .pointer (some ⟨W.heap.size, 39, none⟩)) rfl (by kernel_rfl) (by kernel_rfl) (by kernel_rfl) (fun _ _ _ h => h) (Or.inl ⟨by rfl, ?_⟩) hHeld ?_
  · intro w' hSw
    have f38 := (lt_cells hSw.1 HID.out).2.2.2.1
    rw [HPV.out] at f38
    have f39 := (lt_cells hSw.1 HID.out).2.2.2.2
    rw [HHV.out] at f39
    clear hSw
    go_simp
  simp only [Act.put, List.setIfInBounds_toArray, List.set_cons_zero, List.set_cons_succ]
  refine wpAnyH_take (i := 5) (oi := { dst := some 31, op := Op.load 24 (Operand.tmp 30), type := 24, pos := "letter.go:112", after := #[{ on := 4, ground := Ground.data }], guard := none }) (v := .slice ha hs.length hc) rfl (by kernel_rfl) (by kernel_rfl) (by kernel_rfl) (fun _ _ _ h => h) (Or.inl ⟨by rfl, ?_⟩) hHeld ?_
  · intro w' hSw
    have f38 := (lt_cells hSw.1 HID.out).2.2.2.1
    rw [HPV.out] at f38
    have f39 := (lt_cells hSw.1 HID.out).2.2.2.2
    rw [HHV.out] at f39
    clear hSw
    go_simp
  simp only [Act.put, List.setIfInBounds_toArray, List.set_cons_zero, List.set_cons_succ]
  refine wpAnyH_ready (rs := [3]) (by kernel_rfl) (by simp) (AllReadyH.cons rfl (fun K hK => ?_) AllReadyH.nil)
  go_simp
  refine (HE1.out _ hHeld.2).mono ?_
  rintro e wa ⟨rfl, hba⟩
  dsimp only
  refine hK.out _ _ ⟨Mem.below hHeld.1 hba hHeld.1.lt, hHeld.2.trans (hba.mono hHeld.2.size)⟩ (fun hH1 => ?_)
  clear hK K hba
  refine wpAnyH_ready (rs := [6]) (by kernel_rfl) (by simp) (AllReadyH.cons rfl (fun K hK => ?_) AllReadyH.nil)
  go_simp
  refine (HE2.out _ hH1.2).mono ?_
  rintro e wb ⟨rfl, hbb⟩
  dsimp only
  refine hK.out _ _ ⟨Mem.below hH1.1 hbb hH1.1.lt, hH1.2.trans (hbb.mono hH1.2.size)⟩ (fun hH2 => ?_)
  clear hK K hbb
  refine wpAnyH_take (i := 7) (oi := { dst := some 33, op := Op.binOp BinOp.add 9 (Operand.tmp 29) (Operand.tmp 32) 9, type := 9, pos := "letter.go:112", after := #[{ on := 3, ground := Ground.data }, { on := 6, ground := Ground.data }], guard := none }) (v := .string (str EP ++ str EH)) rfl (by kernel_rfl) (by kernel_rfl) (by kernel_rfl) (fun _ _ _ h => h) (Or.inl ⟨by rfl, ?_⟩) hH2 ?_
  · intro w' hSw
    have f38 := (lt_cells hSw.1 HID.out).2.2.2.1
    rw [HPV.out] at f38
    have f39 := (lt_cells hSw.1 HID.out).2.2.2.2
    rw [HHV.out] at f39
    clear hSw
    (go_simp; omega)
  simp only [Act.put, List.setIfInBounds_toArray, List.set_cons_zero, List.set_cons_succ]
  refine wpAnyH_take (i := 8) (oi := { dst := some 34, op := Op.binOp BinOp.add 9 (Operand.tmp 26) (Operand.tmp 33) 9, type := 9, pos := "letter.go:112", after := #[{ on := 0, ground := Ground.data }, { on := 7, ground := Ground.data }], guard := none }) (v := .string ({ data := #[99, 118] } ++ str N ++ str l.id ++ (str EP ++ str EH))) rfl (by kernel_rfl) (by kernel_rfl) (by kernel_rfl) (fun _ _ _ h => h) (Or.inl ⟨by rfl, ?_⟩) hH2 ?_
  · intro w' hSw
    have f38 := (lt_cells hSw.1 HID.out).2.2.2.1
    rw [HPV.out] at f38
    have f39 := (lt_cells hSw.1 HID.out).2.2.2.2
    rw [HHV.out] at f39
    clear hSw
    (go_simp; omega)
  simp only [Act.put, List.setIfInBounds_toArray, List.set_cons_zero, List.set_cons_succ]
  refine wpAnyH_take (i := 9) (oi := { dst := some 3, op := Op.assign (Operand.tmp 34), type := 9, pos := "letter.go:112", after := #[{ on := 8, ground := Ground.data }, { on := 6, ground := Ground.chain }, { on := 0, ground := Ground.phase }, { on := 1, ground := Ground.phase }, { on := 2, ground := Ground.phase }, { on := 3, ground := Ground.phase }, { on := 4, ground := Ground.phase }, { on := 5, ground := Ground.phase }, { on := 6, ground := Ground.phase }, { on := 7, ground := Ground.phase }, { on := 8, ground := Ground.phase }], guard := none }) (v := .string ({ data := #[99, 118] } ++ str N ++ str l.id ++ (str EP ++ str EH))) rfl (by kernel_rfl) (by kernel_rfl) (by kernel_rfl) (fun _ _ _ h => h) (Or.inl ⟨by rfl, ?_⟩) hH2 ?_
  · intro w' hSw
    have f38 := (lt_cells hSw.1 HID.out).2.2.2.1
    rw [HPV.out] at f38
    have f39 := (lt_cells hSw.1 HID.out).2.2.2.2
    rw [HHV.out] at f39
    clear hSw
    go_simp
  simp only [Act.put, List.setIfInBounds_toArray, List.set_cons_zero, List.set_cons_succ]
  refine wpAnyH_done (by kernel_rfl) ?_ _
  rename_i Kz hKz
  refine hKz _ _ ?_
  have hmy := hH2.1
  have hby := hH2.2
  have f0 := (lt_cells hmy HID.out).1.1
  go_wp2_with fail
  refine (HWH.out _).mono ?_
  rintro e w ⟨rfl, rfl⟩
  go_wp2_with fail
  refine (HTX.out _).mono ?_
  rintro e w ⟨rfl, rfl⟩
  go_wp2_with fail
  go_ret
  rw [HMV.out]
  exact ⟨rfl, hby⟩
theorem bytes_any (l : LV) (ps hs : List Int) (W : World) (hid : l.id.length = 32) (hps : ZsR W l.pv ps) (hhs : ZsR W l.hv hs) (hpl : ps.length ≤ 10) (hhl : hs.length ≤ 10) (htl : l.text.length ≤ 600)
    (hr : ∀ k ∈ [l.kind, l.fr, l.to, l.seq, l.what], -9223372036854775808 ≤ k ∧ k < 9223372036854775808) (hpr : ∀ k ∈ ps, -9223372036854775808 ≤ k ∧ k < 9223372036854775808) (hhr : ∀ k ∈ hs, -9223372036854775808 ≤ k ∧ k < 9223372036854775808) :
    Calls Try.prog 18 #[.agg (ltC l).toArray] W fun e w' => e = .returned (tx (bytesL l ps hs)) ∧ Below W.heap.size W w' := by
  rcases Bool.eq_false_or_eq_true (listK l.kind) with kL | kL
  · exact bytes_list l ps hs W kL hid hps hhs hpl hhl htl hr hpr hhr
  · exact bytes_nolist l ps hs W kL hid hps hhs hpl hhl htl hr hpr hhr
end Go.Proofs.Ytbkknhlagohhhaa

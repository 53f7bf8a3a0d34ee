/-
  Repute: Ban, Banned, May.
-/
import Derived.Test.YtblfekecmahagaaDoorRep3
namespace Go.Proofs.YtblfekecmahagaaDoor
open Go.RowKit Go.Maps Crv

theorem ld_pf (p : Value) : Instr.loadAt Tpf p = ldRow Tpf p := rfl
/-- A proof is loaded whole. -/
theorem ld_pf_at {W : World} {g : Nat} {p : PF} (hm : Mem W g Tpf (pfC p)) (hp : p.2.1.length = 32) : (ldRow Tpf (.pointer (some ⟨g, 0, none⟩))).run Tryd.prog W = .ok (.agg (pfC p).toArray) W :=
  run_loadAt_mid W g 0 Tpf (pfC p) _ (fun j v hj => by rw [Nat.zero_add, hm.cell]; exact hj) Tryd.underlying37 rfl (sz_pf p hp)
theorem one_pfC (p : PF) : ∀ u ∈ pfC p, u.oneCell' = true := by
  intro u hu
  simp only [pfC, List.mem_cons, List.mem_append, List.mem_map, List.mem_nil_iff, or_false] at hu
  rcases hu with rfl | ⟨b, _, rfl⟩ | rfl <;> rfl
theorem len_pfC {p : PF} (hp : p.2.1.length = 32) : (pfC p).length = 34 := by simp [pfC, hp]
theorem OkB.get {B : BNt} (h : OkB B) (n : Int) : ((getK n B).getD zeroP).2.1.length = 32 := by
  cases hg : getK n B with
  | none => rfl
  | some p => exact h n p hg
theorem OkB.ban {B : BNt} (h : OkB B) (hu : Uniq B) (n : Int) {p : PF} (hp : p.2.1.length = 32) : OkB (banB B n p) := by
  intro k q hq
  rw [getK_ban hu] at hq
  split at hq
  · injection hq with hq
    subst hq
    cases hg : getK n B with
    | none => exact hp
    | some r => exact h n r hg
  · exact h k q hq
theorem wp_lookRun {P : Program} {ops : Array Oper} {rest : List Oper} {o : Oper} {a : Act} {w : World} {Q : Exit → Act → World → Prop} {t : TypeId} {mv xv r : Value} {ok : Bool} (hr : (Instr.lookup t mv xv ok).run P w = .ok r w)
    (m x : Operand) (hgd : o.guard = none) (ho : o.op = .lookup t m x ok) (hm : a.eval m = mv) (hx : a.eval x = xv) (h : wpList P ops Q rest (a.put o.dst r) w) : wpList P ops Q (o :: rest) a w := by
  refine wpList_plain hgd fun K hK => ?_
  unfold Oper.wp execOp
  simp only [ho, hm, hx, hr, Sem.run_bind, Sem.run_pure, Result.andThen_ok]
  exact hK _ _ h
section
variable {w w' : World} {k mb bb : Nat} {M : MKt} {B : BNt}
/-- The bans turn. -/
theorem Bv.bans (h : Bv w k mb bb M B) (hg : w.grownBy w' (some bb)) {B' : BNt} (ho : MpB w' bb B') (hB : OkB B') (hl : B'.length ≤ 100000) : Bv w' k mb bb M B' :=
  ⟨h.m.grown hg (fun e => h.kb (by injection e)), MpS.grown h.t hg (fun e => h.ne (by injection e)), ho, h.ne, h.ok, hB, h.len.1, hl⟩
attribute [local go_sem ↓] ld_pf
set_option maxHeartbeats 2000000 in
set_option maxRecDepth 100000 in
theorem ban_any (h : Bv w k mb bb M B) (hc : Consts w) {n : Int} (hn : In64 n) (p : PF) (h1 : p.1 = 1) (hp : p.2.1.length = 32) (ht : p.2.2.length ≤ 1000000) (hl : B.length < 100000) : Calls Tryd.prog 15 #[.pointer (some ⟨k, 0, none⟩), iv n, .agg (pfC p).toArray] w fun e w' =>
    e = .returned (iv (if holdsP p = true then 0 else 10)) ∧ Bv w' k mb bb M (if holdsP p = true then banB B n p else B) ∧ w.grownBy w' (some bb) := by
  obtain ⟨wA, hwA⟩ : ∃ wA, wA = w.alloc (.cells (pfC p).toArray Tpf) := ⟨_, rfl⟩
  have HM := Lib.hid (show Mem wA w.heap.size Tpf (pfC p) from by rw [hwA]; exact Mem.new w Tpf (pfC p))
  have HB := Lib.hid (show Below w.heap.size w wA from by rw [hwA]; exact belowSelf w (.cells (pfC p).toArray Tpf))
  have HH := Lib.hid (holds_any p wA (hc.on HB.out) h1 hp ht)
  have HV := Lib.hid h
  have HP := Lib.hid hp
  have HN := Lib.hid hn
  have HWA := Lib.hid hwA
  have HL := Lib.hid hl
  clear h hc hn h1 ht hwA hl
  have hld : (ldRow Tpf (.pointer (some ⟨w.heap.size, 0, none⟩))).run Tryd.prog (w.alloc (.cells (pfC p).toArray Tpf)) = .ok (.agg (pfC p).toArray) (w.alloc (.cells (pfC p).toArray Tpf)) := ld_pf_at (Mem.new w Tpf (pfC p)) HP.out
  cases hh : holdsP p with
  | false =>
    rw [hh] at HH
    clear hh
    go_enter Tryd.func15, Tryd.ntmps15
    go_wp2_with fail
    change Calls _ _ _ (w.alloc (.cells (pfC p).toArray Tpf)) _
    rw [← HWA.out]
    refine HH.out.mono ?_
    rintro e w1 ⟨rfl, hb1⟩
    have HB1 := Lib.hid (belowThen HB.out hb1)
    clear hb1 hld
    go_wp2_with fail
    go_ret
    exact ⟨rfl, HV.out.below HB1.out, grownOfBelow HB1.out⟩
  | true =>
    rw [hh] at HH
    clear hh
    go_enter Tryd.func15, Tryd.ntmps15
    go_wp2_with fail
    change Calls _ _ _ (w.alloc (.cells (pfC p).toArray Tpf)) _
    rw [← HWA.out]
    refine HH.out.mono ?_
    rintro e w1 ⟨rfl, hb1⟩
    have HB1 := Lib.hid (belowThen HB.out hb1)
    have HM1 := Lib.hid (HM.out.below hb1 HM.out.lt)
    have HV1 := Lib.hid (HV.out.below (belowThen HB.out hb1))
    clear hb1 hld HM HB
    have q1 : w1.cell? ⟨k, 1, none⟩ = some (.map (some bb)) := HV1.out.m.cell 1
    have hlk := HV1.out.u.look_ok HN.out
    have HLP := Lib.hid (HV1.out.okb.get n)
    obtain ⟨r, hr⟩ : ∃ r, r = (getK n B).getD zeroP := ⟨_, rfl⟩
    rw [← hr] at hlk HLP
    obtain ⟨bs, hbs⟩ : ∃ bs, bs = (getK n B).isSome := ⟨_, rfl⟩
    rw [← hbs] at hlk
    have HBS := Lib.hid hbs
    have hkl := HV1.out.m.lt
    clear hr hbs
    obtain ⟨rV, hrV⟩ : ∃ rV, rV = (.agg (pfC r).toArray : Value) := ⟨_, rfl⟩
    have hlk2 : (Instr.lookup Tmp (.map (some bb)) (iv n) true).run Tryd.prog w1 = .ok (.tuple #[rV, .bool bs]) w1 := by rw [hrV]; exact hlk
    have HRV := Lib.hid hrV
    have HZ := Lib.hid (show Mem (w1.alloc (.cells (pfC zeroP).toArray Tpf)) w1.heap.size Tpf (pfC zeroP) from Mem.new w1 Tpf _)
    have HBZ := Lib.hid (belowSelf w1 (.cells (pfC zeroP).toArray Tpf))
    have HI := Lib.hid (sz_pf r HLP.out)
    have HLL := Lib.hid (show (pfC zeroP).length = (pfC r).length from by rw [len_pfC HLP.out]; rfl)
    have HON := Lib.hid (one_pfC r)
    clear hlk hrV
    cases bs with
    | true =>
      have HE := Lib.hid (show banB B n p = B from by unfold banB; rw [if_pos HBS.out.symm])
      go_wp2_with (first
        | (refine wp_store_gen HBZ.out (Nat.le_refl _) HZ.out (pfC r) Tpf (.tmp 7) (.tmp 19) rfl rfl rfl HRV.out HI.out HLL.out HON.out ?_
           intro W4 hm4 hb4 hz4 ho4
           have HV4 := Lib.hid (HV1.out.below hb4)
           have HM4 := Lib.hid (HM1.out.below hb4 HM1.out.lt)
           have HB4 := Lib.hid (belowThen HB1.out hb4)
           have q14 : W4.cell? ⟨k, 1, none⟩ = some (.map (some bb)) := HV4.out.m.cell 1
           have hld4 := ld_pf_at HM4.out HP.out
           clear hm4 hb4 hz4 ho4)
        | fail)
      go_ret
      refine ⟨rfl, ?_, grownOfBelow HB4.out⟩
      rw [HE.out]
      exact HV4.out
    | false =>
      have HE := Lib.hid (show banB B n p = eP.set n p B from by unfold banB; rw [← HBS.out, if_neg (by simp)])
      go_wp2_with (first
        | (refine wp_store_gen HBZ.out (Nat.le_refl _) HZ.out (pfC r) Tpf (.tmp 7) (.tmp 19) rfl rfl rfl HRV.out HI.out HLL.out HON.out ?_
           intro W4 hm4 hb4 hz4 ho4
           have HV4 := Lib.hid (HV1.out.below hb4)
           have HM4 := Lib.hid (HM1.out.below hb4 HM1.out.lt)
           have HB4 := Lib.hid (belowThen HB1.out hb4)
           have q14 : W4.cell? ⟨k, 1, none⟩ = some (.map (some bb)) := HV4.out.m.cell 1
           have hld4 := ld_pf_at HM4.out HP.out
           clear hm4 hb4 hz4 ho4)
        | fail)
      have hld5 := ld_pf_at HM4.out.drew HP.out
      have hVD : Bv W4.drew k mb bb M B := HV4.out.of rfl rfl rfl
      obtain ⟨W5, hr5, ho5, hg5⟩ := hVD.u.put p HN.out (by have := HL.out; omega)
      have HV5 := Lib.hid (show Bv W5 k mb bb M (banB B n p) from hVD.bans hg5 (by rw [HE.out]; exact ho5) (hVD.okb.ban hVD.uqb n HP.out) (by have := length_ban hVD.uqb n p; have := HL.out; omega))
      have HG5 := Lib.hid (show w.grownBy W5 (some bb) from grown_trans (grown_drew (grownOfBelow HB4.out)) hg5)
      have hr5' : (Instr.mapUpdate Tmp (.map (some bb)) (iv n) (.agg (pfC p).toArray)).run Tryd.prog W4.drew = .ok () W5 := hr5
      have HR5 := Lib.hid hr5'
      clear hVD hr5 hr5' ho5 hg5
      refine wp_region_still_tail 6 (by kernel_rfl) (by kernel_rfl) ?_
      simp only [List.take_succ_cons, List.take_zero, List.drop_succ_cons, List.drop_zero]
      iterate 6 still_step
      refine wpStill_nil ?_
      change wpList _ _ _ _ _ W4.drew
      go_wp2_with (first
        | (refine wp_mapRun HR5.out (.tmp 26) (.tmp 27) (.tmp 28) rfl rfl rfl rfl rfl ?_)
        | fail)
      go_ret
      exact ⟨rfl, HV5.out, HG5.out⟩
set_option maxHeartbeats 2000000 in
set_option maxRecDepth 100000 in
theorem may_any (h : Bv w k mb bb M B) {n : Int} (hn : In64 n) (now : Int) : Calls Tryd.prog 23 #[.pointer (some ⟨k, 0, none⟩), iv n, iv now] w fun e w' => e = .returned (.bool (mayB M B n now)) ∧ Below w.heap.size w w' := by
  have q1 : w.cell? ⟨k, 1, none⟩ = some (.map (some bb)) := h.m.cell 1
  have hlk := h.u.look_ok hn
  have HLP := Lib.hid (h.okb.get n)
  obtain ⟨r, hr⟩ : ∃ r, r = (getK n B).getD zeroP := ⟨_, rfl⟩
  rw [← hr] at hlk HLP
  have hkl := h.m.lt
  obtain ⟨rV, hrV⟩ : ∃ rV, rV = (.agg (pfC r).toArray : Value) := ⟨_, rfl⟩
  have HRV := Lib.hid hrV
  have HI := Lib.hid (sz_pf r HLP.out)
  have HLL := Lib.hid (show (pfC zeroP).length = (pfC r).length from by rw [len_pfC HLP.out]; rfl)
  have HON := Lib.hid (one_pfC r)
  obtain ⟨bs, hbs⟩ : ∃ bs, bs = (getK n B).isSome := ⟨_, rfl⟩
  rw [← hbs] at hlk
  have hlk2 : (Instr.lookup Tmp (.map (some bb)) (iv n) true).run Tryd.prog w = .ok (.tuple #[rV, .bool bs]) w := by rw [hrV]; exact hlk
  have HZ := Lib.hid (show Mem (w.alloc (.cells (pfC zeroP).toArray Tpf)) w.heap.size Tpf (pfC zeroP) from Mem.new w Tpf _)
  have HBZ := Lib.hid (belowSelf w (.cells (pfC zeroP).toArray Tpf))
  have HE := Lib.hid (show mayB M B n now = (!bs && decide ((mkOf M n).2.2 ≤ now)) from by unfold mayB; rw [← hbs])
  obtain ⟨m, hm⟩ : ∃ m, m = mkOf M n := ⟨_, rfl⟩
  rw [← hm] at HE
  have HMM := Lib.hid hm
  have HV := Lib.hid h
  have HN := Lib.hid hn
  obtain ⟨s, u, v⟩ := m
  simp only at HE
  clear hlk hrV hr hbs hm h
  cases bs with
  | true =>
    go_enter Tryd.func23, Tryd.ntmps23
    go_wp2_with (first
      | (refine wp_store_gen HBZ.out (Nat.le_refl _) HZ.out (pfC r) Tpf (.tmp 7) (.tmp 16) rfl rfl rfl HRV.out HI.out HLL.out HON.out ?_
         intro W4 hm4 hb4 hz4 ho4
         have HB4 := Lib.hid hb4
         clear hm4 hb4 hz4 ho4)
      | fail)
    go_ret
    exact ⟨by rw [HE.out]; rfl, HB4.out⟩
  | false =>
    by_cases hv : v ≤ now
    · have HD := Lib.hid (show decide (v ≤ now) = true by simpa using hv)
      have hd2 : decide (now ≥ v) = true := by simpa using hv
      have hd3 : now ≥ v := hv
      go_enter Tryd.func23, Tryd.ntmps23
      go_wp2_with (first
        | (refine wp_store_gen HBZ.out (Nat.le_refl _) HZ.out (pfC r) Tpf (.tmp 7) (.tmp 16) rfl rfl rfl HRV.out HI.out HLL.out HON.out ?_
           intro W4 hm4 hb4 hz4 ho4
           have HB4 := Lib.hid hb4
           have q0 : W4.cell? ⟨k, 0, none⟩ = some (.map (some mb)) := (HV.out.below hb4).m.cell 0
           have hl4 := (HV.out.below hb4).t.look HN.out
           rw [← HMM.out] at hl4
           have hfd : (Instr.field Tmk (mkV (s, u, v)) 2).run Tryd.prog W4 = .ok (iv v) W4 := by kernel_rfl
           clear hm4 hb4 hz4 ho4)
        | fail)
      go_ret
      exact ⟨by rw [HE.out, HD.out]; rfl, HB4.out⟩
    · have HD := Lib.hid (show decide (v ≤ now) = false by simpa using hv)
      have hd2 : decide (now ≥ v) = false := by simpa using hv
      have hd3 : ¬ now ≥ v := hv
      go_enter Tryd.func23, Tryd.ntmps23
      go_wp2_with (first
        | (refine wp_store_gen HBZ.out (Nat.le_refl _) HZ.out (pfC r) Tpf (.tmp 7) (.tmp 16) rfl rfl rfl HRV.out HI.out HLL.out HON.out ?_
           intro W4 hm4 hb4 hz4 ho4
           have HB4 := Lib.hid hb4
           have q0 : W4.cell? ⟨k, 0, none⟩ = some (.map (some mb)) := (HV.out.below hb4).m.cell 0
           have hl4 := (HV.out.below hb4).t.look HN.out
           rw [← HMM.out] at hl4
           have hfd : (Instr.field Tmk (mkV (s, u, v)) 2).run Tryd.prog W4 = .ok (iv v) W4 := by kernel_rfl
           clear hm4 hb4 hz4 ho4)
        | fail)
      go_ret
      exact ⟨by rw [HE.out, HD.out]; rfl, HB4.out⟩
set_option maxHeartbeats 2000000 in
set_option maxRecDepth 100000 in
theorem banned_any (h : Bv w k mb bb M B) {n : Int} (hn : In64 n) : Calls Tryd.prog 20 #[.pointer (some ⟨k, 0, none⟩), iv n] w fun e w' => e = .returned (.tuple #[.agg (pfC ((getK n B).getD zeroP)).toArray, .bool (getK n B).isSome]) ∧ Below w.heap.size w w' := by
  have q10 : w.cell? ⟨k, 1, none⟩ = some (.map (some bb)) := h.m.cell 1
  have hlk := h.u.look_ok hn
  have HLP := Lib.hid (h.okb.get n)
  obtain ⟨r, hr⟩ : ∃ r, r = (getK n B).getD zeroP := ⟨_, rfl⟩
  rw [← hr] at hlk HLP ⊢
  have hkl := h.m.lt
  obtain ⟨rV, hrV⟩ : ∃ rV, rV = (.agg (pfC r).toArray : Value) := ⟨_, rfl⟩
  have HRV := Lib.hid hrV
  have HI := Lib.hid (sz_pf r HLP.out)
  have HLL := Lib.hid (show (pfC zeroP).length = (pfC r).length from by rw [len_pfC HLP.out]; rfl)
  have HON := Lib.hid (one_pfC r)
  obtain ⟨bs, hbs⟩ : ∃ bs, bs = (getK n B).isSome := ⟨_, rfl⟩
  rw [← hbs] at hlk ⊢
  have hbA : Below w.heap.size w (w.alloc (.cells (pfC zeroP).toArray Tpf)) := belowSelf w _
  have HMA := Lib.hid (show Mem (w.alloc (.cells (pfC zeroP).toArray Tpf)) w.heap.size Tpf (pfC zeroP) from Mem.new w Tpf _)
  have HLK := Lib.hid (show (Instr.lookup Tmp (.map (some bb)) (iv n) true).run Tryd.prog (w.alloc (.cells (pfC zeroP).toArray Tpf)) = .ok (.tuple #[rV, .bool bs]) (w.alloc (.cells (pfC zeroP).toArray Tpf)) from by
    have := (h.below hbA).u.look_ok hn
    rw [← hr, ← hbs] at this
    rw [hrV]; exact this)
  have HZ := Lib.hid (show Mem ((w.alloc (.cells (pfC zeroP).toArray Tpf)).alloc (.cells (pfC zeroP).toArray Tpf)) (w.heap.size + 1) Tpf (pfC zeroP) from Mem.newAt _ Tpf _ (by simp))
  have HBA := Lib.hid (hbA)
  have HBZ := Lib.hid (show Below (w.heap.size + 1) (w.alloc (.cells (pfC zeroP).toArray Tpf)) ((w.alloc (.cells (pfC zeroP).toArray Tpf)).alloc (.cells (pfC zeroP).toArray Tpf)) from by have := belowSelf (w.alloc (.cells (pfC zeroP).toArray Tpf)) (.cells (pfC zeroP).toArray Tpf); rwa [World.size_alloc] at this)
  have HZA := Lib.hid (show Mem ((w.alloc (.cells (pfC zeroP).toArray Tpf)).alloc (.cells (pfC zeroP).toArray Tpf)) w.heap.size Tpf (pfC zeroP) from (Mem.new w Tpf _).alloc _)
  clear hlk hrV hr hbs h hbA
  go_enter Tryd.func20, Tryd.ntmps20
  go_wp2_with (first
    | (refine wp_lookRun HLK.out (.tmp 12) (.tmp 13) rfl rfl rfl rfl ?_)
    | (refine wp_store_gen HBZ.out (Nat.le_refl _) HZ.out (pfC r) Tpf (.tmp 6) (.tmp 15) rfl rfl rfl HRV.out HI.out HLL.out HON.out ?_
       intro W4 hm4 hb4 hz4 ho4
       have hld4 := ld_pf_at hm4 HLP.out
       have HB4 := Lib.hid (show Below w.heap.size w W4 from HBA.out.trans (hb4.mono (by omega)))
       have HM4 := Lib.hid (show Mem W4 w.heap.size Tpf (pfC zeroP) from (ho4 _ (by omega)).trans HZA.out)
       clear hm4 hb4 hz4 ho4)
    | (refine wp_store_gen HB4.out (Nat.le_refl _) HM4.out (pfC r) Tpf (.tmp 4) (.tmp 17) rfl rfl rfl rfl HI.out HLL.out HON.out ?_
       intro W5 hm5 hb5 hz5 ho5
       have HM5 := Lib.hid hm5
       have HB5 := Lib.hid hb5
       clear hm5 hb5 hz5 ho5)
    | fail)
  exact bodyPost_ret (results_mem2 HM5.out rfl _ _ rfl Tryd.underlying37 rfl HI.out) rfl ⟨rfl, HB5.out⟩
end
end Go.Proofs.YtblfekecmahagaaDoor

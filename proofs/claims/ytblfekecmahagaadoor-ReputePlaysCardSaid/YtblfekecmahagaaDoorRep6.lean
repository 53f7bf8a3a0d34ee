/-
  Repute: acts of the laws; the proof that an act gives.
-/
import Derived.Test.YtblfekecmahagaaDoorRep5
import Derived.Test.YtblfekecmahagaaDoorRow
namespace Go.Proofs.YtblfekecmahagaaDoor
open Go.RowKit Go.Maps Crv

abbrev AR := Int × Int × Int × List UInt8 × List UInt8
abbrev arC (a : AR) : List Value := [iv a.1, iv a.2.1, iv a.2.2.1, tx a.2.2.2.1, tx a.2.2.2.2]
abbrev Tar : TypeId := 29
abbrev Trp : TypeId := 39
/-- Acts as an argument. -/
def ActsR (W : World) (v : Value) (acts : List AR) : Prop := Rd W 5 v (acts.map arC)
theorem ActsR.at {W w : World} {a : Option Addr} {n cap : Nat} {acts : List AR} (h : ActsR W (.slice a n cap) acts) (hb : Below W.heap.size W w) {i : Nat} (hi : i < acts.length) :
    ∃ g off, a = some ⟨g, off, none⟩ ∧ w.rangeAt g (off + i * 5) (arC acts[i]) := by
  obtain ⟨a', cap', h1, _, h3⟩ := Rd.below h hb
  injection h1 with h1 _ _
  obtain ⟨g, off, ha, _, hr⟩ := h3 i (by simpa using hi)
  rw [← h1] at ha
  simp only [List.getElem_map] at hr
  exact ⟨g, off, ha, fun j v hj => hr j v hj⟩
def pfOf (a : AR) : PF := (1, nameP (a.2.2.2.2.take 30), a.2.2.2.1.take 30)
abbrev rpC (p : PF) : List Value := [iv p.1, tx p.2.1, tx p.2.2]
theorem results_two {fn : Func} {p q : Go.Tmp} {ty ty' : TypeId} (h : fn.results = #[.cell p ty, .cell q ty']) (tmps : Array Value) (P : Program) (w : World) :
    (results fn tmps).run P w = ((asAddr (tmps.getD p undef)).run P w).andThen fun a w₁ => ((loadVar ty a).run P w₁).andThen fun v w₂ => ((asAddr (tmps.getD q undef)).run P w₂).andThen fun a' w₃ => ((loadVar ty' a').run P w₃).andThen fun v' w₄ => .ok (.tuple #[v, v']) w₄ := by
  simp only [results, h]
  simp [Sem.run_bind, Result.andThen]
/-- Two results that are structs in memory. -/
theorem resultsCells {P : Program} {fn : Func} {p q : Go.Tmp} {ty ty' : TypeId} {w : World} {g g' : Nat} {t t' : TypeId} {cs cs' : List Value} (hm : Mem w g t cs) (hm' : Mem w g' t' cs') (h : fn.results = #[.cell p ty, .cell q ty']) (tmps : Array Value) (d d' : TypeDesc)
    (hp : tmps.getD p undef = .pointer (some ⟨g, 0, none⟩)) (hu : P.underlying ty = some d) (hd : (match d with | .struct _ | .array _ _ => true | _ => false) = true) (hi : (P.info? ty).map (·.size) = some cs.length)
    (hp' : tmps.getD q undef = .pointer (some ⟨g', 0, none⟩)) (hu' : P.underlying ty' = some d') (hd' : (match d' with | .struct _ | .array _ _ => true | _ => false) = true) (hi' : (P.info? ty').map (·.size) = some cs'.length) :
    (results fn tmps).run P w = .ok (.tuple #[.agg cs.toArray, .agg cs'.toArray]) w := by
  rw [results_two h tmps P w, hp, hp']
  simp [asAddr, run_loadVar_row w g t ty cs.toArray (0, 0) d hm hu hd (by simpa using hi), run_loadVar_row w g' t' ty' cs'.toArray (0, 0) d' hm' hu' hd' (by simpa using hi')]
theorem memBelow {w w' : World} {g n : Nat} {t : TypeId} (h : ∃ cs : List Value, cs.length = n ∧ Mem w g t cs) (hb : Below w.heap.size w w') : ∃ cs : List Value, cs.length = n ∧ Mem w' g t cs := by
  obtain ⟨cs, h1, h2⟩ := h
  exact ⟨cs, h1, h2.below hb h2.lt⟩
theorem run_build3 {P : Program} {a : Act} {o : Oper} {w : World} {ty : TypeId} {u v s r : Value} {x y z : Operand} (hr : (Instr.build ty #[(0, u), (1, v), (2, s)]).run P w = .ok r w) (ho : o.op = .build ty #[(0, x), (1, y), (2, z)]) (hx : a.eval x = u) (hy : a.eval y = v) (hz : a.eval z = s) :
    (execOp a.eval o).run P w = .ok (.value r) w := by
  unfold execOp
  simp only [ho, List.map_toArray, List.map_cons, List.map_nil, hx, hy, hz, hr, Sem.run_bind, Sem.run_pure, Result.andThen_ok]
attribute [local go_sem ↓] ld_id
set_option maxHeartbeats 4000000 in
set_option maxRecDepth 100000 in
theorem proof_any (a : AR) (W : World) (hc : Consts W) : Calls Tryd.prog 14 #[.agg (arC a).toArray] W fun e w' => e = .returned (.tuple #[.agg (pfC (pfOf a)).toArray, .agg (rpC (pfOf a)).toArray]) ∧ Below W.heap.size W w' := by
  obtain ⟨kd, n, by_, text, real⟩ := a
  unfold pfOf
  simp only
  have HCU := Lib.hid (fun s w => cutB s 30 (by omega) w)
  rw [show (30 : Int).toNat = 30 from rfl] at HCU
  obtain ⟨t, ht⟩ : ∃ t, t = text.take 30 := ⟨_, rfl⟩
  obtain ⟨r, hr⟩ : ∃ t, t = real.take 30 := ⟨_, rfl⟩
  rw [← ht]
  rw [← hr]
  have hr30 : r.length ≤ 1000000 := by rw [hr, List.length_take]; omega
  have HOF := Lib.hid (fun w (h : Consts w) => ofName (t := r) hr30 w h)
  obtain ⟨x, hx⟩ : ∃ x, x = nameP r := ⟨_, rfl⟩
  have HXL := Lib.hid (show x.length = 32 from by rw [hx]; rfl)
  rw [← hx] at HOF ⊢
  obtain ⟨rV, hrV⟩ : ∃ rV, rV = (.agg (x.map byteV).toArray : Value) := ⟨_, rfl⟩
  have HRV := Lib.hid hrV
  rw [← hrV] at HOF
  clear hrV
  obtain ⟨wA, hwA⟩ : ∃ wA, wA = ((W.alloc (.cells #[iv kd, iv n, iv by_, tx text, tx real] Tar)).alloc (.cells (pfC zeroP).toArray Tpf)).alloc (.cells (rpC (0, [], [])).toArray Trp) := ⟨_, rfl⟩
  have hM0 : Mem wA W.heap.size Tar [iv kd, iv n, iv by_, tx text, tx real] := by rw [hwA]; exact ((Mem.new W Tar _).alloc _).alloc _
  have hM1 : Mem wA (W.heap.size + 1) Tpf (pfC zeroP) := by rw [hwA]; exact (Mem.newAt _ Tpf _ (by simp)).alloc _
  have hM2 : Mem wA (W.heap.size + 2) Trp (rpC (0, [], [])) := by rw [hwA]; exact Mem.newAt _ Trp _ (by simp)
  have hBA : Below W.heap.size W wA := by rw [hwA]; exact belowThen (belowThen (belowSelf W _) (belowSelf _ _)) (belowSelf _ _)
  have hsz : W.heap.size + 3 ≤ wA.heap.size := by rw [hwA]; simp
  have HWA := Lib.hid hwA
  have HM0 := Lib.hid hM0
  have HM1 := Lib.hid hM1
  have HM2 := Lib.hid hM2
  have HBA := Lib.hid hBA
  have HSZ := Lib.hid hsz
  have HC := Lib.hid (hc.on hBA)
  have HIB := Lib.hid (fun w => bytes_any x w HXL.out)
  have HT := Lib.hid ht
  have HR := Lib.hid hr
  clear ht hr hr30 hx hwA hM0 hM1 hM2 hBA hsz hc
  go_enter Tryd.func14, Tryd.ntmps14
  go_wp2_with fail
  change Code.wp _ _ _ _ (((W.alloc (.cells #[iv kd, iv n, iv by_, tx text, tx real] Tar)).alloc (.cells (pfC zeroP).toArray Tpf)).alloc (.cells (rpC (0, [], [])).toArray Trp))
  rw [← HWA.out]
  have k3 : wA.cell? ⟨W.heap.size, 3, none⟩ = some (tx text) := HM0.out.cell 3
  have k4 : wA.cell? ⟨W.heap.size, 4, none⟩ = some (tx real) := HM0.out.cell 4
  go_region_held3 (fun w' => w'.cell? ⟨W.heap.size, 3, none⟩ = some (tx text) ∧ w'.cell? ⟨W.heap.size, 4, none⟩ = some (tx real)) (first | (refine ⟨?_, ?_⟩ <;> assumption) | exact ⟨k3, k4⟩)
    (first
      | (go_at_call 30
         refine (HCU.out _ _).mono ?_
         rintro e _ ⟨rfl, rfl⟩)
      | fail)
  clear k3 k4
  rw [← HT.out, ← HR.out]
  obtain ⟨wB, hwB⟩ : ∃ wB, wB = wA.drew := ⟨_, rfl⟩
  have HN0 := Lib.hid (show Mem wB (W.heap.size + 1) Tpf (pfC zeroP) from hwB ▸ HM1.out)
  have HN1 := Lib.hid (show Mem wB (W.heap.size + 2) Trp (rpC (0, [], [])) from hwB ▸ HM2.out)
  have HBB := Lib.hid (show Below W.heap.size W wB from hwB ▸ bdrew HBA.out)
  have HSB := Lib.hid (show W.heap.size + 3 ≤ wB.heap.size from hwB ▸ HSZ.out)
  have HCB := Lib.hid (show Consts wB from hwB ▸ HC.out)
  change Exit.then _ _ _ _ wA.drew
  rw [← hwB]
  clear hwB HWA HM0 HM1 HM2 HBA HSZ HC
  have hof := HOF.out wB HCB.out
  go_wp2_with fail
  refine hof.mono ?_
  rintro e w5 ⟨rfl, hb5⟩
  have H5 := Lib.hid (show Below wB.heap.size wB w5 from belowThen (belowSelf wB _) hb5)
  have HN0 := Lib.hid (HN0.out.below H5.out HN0.out.lt)
  have HN1 := Lib.hid (HN1.out.below H5.out HN1.out.lt)
  have HBB := Lib.hid (belowThen HBB.out H5.out)
  have HSB := Lib.hid (show W.heap.size + 3 ≤ w5.heap.size from Nat.le_trans HSB.out H5.out.size)
  clear hof hb5 H5
  obtain ⟨g, hg⟩ : ∃ g, g = w5.heap.size := ⟨_, rfl⟩
  have HG := Lib.hid hg
  have HZ := Lib.hid (show Mem (w5.alloc (.cells (List.replicate 32 (byteV 0)).toArray TI)) w5.heap.size TI (List.replicate 32 (byteV 0)) from Mem.new w5 TI _)
  have HBZ := Lib.hid (belowSelf w5 (.cells (List.replicate 32 (byteV 0)).toArray TI))
  have HI := Lib.hid (sz_id x HXL.out)
  have HLL := Lib.hid (show (List.replicate 32 (byteV 0)).length = (x.map byteV).length from by rw [List.length_map, HXL.out]; rfl)
  have HON := Lib.hid (oneBytes x)
  clear hg
  go_wp2_with (first
    | (refine wp_store_gen HBZ.out (Nat.le_refl _) HZ.out (x.map byteV) TI (.tmp 6) (.tmp 15) rfl rfl rfl HRV.out HI.out HLL.out HON.out ?_
       intro W4 hm4 hb4 hz4 ho4
       have HS0 := Lib.hid (show Mem W4.drew w5.heap.size TI (x.map byteV) ∧ (∃ cs : List Value, cs.length = 34 ∧ Mem W4.drew (W.heap.size + 1) Tpf cs) ∧ (∃ cs : List Value, cs.length = 3 ∧ Mem W4.drew (W.heap.size + 2) Trp cs) ∧ Below W.heap.size W W4.drew from
         ⟨hm4, ⟨_, rfl, HN0.out.below (bdrew hb4) HN0.out.lt⟩, ⟨_, rfl, HN1.out.below (bdrew hb4) HN1.out.lt⟩, bdrew (belowThen HBB.out hb4)⟩)
       clear hm4 hb4 hz4 ho4)
    | fail)
  have xr := fun (w' : World) (h : Mem w' w5.heap.size TI (x.map byteV)) => ld_id_at h HXL.out
  refine wp_region_held_drew (S := fun w' => Mem w' w5.heap.size TI (x.map byteV) ∧ (∃ cs : List Value, cs.length = 34 ∧ Mem w' (W.heap.size + 1) Tpf cs) ∧ (∃ cs : List Value, cs.length = 3 ∧ Mem w' (W.heap.size + 2) Trp cs) ∧ Below W.heap.size W w') (by kernel_rfl) HS0.out (fun hHeld => ?_)
  refine wpAnyH_take (i := 0) (oi := { dst := some 16, op := Op.load 35 (Operand.tmp 6), type := 35, pos := "law.go:37", after := #[], guard := none }) (v := .agg (x.map byteV).toArray) rfl (by kernel_rfl) (by kernel_rfl) (by kernel_rfl) (fun _ _ _ h => h) (Or.inl ⟨by rfl, ?_⟩) hHeld ?_
  · intro w' hSw
    have hx0 := xr w' hSw.1
    have hbd := run_build_ob 1 x t HXL.out w'
    clear hSw
    go_simp
  simp only [Act.put, List.setIfInBounds_toArray, List.set_cons_zero, List.set_cons_succ]
  refine wpAnyH_take (i := 1) (oi := { dst := some 17, op := Op.move (Operand.tmp 4), type := 9, pos := "law.go:37", after := #[], guard := none }) (v := tx t) rfl (by kernel_rfl) (by kernel_rfl) (by kernel_rfl) (fun _ _ _ h => h) (Or.inl ⟨by rfl, ?_⟩) hHeld ?_
  · intro w' hSw
    have hx0 := xr w' hSw.1
    have hbd := run_build_ob 1 x t HXL.out w'
    clear hSw
    go_simp
  simp only [Act.put, List.setIfInBounds_toArray, List.set_cons_zero, List.set_cons_succ]
  refine wpAnyH_take (i := 2) (oi := { dst := some 18, op := Op.build 37 #[(0, Operand.const (Value.int IntKind.i64 1)), (1, Operand.tmp 16), (2, Operand.tmp 17)], type := 37, pos := "law.go:37", after := #[{ on := 0, ground := Ground.data }, { on := 1, ground := Ground.data }], guard := none }) (v := .agg (pfC (1, x, t)).toArray) rfl (by kernel_rfl) (by kernel_rfl) (by kernel_rfl) (fun _ _ _ h => h) (Or.inl ⟨by rfl, ?_⟩) hHeld ?_
  · intro w' hSw
    have hx0 := xr w' hSw.1
    have hbd := run_build_ob 1 x t HXL.out w'
    clear hSw
    exact run_build3 hbd rfl rfl rfl rfl
  simp only [Act.put, List.setIfInBounds_toArray, List.set_cons_zero, List.set_cons_succ]
  refine wpAnyH_take (i := 3) (oi := { dst := some 19, op := Op.load 35 (Operand.tmp 6), type := 35, pos := "law.go:37", after := #[], guard := none }) (v := .agg (x.map byteV).toArray) rfl (by kernel_rfl) (by kernel_rfl) (by kernel_rfl) (fun _ _ _ h => h) (Or.inl ⟨by rfl, ?_⟩) hHeld ?_
  · intro w' hSw
    have hx0 := xr w' hSw.1
    have hbd := run_build_ob 1 x t HXL.out w'
    clear hSw
    go_simp
  simp only [Act.put, List.setIfInBounds_toArray, List.set_cons_zero, List.set_cons_succ]
  refine wpAnyH_take (i := 5) (oi := { dst := some 21, op := Op.move (Operand.tmp 4), type := 9, pos := "law.go:37", after := #[{ on := 7, ground := Ground.gcOnly Departure.lateStores }], guard := none }) (v := tx t) rfl (by kernel_rfl) (by kernel_rfl) (by kernel_rfl) (fun _ _ _ h => h) (Or.inl ⟨by rfl, ?_⟩) hHeld ?_
  · intro w' hSw
    have hx0 := xr w' hSw.1
    have hbd := run_build_ob 1 x t HXL.out w'
    clear hSw
    go_simp
  simp only [Act.put, List.setIfInBounds_toArray, List.set_cons_zero, List.set_cons_succ]
  refine wpAnyH_ready (rs := [4]) (by kernel_rfl) (by simp) (AllReadyH.cons rfl (fun K hK => ?_) AllReadyH.nil)
  go_simp
  refine (HIB.out _).mono ?_
  rintro e wa ⟨rfl, hba⟩
  dsimp only
  refine hK.out _ _ ⟨Mem.below hHeld.1 hba hHeld.1.lt, memBelow hHeld.2.1 hba, memBelow hHeld.2.2.1 hba, hHeld.2.2.2.trans (hba.mono hHeld.2.2.2.size)⟩ (fun hH1 => ?_)
  clear hK K hba
  refine wpAnyH_take (i := 6) (oi := { dst := some 22, op := Op.build 39 #[(0, Operand.const (Value.int IntKind.i64 1)), (1, Operand.tmp 20), (2, Operand.tmp 21)], type := 39, pos := "law.go:37", after := #[{ on := 4, ground := Ground.data }, { on := 5, ground := Ground.data }, { on := 7, ground := Ground.gcOnly Departure.lateStores }], guard := none }) (v := .agg #[iv 1, tx x, tx t]) rfl (by kernel_rfl) (by kernel_rfl) (by kernel_rfl) (fun _ _ _ h => h) (Or.inl ⟨by rfl, ?_⟩) hH1 ?_
  · intro w' hSw
    have hx0 := xr w' hSw.1
    have hbd := run_build_ob 1 x t HXL.out w'
    clear hSw
    go_simp
  simp only [Act.put, List.setIfInBounds_toArray, List.set_cons_zero, List.set_cons_succ]
  refine wpAnyH_ready (rs := [7]) (by kernel_rfl) (by simp) (AllReadyH.cons rfl (fun K hK => ?_) AllReadyH.nil)
  rw [if_pos (by kernel_rfl)]
  obtain ⟨cs, hcl, hcm⟩ := hH1.2.1
  refine wp_store_row Tpf (.tmp 2) (.tmp 18) rfl (W.heap.size + 1) (pfC (1, x, t)).toArray rfl rfl Tpf cs.toArray hcm (by simpa using sz_pf (1, x, t) HXL.out) (by simp [hcl, len_pfC (p := (1, x, t)) HXL.out]) (Array.all_eq_true_iff_forall_mem.2 (fun v hv => one_pfC (1, x, t) v (by simpa using hv))) ?_
  have hX := hcm.setRow (pfC (1, x, t))
  have hB := below_row hH1.2.2.2 (Nat.le_succ _) (pfC (1, x, t)).toArray
  obtain ⟨cs2, hcl2, hcm2⟩ := hH1.2.2.1
  have hY := Mem.setRow_other hcm2 (g := W.heap.size + 1) (pfC (1, x, t)).toArray (by omega)
  have hI := Mem.setRow_other hH1.1 (g := W.heap.size + 1) (pfC (1, x, t)).toArray (by have := HSB.out; omega)
  clear hcm hcm2 cs hcl
  obtain ⟨wb, hwb⟩ : ∃ wb, wb = wa.setRow (W.heap.size + 1) (pfC (1, x, t)).toArray := ⟨_, rfl⟩
  rw [← hwb] at hX hB hY hI ⊢
  clear hwb
  refine hK.out _ _ ⟨hI, ⟨_, len_pfC (p := (1, x, t)) HXL.out, hX⟩, ⟨_, hcl2, hY⟩, hB⟩ (fun hH2 => ?_)
  clear hK K hH2 hH1
  refine wpAnyH_ready (rs := [8]) (by kernel_rfl) (by simp) (AllReadyH.cons rfl (fun K hK => ?_) AllReadyH.nil)
  rw [if_pos (by kernel_rfl)]
  refine wp_store_row Trp (.tmp 3) (.tmp 22) rfl (W.heap.size + 2) (rpC (1, x, t)).toArray rfl rfl Trp cs2.toArray hY (by kernel_rfl) (by simpa using hcl2) (by kernel_rfl) ?_
  have hX2 := Mem.setRow_other hX (g := W.heap.size + 2) (rpC (1, x, t)).toArray (by omega)
  have hY2 := hY.setRow (rpC (1, x, t))
  have hB2 := below_row hB (show W.heap.size ≤ W.heap.size + 2 by omega) (rpC (1, x, t)).toArray
  have hI2 := Mem.setRow_other hI (g := W.heap.size + 2) (rpC (1, x, t)).toArray (by have := HSB.out; omega)
  obtain ⟨wc, hwc⟩ : ∃ wc, wc = wb.setRow (W.heap.size + 2) (rpC (1, x, t)).toArray := ⟨_, rfl⟩
  rw [← hwc] at hX2 hB2 hY2 hI2 ⊢
  clear hwc hX hY hI hB
  refine hK.out _ _ ⟨hI2, ⟨_, len_pfC (p := (1, x, t)) HXL.out, hX2⟩, ⟨_, rfl, hY2⟩, hB2⟩ (fun hH2 => ?_)
  clear hK K hH2 hI2
  refine wpAnyH_done (by kernel_rfl) ?_ _
  rename_i Kz hKz
  refine hKz _ _ ?_
  go_wp2_with fail
  exact bodyPost_ret (resultsCells hX2 hY2 rfl _ _ _ rfl Tryd.underlying37 rfl (sz_pf (1, x, t) HXL.out) rfl Tryd.underlying39 rfl (by kernel_rfl)) rfl ⟨rfl, hB2⟩
end Go.Proofs.YtblfekecmahagaaDoor

/-
  Package merkle: Build.
-/
import Derived.Test.YtjdhcanblpifcaaDoorMer8
import Derived.Test.YtjdhcanblpifcaaDoorMer6
namespace Go.Proofs.YtjdhcanblpifcaaDoor
open Go.RowKit Crv

theorem results_cell_two {fn : Func} {p u u' : Tmp} {ty : TypeId} (h : fn.results = #[.cell p ty, .tmp u, .tmp u']) (tmps : Array Value) (P : Program) (w : World) :
    (results fn tmps).run P w = ((asAddr (tmps.getD p undef)).run P w).andThen fun a w₁ => ((loadVar ty a).run P w₁).andThen fun v w₂ => .ok (.tuple #[v, tmps.getD u undef, tmps.getD u' undef]) w₂ := by
  simp only [results, h]
  simp [Sem.run_bind, Result.andThen]
/-- A result that is a struct in memory, and two in slots. -/
theorem resultsCell3 {P : Program} {fn : Func} {p u u' : Tmp} {ty : TypeId} {w : World} {g : Nat} {t : TypeId} {cs : List Value} (hm : Mem w g t cs) (h : fn.results = #[.cell p ty, .tmp u, .tmp u']) (tmps : Array Value) (d : TypeDesc)
    (hp : tmps.getD p undef = .pointer (some ⟨g, 0, none⟩)) (hu : P.underlying ty = some d) (hd : (match d with | .struct _ | .array _ _ => true | _ => false) = true) (hi : (P.info? ty).map (·.size) = some cs.length) :
    (results fn tmps).run P w = .ok (.tuple #[.agg cs.toArray, tmps.getD u undef, tmps.getD u' undef]) w := by
  rw [results_cell_two h tmps P w, hp]
  simp [asAddr, run_loadVar_row w g t ty cs.toArray (0, 0) d hm hu hd (by simpa using hi)]
abbrev zP : List Value := List.replicate 32 (byteV 0) ++ [Value.int .i64 0]
theorem take_succ_getD (cs : List (List UInt8)) (k : Nat) (h : k < cs.length) : cs.take (k + 1) = cs.take k ++ [cs.getD k []] := by
  rw [List.take_succ_eq_append_getElem h, List.getD_eq_getElem?_getD, List.getElem?_eq_getElem h]
  rfl
theorem mem_rng1 {w : World} {g : Nat} {t : TypeId} {u : Value} {a b : List Value} (h : Mem w g t (u :: (a ++ b))) : w.rangeAt g 1 a := fun j z hz => by
  rw [h.cell, Nat.add_comm 1 j, List.getElem?_cons_succ, List.getElem?_append_left (List.getElem?_eq_some_iff.1 hz).1]
  exact hz
/-- A row stays where a row of another type grows. -/
theorem Rw.grow_tag {w w' : World} {base base' : Nat} {e e' : TypeId} {m m' : Nat} {v v' : Value} {xs xs' : List (List Value)} (h : Rw w base e m v xs) (h' : Rw w base' e' m' v' xs') (hne : e ≠ e') (hg : w.grownBy w' v'.ownBlock) : Rw w' base e m v xs :=
  h.of_block fun b hb => hg.block b (h.lt b hb).1 (fun eq => by
    obtain ⟨cs, h1⟩ := h.tag b hb
    obtain ⟨cs', h2⟩ := h'.tag b eq.symm
    rw [h1] at h2
    injection h2 with h2
    injection h2 with _ h2
    exact hne h2)
theorem Rw.front {w : World} {base : Nat} {e : TypeId} {m : Nat} {v : Value} {xs : List (List Value)} (h : Rw w base e m v xs) (hne : 0 < xs.length) : ∃ g cap, v = .slice (some ⟨g, 0, none⟩) xs.length cap ∧ xs.length ≤ cap ∧ ∀ j u, xs.flatten[j]? = some u → w.cell? ⟨g, j, none⟩ = some u := by
  rcases h.2.2 with ⟨_, h0⟩ | ⟨g, cap, cur, rfl, h1, h2, h3, h4, h5, h6⟩
  · omega
  · refine ⟨g, cap, rfl, h3, fun j u hu => ?_⟩
    have hl := length_flat h.1
    have hj : j < xs.length * m := by
      have := (List.getElem?_eq_some_iff.1 hu).1
      omega
    rw [← h6, List.getElem?_take_of_lt hj] at hu
    simp only [World.cell?, h2]
    simpa using hu
theorem lenAt_pos {n : Nat} (h : 1 ≤ n) : ∀ k, 1 ≤ lenAt n k
  | 0 => h
  | k + 1 => by
    have := lenAt_pos h k
    show 1 ≤ (lenAt n k + 7) / 8
    omega
/-- The root's part. -/
def rootPt (cs : List (List UInt8)) : Pt := (bP (chunkPts cs) (depthOf cs.length)).getD 0 ([], 0)
/-- What Build makes: the chunks, then the nodes. -/
def allObs (cs : List (List UInt8)) : List Ob := chunkObs cs ++ bO (chunkPts cs) (depthOf cs.length)
/-- The memory of Build's loops. -/
def BW (w0 : World) (v6 v7 : Value) (ps : List Pt) (os : List Ob) (w : World) : Prop :=
  Rw w (w0.heap.size + 1) Tpt 33 v6 (ps.map ptC) ∧ Rw w (w0.heap.size + 1) Tob 34 v7 (os.map obCs) ∧ Mem w w0.heap.size Tpt zP ∧ Below w0.heap.size w0 w
set_option maxRecDepth 100000 in
set_option maxHeartbeats 1000000 in
theorem build_any (v : Value) (cs : List (List UInt8)) (w : World) (hc : Consts w) (hv : Txs w v cs) (hn : cs.length ≤ 1000) (h0 : chkC cs = 0) :
    Calls Tryd.prog 15 #[v] w fun e w' => ∃ vo, e = .returned (.tuple #[.agg (ptC (rootPt cs)).toArray, vo, .int .i64 0]) ∧ Rw w' w.heap.size Tob 34 vo ((allObs cs).map obCs) ∧ Below w.heap.size w w' := by
  have HC := Lib.hid hc
  have HV := Lib.hid hv
  obtain ⟨a, cap, rfl, hcell⟩ := hv
  have hne : cs ≠ [] := fun e => by rw [e] at h0; exact absurd h0 (by decide)
  have hall : ∀ c ∈ cs, okC c := by
    unfold chkC at h0
    rw [if_neg hne] at h0
    split at h0
    · exact absurd h0 (by decide)
    · rename_i h; exact Classical.not_not.1 h
  have HALL := Lib.hid hall
  obtain ⟨W0, hW0⟩ : ∃ W, W = w.alloc (.cells zP.toArray Tpt) := ⟨_, rfl⟩
  have HB0 := Lib.hid (show Below w.heap.size w W0 by rw [hW0]; exact belowSelf w _)
  have HM0 := Lib.hid (show Mem W0 w.heap.size Tpt zP by rw [hW0]; exact Mem.new w _ _)
  have HCK := Lib.hid (checkC_any (.slice a cs.length cap) cs W0 (HV.out.below HB0.out) (by omega))
  rw [h0] at HCK
  have hs0 : w.heap.size < W0.heap.size := HM0.out.lt
  have HWW := Lib.hid hW0
  have hpos := List.length_pos_iff.2 hne
  clear hcell hc hW0 h0 hall hne
  obtain ⟨io, hio, hiz, hisz, hiby⟩ : ∃ i, Tryd.prog.info? Tob = some i ∧ i.zero = some (.agg (Value.int .i64 0 :: (List.replicate 32 (byteV 0) ++ [Value.string ⟨#[]⟩])).toArray) ∧ i.size = 34 ∧ i.bytes = 56 := info_of (by kernel_rfl)
  have HIO := Lib.hid hio
  have HIZ := Lib.hid hiz
  have HISZ := Lib.hid hisz
  have HIBY := Lib.hid hiby
  clear hio hiz hisz hiby
  obtain ⟨ip, hio, hiz, hisz, hiby⟩ : ∃ i, Tryd.prog.info? Tpt = some i ∧ i.zero = some (.agg (List.replicate 32 (byteV 0) ++ [Value.int .i64 0]).toArray) ∧ i.size = 33 ∧ i.bytes = 40 := info_of (by kernel_rfl)
  have HJO := Lib.hid hio
  have HJZ := Lib.hid hiz
  have HJSZ := Lib.hid hisz
  have HJBY := Lib.hid hiby
  clear hio hiz hisz hiby
  go_enter Tryd.func15, Tryd.ntmps15
  go_wp2_with fail
  rw [show w.alloc (.cells #[Value.int .u8 0, Value.int .u8 0, Value.int .u8 0, Value.int .u8 0, Value.int .u8 0, Value.int .u8 0, Value.int .u8 0, Value.int .u8 0, Value.int .u8 0, Value.int .u8 0, Value.int .u8 0, Value.int .u8 0, Value.int .u8 0, Value.int .u8 0, Value.int .u8 0, Value.int .u8 0, Value.int .u8 0, Value.int .u8 0, Value.int .u8 0, Value.int .u8 0, Value.int .u8 0, Value.int .u8 0, Value.int .u8 0, Value.int .u8 0, Value.int .u8 0, Value.int .u8 0, Value.int .u8 0, Value.int .u8 0, Value.int .u8 0, Value.int .u8 0, Value.int .u8 0, Value.int .u8 0, Value.int .i64 0] Tpt) = W0 from HWW.out.symm]
  refine HCK.out.mono ?_
  rintro e w1 ⟨rfl, rfl⟩
  go_wp2_with fail
  have HBW0 := Lib.hid (show BW w (.slice none 0 0) (.slice none 0 0) (chunkPts (cs.take 0)) (chunkObs (cs.take 0)) W0 from ⟨Rw.nil _ _ _ _, Rw.nil _ _ _ _, HM0.out, HB0.out⟩)
  go_loopw [6, 7, 21] (fun v6 v7 i wr => ∃ k : Nat, k ≤ cs.length ∧ i = .int .i64 k ∧ w.heap.size < wr.heap.size ∧ Hid (BW w v6 v7 (chunkPts (cs.take k)) (chunkObs (cs.take k)) wr)) (fun _ _ i _ => cs.length - (intOf i).toNat)
  case atStart => exact ⟨0, by omega, rfl, hs0, HBW0⟩
  case round =>
    clear HBW0 HM0 HB0 HWW HCK
    obtain ⟨k, hk, rfl, hszr, HBR⟩ := hrel
    obtain ⟨pa, pm, pp, rfl⟩ := HBR.out.1.shape
    obtain ⟨oa, om, op, rfl⟩ := HBR.out.2.1.shape
    by_cases hlt : k < cs.length
    · obtain ⟨a', cap', hv', hc'⟩ := HV.out.below HBR.out.2.2.2
      injection hv' with h1 h2 h3
      obtain ⟨b, off, ha, hcell⟩ := hc' k hlt
      rw [← h1] at ha
      subst ha
      have HT := Lib.hid (take_succ_getD cs k hlt)
      have hok : okC (cs.getD k []) := HALL.out _ (by rw [List.getD_eq_getElem?_getD, List.getElem?_eq_getElem hlt]; exact List.getElem_mem hlt)
      obtain ⟨x, hx⟩ : ∃ x, x = cs.getD k [] := ⟨_, rfl⟩
      rw [← hx] at hcell HT hok
      have hxl : x.length ≤ 256 := hok.2
      clear hx h1 h2 h3 hc' hok
      have h32 := length_oidOf 1 x
      obtain ⟨xi, hxi⟩ : ∃ q, q = oidOf 1 x := ⟨_, rfl⟩
      have HMK := Lib.hid (show ∀ W, Consts W → Calls Tryd.prog 43 #[.int .i64 1, .string (str x)] W fun e w' => e = .returned (.agg (obC 1 xi x).toArray) ∧ Below W.heap.size W w' from fun W hc => by rw [hxi]; exact make_any 1 (by omega) x (by omega) W hc)
      rw [← hxi] at h32
      have HPT := Lib.hid (show (chunkPts (cs.take (k + 1))).map ptC = (chunkPts (cs.take k)).map ptC ++ [ptC (xi, (x.length : Int))] by rw [HT.out, hxi]; simp [chunkPts])
      have HOB := Lib.hid (show (chunkObs (cs.take (k + 1))).map obCs = (chunkObs (cs.take k)).map obCs ++ [obC 1 xi x] by rw [HT.out, hxi]; simp [chunkObs, obCs, mkOb])
      have SZO := Lib.hid (sz_ob 1 xi x h32)
      have ONEO := Lib.hid (one_obC 1 xi x)
      have HLN := Lib.hid (show (Value.int .i64 0 :: (List.replicate 32 (byteV 0) ++ [Value.string ⟨#[]⟩])).length = (obC 1 xi x).length by rw [length_obC 1 xi x h32]; rfl)
      have HL34 := Lib.hid (length_obC 1 xi x h32)
      have HBSO := Lib.hid (fun W => run_bslice_ob 1 xi x h32 W)
      have HBP := Lib.hid (fun W => run_build_pt xi (x.length : Int) h32 W)
      have HBS := Lib.hid (fun W => run_bslice_pt (xi, (x.length : Int)) h32 W)
      have HN33 := Lib.hid (length_ptC (xi, (x.length : Int)) h32)
      have HONE := Lib.hid (one_ptC (xi, (x.length : Int)))
      have SZI := Lib.hid (sz_id xi h32)
      clear hxi h32
      have hdk : decide (k < cs.length) = true := by simpa using hlt
      go_wp2_with fail
      refine (HMK.out _ (HC.out.below HBR.out.2.2.2)).mono ?_
      rintro e w3 ⟨rfl, hb3⟩
      have HB3 := Lib.hid hb3
      clear hb3 HMK hcell
      have HLKO := Lib.hid (show ((chunkObs (cs.take k)).map obCs).length ≤ 900000000 by rw [List.length_map]; unfold chunkObs; rw [List.length_map, List.length_take]; omega)
      have HLKP := Lib.hid (show ((chunkPts (cs.take k)).map ptC).length ≤ 900000000 by rw [List.length_map]; unfold chunkPts; rw [List.length_map, List.length_take]; omega)
      go_wp2_with (first
        | (refine wp_store_gen (B := w3.heap.size) (w0 := w3) (belowSelf w3 _) (Nat.le_refl _) (Mem.newAt w3 Tob (Value.int .i64 0 :: (List.replicate 32 (byteV 0) ++ [Value.string ⟨#[]⟩])) rfl) (obC 1 xi x) Tob (.tmp 10) (.tmp 26) rfl rfl rfl rfl SZO.out HLN.out ONEO.out ?_
           intro W4 hm4 hb4 hz4 hk4
           have HM4 := Lib.hid hm4
           have HB4 := Lib.hid (belowThen HB3.out hb4)
           have hs4 : w.heap.size + 1 ≤ W4.heap.size := by have := HB4.out.size; omega
           have HQ4 := Lib.hid (show BW w (.slice pa pm pp) (.slice oa om op) (chunkPts (cs.take k)) (chunkObs (cs.take k)) (W4.alloc (.cells (obC 1 xi x).toArray Tob)) from ⟨(HBR.out.1.below HB4.out).below (belowSelf _ _), (HBR.out.2.1.below HB4.out).below (belowSelf _ _), (HBR.out.2.2.1.below HB4.out HBR.out.2.2.1.lt).alloc _, belowThen (belowThen HBR.out.2.2.2 HB4.out) (belowSelf _ _)⟩)
           clear hm4 hb4 hz4 hk4)
        | (refine wp_load_mem HM4.out Tob (.tmp 10) _ rfl rfl rfl Tryd.underlying55 rfl SZO.out ?_)
        | (refine wp_bslice1 (HBSO.out _) rfl rfl rfl ?_)
        | (at_builtin
           refine wp_append_row (w0 := w) HQ4.out.2.1 w.heap.size HQ4.out.2.2.2 (by omega) (obC 1 xi x) (by decide) HL34.out ONEO.out (.tmp 27) (.tmp 29) Tso io _ 56 rfl rfl Tryd.underlying44 HIO.out HIZ.out HISZ.out HIBY.out rfl (by decide) rfl (g := W4.heap.size) (c := 1) rfl (fun j u hu => ((Mem.new W4 Tob (obC 1 xi x)).cell j).trans hu) HLKO.out (by simp; omega) ?_
           intro vA wA hrA hbA hsA hgA hatA
           rw [← HOB.out] at hrA
           obtain ⟨oa', om', op', rfl⟩ := hrA.shape
           have HQA := Lib.hid (show Rw wA (w.heap.size + 1) Tpt 33 (.slice pa pm pp) ((chunkPts (cs.take k)).map ptC) ∧ Rw wA (w.heap.size + 1) Tob 34 (.slice oa' om' op') ((chunkObs (cs.take (k + 1))).map obCs) ∧ Mem wA w.heap.size Tpt zP ∧ Below w.heap.size w wA ∧ Mem wA w3.heap.size Tob (obC 1 xi x) from
             ⟨HQ4.out.1.grow_tag HQ4.out.2.1 (by decide) hgA, hrA, HQ4.out.2.2.1.grown hgA (fun e => by have := (HQ4.out.2.1.lt _ e.symm).2; omega), hbA, (HM4.out.alloc _).grown hgA (fun e => by have h1 := (HBR.out.2.1.lt _ e.symm).1; have h2 := HB3.out.size; omega)⟩)
           have hsA' : w.heap.size + 1 ≤ wA.heap.size := by simp at hsA; omega
           have HPA := Lib.hid (HQA.out.1.below (belowSelf wA (.cells (ptC (xi, (x.length : Int))).toArray Tpt)))
           have HBA := Lib.hid (belowThen HQA.out.2.2.2.1 (belowSelf wA (.cells (ptC (xi, (x.length : Int))).toArray Tpt)))
           clear hrA hbA hsA hgA hatA)
        | (refine wp_load_row (b := w3.heap.size) (off := 1) (mem_rng1 HQA.out.2.2.2.2) TI (.tmp 32) (.array 32 5) rfl rfl rfl Tryd.underlying41 rfl SZI.out ?_)
        | (refine wp_build2 (HBP.out _) rfl rfl rfl rfl ?_)
        | (refine wp_bslice1 (HBS.out _) rfl rfl rfl ?_)
        | (at_builtin
           refine wp_append_row (w0 := w) HPA.out w.heap.size HBA.out (by omega) (ptC (xi, (x.length : Int))) (by decide) HN33.out HONE.out (.tmp 31) (.tmp 37) Tsp ip _ 40 rfl rfl Tryd.underlying23 HJO.out HJZ.out HJSZ.out HJBY.out rfl (by decide) rfl (g := wA.heap.size) (c := 1) rfl (fun j u hu => ((Mem.new wA Tpt (ptC (xi, (x.length : Int)))).cell j).trans hu) HLKP.out (by simp; omega) ?_
           intro vB wB hrB hbB hsB hgB hatB
           rw [← HPT.out] at hrB
           obtain ⟨pa', pm', pp', rfl⟩ := hrB.shape
           have HQB := Lib.hid (show BW w (.slice pa' pm' pp') (.slice oa' om' op') (chunkPts (cs.take (k + 1))) (chunkObs (cs.take (k + 1))) wB from
             ⟨hrB, (HQA.out.2.1.below (belowSelf _ _)).grow_tag HPA.out (by decide) hgB, (HQA.out.2.2.1.alloc _).grown hgB (fun e => by have := (HPA.out.lt _ e.symm).2; omega), hbB⟩)
           have hsB' : w.heap.size < wB.heap.size := by simp at hsB; omega
           clear hrB hbB hsB hgB hatB)
        | fail)
      go_roundw
      case rel => exact ⟨k + 1, by omega, by go_num, hsB', HQB⟩
      case measure => simp [intOf]; omega
    · have ek : k = cs.length := by omega
      subst ek
      rw [List.take_length] at HBR
      have hdk : decide (cs.length < cs.length) = false := by simp
      have HDP := Lib.hid (fun W => depth_any cs.length (by omega) W)
      have HD4 : depthOf cs.length ≤ 4 := depthOf_le 3 cs.length (by omega)
      have HONE := Lib.hid (show (bP (chunkPts cs) (depthOf cs.length)).length = 1 by rw [length_bP]; unfold chunkPts; rw [List.length_map]; exact lenAt_depth _ _ (Nat.le_refl _) hpos)
      have HPOS := Lib.hid (show ∀ j, 1 ≤ (bP (chunkPts cs) j).length ∧ (bP (chunkPts cs) j).length ≤ 1000 from fun j => by
        rw [length_bP]
        have e : (chunkPts cs).length = cs.length := by unfold chunkPts; rw [List.length_map]
        rw [e]
        refine ⟨lenAt_pos hpos j, ?_⟩
        induction j with
        | zero => exact hn
        | succ j ih => show (lenAt cs.length j + 7) / 8 ≤ 1000; omega)
      have HNM := Lib.hid (bP_names (chunkPts_names cs))
      have HSZS := Lib.hid (show ∀ j, j ≤ 4 → ∀ p ∈ bP (chunkPts cs) j, 0 ≤ p.2 ∧ p.2 ≤ 1000000000 from fun j hj p hp => by
        have h1 := bP_sizes (ps := chunkPts cs) (fun p hp => by
          obtain ⟨c, hc, rfl⟩ := List.mem_map.1 hp
          have := HALL.out c hc
          exact ⟨by have := this.1; simp; omega, by have := this.2; simp; omega⟩) j p hp
        have h2 : 256 * 8 ^ j ≤ 256 * 8 ^ 4 := Nat.mul_le_mul_left _ (Nat.pow_le_pow_right (by omega) hj)
        have h3 : 256 * 8 ^ 4 = 1048576 := by decide
        omega)
      have HBOL := Lib.hid (show ∀ j, j ≤ 4 → (bO (chunkPts cs) j).length ≤ 1000 * j from fun j => by
        induction j with
        | zero => intro _; simp [bO]
        | succ j ih =>
          intro hj
          have h1 := ih (by omega)
          have h2 := (HPOS.out (j + 1)).2
          have h3 : (upO (j + 1) (bP (chunkPts cs) j)).length = (bP (chunkPts cs) (j + 1)).length := by simp [upO, bP, upP]
          rw [bO, List.length_append, h3]
          omega)
      obtain ⟨d, hd⟩ : ∃ d, d = depthOf cs.length := ⟨_, rfl⟩
      rw [← hd] at HDP HD4 HONE
      have HDE := Lib.hid hd
      clear hd
      go_wp2_with fail
      refine (HDP.out _).mono ?_
      rintro e w2 ⟨rfl, rfl⟩
      go_wp2_with fail
      have HB20 := Lib.hid (show BW w (.slice pa pm pp) (.slice oa om op) (bP (chunkPts cs) 0) (chunkObs cs ++ bO (chunkPts cs) 0) wr by
        have := HBR.out
        simpa [bP, bO] using this)
      go_loopw [6, 7, 43] (fun v6 v7 i wr2 => ∃ j : Nat, j ≤ d ∧ i = .int .i64 j ∧ w.heap.size < wr2.heap.size ∧ Hid (BW w v6 v7 (bP (chunkPts cs) j) (chunkObs cs ++ bO (chunkPts cs) j) wr2)) (fun _ _ i _ => d - (intOf i).toNat)
      case atStart => exact ⟨0, by omega, rfl, hszr, HB20⟩
      case round =>
        clear HB20 HBR hszr
        obtain ⟨j, hj, rfl, hszr, HBR⟩ := hrel
        have hpj := HPOS.out j
        obtain ⟨gp, capp, hvp, hcapp, -⟩ := HBR.out.1.front (by rw [List.length_map]; omega)
        obtain ⟨oa2, om2, op2, hvo⟩ := HBR.out.2.1.shape
        subst hvo
        rw [List.length_map] at hvp hcapp
        subst hvp
        by_cases hlt : j < d
        · have hdj : decide (j < d) = true := by simpa using hlt
          have HCB := Lib.hid (combine_any (j + 1) gp 0 capp (bP (chunkPts cs) j) _ (HC.out.below HBR.out.2.2.2) ⟨HNM.out j, HBR.out.1.rd⟩ hcapp (by omega) (by omega) (HSZS.out j (by omega)))
          rw [show (((j + 1 : Nat) : Nat) : Int) = (j : Int) + 1 from by push_cast; rfl] at HCB
          have HLO := Lib.hid (show ((chunkObs cs ++ bO (chunkPts cs) j).map obCs).length + ((upO (j + 1) (bP (chunkPts cs) j)).map obCs).length ≤ 1000000000 by
            have h1 := HBOL.out j (by omega)
            have h2 := (HPOS.out (j + 1)).2
            have h3 : (upO (j + 1) (bP (chunkPts cs) j)).length = (bP (chunkPts cs) (j + 1)).length := by simp [upO, bP, upP]
            rw [List.length_map, List.length_map, List.length_append, h3]
            unfold chunkObs
            rw [List.length_map]
            omega)
          have HLP := Lib.hid (show 0 < ((upO (j + 1) (bP (chunkPts cs) j)).map obCs).length by
            have h2 := (HPOS.out (j + 1)).1
            have h3 : (upO (j + 1) (bP (chunkPts cs) j)).length = (bP (chunkPts cs) (j + 1)).length := by simp [upO, bP, upP]
            rw [List.length_map, h3]
            omega)
          have HOE := Lib.hid (show (chunkObs cs ++ bO (chunkPts cs) (j + 1)).map obCs = (chunkObs cs ++ bO (chunkPts cs) j).map obCs ++ (upO (j + 1) (bP (chunkPts cs) j)).map obCs by rw [bO, ← List.append_assoc, List.map_append])
          have HONES := Lib.hid (show ∀ y ∈ (upO (j + 1) (bP (chunkPts cs) j)).map obCs, ∀ u ∈ y, u.oneCell' = true from fun y hy => by
            obtain ⟨o, _, rfl⟩ := List.mem_map.1 hy
            exact one_obC _ _ _)
          obtain ⟨ys, hys⟩ : ∃ y, y = (upO (j + 1) (bP (chunkPts cs) j)).map obCs := ⟨_, rfl⟩
          rw [← hys] at HCB HLO HLP HOE HONES
          clear hys
          go_wp2_with fail
          refine HCB.out.mono ?_
          rintro e w5 ⟨va, vo, rfl, hra, hro, hb5⟩
          obtain ⟨go, capo, hvo, hcapo, hnews⟩ := hro.front HLP.out
          subst hvo
          obtain ⟨pa2, pm2, pp2, rfl⟩ := hra.shape
          have HQ5 := Lib.hid (show Rw w5 (w.heap.size + 1) Tpt 33 (.slice pa2 pm2 pp2) ((bP (chunkPts cs) (j + 1)).map ptC) ∧ Rw w5 (w.heap.size + 1) Tob 34 (.slice oa2 om2 op2) ((chunkObs cs ++ bO (chunkPts cs) j).map obCs) ∧ Mem w5 w.heap.size Tpt zP ∧ Below w.heap.size w w5 from ⟨hra.mono (by omega), HBR.out.2.1.below hb5, HBR.out.2.2.1.below hb5 HBR.out.2.2.1.lt, belowThen HBR.out.2.2.2 hb5⟩)
          have HNW := Lib.hid hnews
          have HRO1 := Lib.hid hro.1
          have hs5 : w.heap.size + 1 ≤ w5.heap.size := by have := hb5.size; omega
          clear hra hro hb5 hnews HCB
          go_wp2_with (first
            | (at_builtin
               refine wp_append_rows (w0 := w) HQ5.out.2.1 w.heap.size HQ5.out.2.2.2 (by omega) ys (by decide) HRO1.out HONES.out (.tmp 53) (.tmp 54) Tso io _ 56 rfl rfl Tryd.underlying44 HIO.out HIZ.out HISZ.out HIBY.out rfl (by decide) rfl (ad := ⟨go, 0, none⟩) (c := capo) rfl (fun q u hu => by rw [add_plain]; exact HNW.out q u hu) HLO.out hs5 ?_
               intro vA wA hrA hbA hsA hgA hatA
               rw [← HOE.out] at hrA
               obtain ⟨oa', om', op', rfl⟩ := hrA.shape
               have HQA := Lib.hid (show BW w (.slice pa2 pm2 pp2) (.slice oa' om' op') (bP (chunkPts cs) (j + 1)) (chunkObs cs ++ bO (chunkPts cs) (j + 1)) wA from ⟨HQ5.out.1.grow_tag HQ5.out.2.1 (by decide) hgA, hrA, HQ5.out.2.2.1.grown hgA (fun e => by have := (HQ5.out.2.1.lt _ e.symm).2; omega), hbA⟩)
               have hsA' : w.heap.size < wA.heap.size := by omega
               clear hrA hbA hsA hgA hatA)
            | fail)
          go_roundw
          case rel => exact ⟨j + 1, by omega, by go_num, hsA', HQA⟩
          case measure => simp [intOf]; omega
        · have ej : j = d := by omega
          subst ej
          have hdj : decide (j < j) = false := by simp
          have hl1 := HONE.out
          have HPT := Lib.hid (show Pts _ _ _ from ⟨HNM.out j, HBR.out.1.rd⟩)
          obtain ⟨a2, cap2, hv2, -, hc2⟩ := HPT.out.form
          injection hv2 with hv2 _ _
          obtain ⟨g2, off2, ha2, hlt2, hr2⟩ := hc2 0 (by omega)
          rw [← hv2] at ha2
          injection ha2 with ha2
          injection ha2 with ha2 hb2
          subst ha2 hb2
          have hp0 : (bP (chunkPts cs) j)[0]'(by omega) = (bP (chunkPts cs) j).getD 0 ([], 0) := by rw [List.getD_eq_getElem?_getD, List.getElem?_eq_getElem (by omega)]; rfl
          have h32 : ((bP (chunkPts cs) j).getD 0 ([], 0)).1.length = 32 := by rw [← hp0]; exact HNM.out j _ (List.getElem_mem _)
          rw [hp0] at hr2
          have HPE := Lib.hid (show rootPt cs = (bP (chunkPts cs) j).getD 0 ([], 0) by rw [HDE.out]; rfl)
          obtain ⟨p0, hp0'⟩ : ∃ p, p = (bP (chunkPts cs) j).getD 0 ([], 0) := ⟨_, rfl⟩
          rw [← hp0'] at hr2 h32 HPE
          have HRNG := Lib.hid (show World.rangeAt _ gp 0 (ptC p0) by simpa using hr2)
          have SZP := Lib.hid (sz_pt p0 h32)
          have ONEP := Lib.hid (one_ptC p0)
          have HLZ := Lib.hid (show zP.length = (ptC p0).length by rw [length_ptC p0 h32]; rfl)
          rw [hl1]
          rw [hl1] at hcapp
          clear hp0 hp0' hr2 h32 hc2 hv2
          have hlen1 : (1 : Int) ≤ 1 := by omega
          go_wp2_with (first
            | (refine wp_load_row HRNG.out Tpt (.tmp 58) _ rfl rfl rfl Tryd.underlying43 rfl SZP.out ?_)
            | (refine wp_store_mem HBR.out.2.2.1 (ptC p0) Tpt (.tmp 2) (.tmp 59) rfl rfl rfl rfl SZP.out HLZ.out ONEP.out ?_)
            | fail)
          refine bodyPost_ret (resultsCell3 (HBR.out.2.2.1.setRow _) rfl _ _ rfl Tryd.underlying43 rfl SZP.out) rfl ⟨.slice oa2 om2 op2, by rw [HPE.out]; rfl, ?_, below_row HBR.out.2.2.2 (Nat.le_refl _) _⟩
          have e : allObs cs = chunkObs cs ++ bO (chunkPts cs) j := by rw [HDE.out]; rfl
          rw [e]
          exact (Rw.mono (base' := w.heap.size) HBR.out.2.1 (Nat.le_succ _)).of_block (fun b hb => heap_setRow_other _ w.heap.size b _ (by have := (HBR.out.2.1.lt b hb).2; omega))
end Go.Proofs.YtjdhcanblpifcaaDoor

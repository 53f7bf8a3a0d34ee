/-
  Package sector: loosen.
-/
import Derived.Test.YtjmmbafpiahhiaaSec3
namespace Go.Proofs.Ytjmmbafpiahhiaa
open Go.RowKit Go.Maps Crv

theorem Dk.mono {w : World} {fb cb mb db sz : Nat} {a : Bool} {k : Int} {bs : List UInt8} {n : Nat} {D : DataW Unit} (h : Dk w fb cb mb db sz a k bs n D) : Dk w fb cb mb db sz a k bs (n + 1) D := ⟨h.d, h.f, h.c, h.m.mono (Nat.le_succ _), h.len, h.most, h.kin⟩
theorem arrayAt_sec (cb o c : Nat) (w : World) : (Instr.arrayAt TA (.slice (some ⟨cb, o, none⟩) 64 c)).run Try.prog w = .ok (.pointer (some ⟨cb, o, none⟩)) w := by
  simp [Instr.arrayAt, run_underlying Try.underlying74, Result.andThen]
theorem sz_sec (l : List UInt8) (hl : l.length = 64) : (Try.prog.info? TA).map (·.size) = some (l.map byteV).length := by
  rw [List.length_map, hl]; kernel_rfl
theorem one_sec (l : List UInt8) : ∀ v ∈ l.map byteV, v.oneCell' = true := by
  intro v hv
  obtain ⟨x, _, rfl⟩ := List.mem_map.1 hv
  rfl
theorem keyed_int : Keyed Try.prog TN := int_keyed Try.underlying3
theorem zero_sec (w : World) : (zeroValue TA).run Try.prog w = .ok (.agg ((List.replicate 64 (0 : UInt8)).map byteV).toArray) w := by kernel_rfl
/-- The key of a sector. -/
abbrev key (i : Nat) : Lit := .int .i64 (i : Int)
theorem key_of (i : Nat) (hi : i ≤ 65536) : keyOf Try.prog TN (.int .i64 (i : Int)) = some (key i) := keyOf_int_mk Try.underlying3 (WalkArith.wf_i64 (by omega))
abbrev secD (l : List UInt8) : DataW Unit := .lit (.string l)
/-- What loosen makes of the map. -/
def looseD (D : DataW Unit) (bs : List UInt8) (i : Nat) : DataW Unit := if Maps.has D (key i) = true then D else D.put (key i) (secD (rowS bs i 1))

theorem step_mapUpdate {P : Program} {ops : Array Oper} {o : Oper} {a : Act} {w : World} {Q : Exit → Act → World → Prop} {K : Act → World → Prop} {E : Prop} {k e : TypeId} {R : Value → Option (DataW Unit × List MemPlace)} {b n : Nat} {D : DataW Unit} (hown : w.ownsMap P k R b n D) (Ky : Keyed P k) {t : TypeId} (ht : P.underlying t = some (.map k e)) (hn : n < maxLen)
    (m x v : Operand) (t' : TypeId) (hgd : o.guard = none) (ho : o.op = .mapUpdate t' m x v) (htt : t' = t) {ky val : Value} {kl : Lit} {d : DataW Unit} {ps : List MemPlace} (hm : a.eval m = .map (some b)) (hx : a.eval x = ky) (hv : a.eval v = val) (hkey : keyOf P k ky = some kl) (hval : R val = some (d, ps))
    (h : ∀ W, W.ownsMap P k R b (n + 1) (D.put kl d) → w.grownBy W (some b) → K (a.put o.dst undef) W) : if Region.wanted o (yielded ops a.tmps) = true then Oper.wp P o a w K Q else E := by
  subst htt
  have hw : Region.wanted o (yielded ops a.tmps) = true := by simp [Region.wanted, hgd]
  rw [if_pos hw]
  obtain ⟨W, hrun, h1, h2⟩ := hown.update Ky ht hn hkey hval
  unfold Oper.wp execOp
  simp only [ho, hm, hx, hv, hrun, Sem.run_bind, Sem.run_pure, Result.andThen_ok]
  exact h _ h1 h2
/-- What the walk of loosen keeps. -/
def LooseW (w0 : World) (fb cb mb db sz : Nat) (a : Bool) (k : Int) (bs : List UInt8) (w : World) : Prop := (∃ n D, Dk w fb cb mb db sz a k bs n D) ∧ Only [fb, cb, mb] w0 w
theorem LooseW.c2 {w0 w : World} {fb cb mb db sz : Nat} {a : Bool} {k : Int} {bs : List UInt8} (h : LooseW w0 fb cb mb db sz a k bs w) : w.cell? ⟨db, 2, none⟩ = some (.map (some mb)) := by
  obtain ⟨⟨n, D, h⟩, _⟩ := h
  exact h.d.cell 2
theorem rowS_prefix (bs : List UInt8) (i n : Nat) : (rowS bs i n).map byteV <+: (bs.map byteV).drop (64 * i) := by
  unfold rowS
  rw [← List.map_drop]
  exact List.IsPrefix.map _ (List.take_prefix _ _)
theorem LooseW.row {w0 w : World} {fb cb mb db sz : Nat} {a : Bool} {k : Int} {bs : List UInt8} (h : LooseW w0 fb cb mb db sz a k bs w) (i : Nat) : w.rangeAt cb (64 * i) ((rowS bs i 1).map byteV) := by
  obtain ⟨⟨n, D, h⟩, _⟩ := h
  exact h.c.range _ _ (rowS_prefix bs i 1)

section
variable {w w' : World} {fb cb mb db sz : Nat} {a : Bool} {k : Int} {bs : List UInt8} {n : Nat} {D : DataW Unit}
set_option maxHeartbeats 1000000 in
set_option maxRecDepth 100000 in
theorem loosen_any (i : Nat) (hi : i < sz) (hn : n < 1000000) (h : Dk w fb cb mb db sz a k bs n D) :
    Calls Try.prog 43 #[ptr db, .int .i64 (i : Int)] w fun e w' => e = .returned (.tuple #[]) ∧ Dk w' fb cb mb db sz a k bs (n + 1) (looseD D bs i) ∧ Only [fb, cb, mb] w w' := by
  have hm := h.most
  have c2 : w.cell? ⟨db, 2, none⟩ = some (.map (some mb)) := h.d.cell 2
  have H := Lib.hid h
  have HK := Lib.hid (key_of i (by omega))
  have HLEN := Lib.hid (length_rowS h.len (show i + 1 ≤ sz by omega))
  clear h
  obtain ⟨hs, hhs⟩ : ∃ b, Maps.has D (key i) = b := ⟨_, rfl⟩
  cases hs with
  | true =>
    have HLD := Lib.hid (show looseD D bs i = D by unfold looseD; rw [hhs]; rfl)
    go_enter Try.func43, Try.ntmps43
    go_wp2_with (first
      | (at_lookup; refine wpList_lookup_own_ok _ rfl _ _ TM rfl TN TA keyed_int Try.underlying39 secElem (zero_sec _) (secD (List.replicate 64 0)) [] (secElem_mk _ rfl) mb n D rfl H.out.m _ (key i) rfl HK.out ?_
         intro v ps hv
         obtain ⟨l, hl, rfl, _⟩ := secElem_inv hv
         have HL := Lib.hid hl
         rw [hhs]
         clear hv hl hhs)
      | (refine wp_store_gen (B := w.heap.size) (w0 := w) (belowSelf w _) (Nat.le_refl _) (Mem.newAt w TA ((List.replicate 64 (0 : UInt8)).map byteV) rfl) (l.map byteV) TA (.tmp 4) (.tmp 13) rfl rfl rfl rfl (sz_sec l HL.out) (by rw [List.length_map, List.length_map, HL.out]; rfl) (one_sec l) ?_
         intro W1 hm1 hb1 hz1 hk1
         clear hm1 hz1 hk1)
      | fail)
    go_end0
    exact ⟨rfl, by rw [HLD.out]; exact (H.out.below hb1).mono, Only.of_below hb1⟩
  | false =>
    have HLD := Lib.hid (show looseD D bs i = D.put (key i) (secD (rowS bs i 1)) by unfold looseD; rw [hhs]; rfl)
    go_enter Try.func43, Try.ntmps43
    go_wp2_with (first
      | (at_lookup; refine wpList_lookup_own_ok _ rfl _ _ TM rfl TN TA keyed_int Try.underlying39 secElem (zero_sec _) (secD (List.replicate 64 0)) [] (secElem_mk _ rfl) mb n D rfl H.out.m _ (key i) rfl HK.out ?_
         intro v ps hv
         obtain ⟨l, hl, rfl, _⟩ := secElem_inv hv
         have HL := Lib.hid hl
         rw [hhs]
         clear hv hl hhs)
      | (refine wp_store_gen (B := w.heap.size) (w0 := w) (belowSelf w _) (Nat.le_refl _) (Mem.newAt w TA ((List.replicate 64 (0 : UInt8)).map byteV) rfl) (l.map byteV) TA (.tmp 4) (.tmp 13) rfl rfl rfl rfl (sz_sec l HL.out) (by rw [List.length_map, List.length_map, HL.out]; rfl) (one_sec l) ?_
         intro W1 hm1 hb1 hz1 hk1
         clear hm1 hz1 hk1)
      | fail)
    have hb2 : Only [fb, cb, mb] w W1 := Only.of_below hb1
    have HD1 := Lib.hid (show Dk W1.drew fb cb mb db sz a k bs n D from (H.out.below hb1).drew)
    have HO1 := Lib.hid (show LooseW w fb cb mb db sz a k bs W1.drew from ⟨⟨n, D, HD1.out⟩, hb2.drew⟩)
    clear hb1 hb2
    refine wp_region_held_drew (S := fun w' => LooseW w fb cb mb db sz a k bs w') (by kernel_rfl) HO1.out (fun h0 => ?_)
    refine wpAnyH_take (i := 0) (oi := { dst := some 17, op := Op.move (Operand.tmp 0), type := 24, pos := "sector.go:148", after := #[], guard := none }) (v := ptr db) rfl (by kernel_rfl) (by kernel_rfl) (by kernel_rfl) (fun _ _ _ h => h) (Or.inl ⟨by rfl, ?_⟩) h0 ?_
    · intro w' hSw
      go_simp
    simp only [Act.put, List.setIfInBounds_toArray, List.set_cons_zero, List.set_cons_succ]
    refine wpAnyH_take (i := 1) (oi := { dst := some 18, op := Op.nilCheck (Operand.tmp 17), type := 0, pos := "sector.go:148", after := #[{ on := 0, ground := Ground.data }], guard := none }) (v := ptr db) rfl (by kernel_rfl) (by kernel_rfl) (by kernel_rfl) (fun _ _ _ h => h) (Or.inl ⟨by rfl, ?_⟩) h0 ?_
    · intro w' hSw
      go_simp
    simp only [Act.put, List.setIfInBounds_toArray, List.set_cons_zero, List.set_cons_succ]
    refine wpAnyH_take (i := 2) (oi := { dst := some 19, op := Op.fieldAddr TD (Operand.tmp 18) 2, type := 0, pos := "sector.go:148", after := #[{ on := 1, ground := Ground.data }], guard := none }) (v := .pointer (some ⟨db, 2, none⟩)) rfl (by kernel_rfl) (by kernel_rfl) (by kernel_rfl) (fun _ _ _ h => h) (Or.inl ⟨by rfl, ?_⟩) h0 ?_
    · intro w' hSw
      go_simp
    simp only [Act.put, List.setIfInBounds_toArray, List.set_cons_zero, List.set_cons_succ]
    refine wpAnyH_take (i := 3) (oi := { dst := some 20, op := Op.load TM (Operand.tmp 19), type := TM, pos := "sector.go:148", after := #[{ on := 2, ground := Ground.data }], guard := none }) (v := .map (some mb)) rfl (by kernel_rfl) (by kernel_rfl) (by kernel_rfl) (fun _ _ _ h => h) (Or.inl ⟨by rfl, ?_⟩) h0 ?_
    · intro w' hSw
      have c := hSw.c2
      go_simp
    simp only [Act.put, List.setIfInBounds_toArray, List.set_cons_zero, List.set_cons_succ]
    refine wpAnyH_take (i := 4) (oi := { dst := some 21, op := Op.move (Operand.tmp 1), type := TN, pos := "sector.go:148", after := #[], guard := none }) (v := .int .i64 (i : Int)) rfl (by kernel_rfl) (by kernel_rfl) (by kernel_rfl) (fun _ _ _ h => h) (Or.inl ⟨by rfl, ?_⟩) h0 ?_
    · intro w' hSw
      go_simp
    simp only [Act.put, List.setIfInBounds_toArray, List.set_cons_zero, List.set_cons_succ]
    refine wpAnyH_take (i := 5) (oi := { dst := some 22, op := Op.move (Operand.tmp 0), type := 24, pos := "sector.go:148", after := #[], guard := none }) (v := ptr db) rfl (by kernel_rfl) (by kernel_rfl) (by kernel_rfl) (fun _ _ _ h => h) (Or.inl ⟨by rfl, ?_⟩) h0 ?_
    · intro w' hSw
      go_simp
    simp only [Act.put, List.setIfInBounds_toArray, List.set_cons_zero, List.set_cons_succ]
    refine wpAnyH_take (i := 6) (oi := { dst := some 23, op := Op.move (Operand.tmp 1), type := TN, pos := "sector.go:148", after := #[], guard := none }) (v := .int .i64 (i : Int)) rfl (by kernel_rfl) (by kernel_rfl) (by kernel_rfl) (fun _ _ _ h => h) (Or.inl ⟨by rfl, ?_⟩) h0 ?_
    · intro w' hSw
      go_simp
    simp only [Act.put, List.setIfInBounds_toArray, List.set_cons_zero, List.set_cons_succ]
    refine wpAnyH_ready (rs := [7]) (by kernel_rfl) (by simp) (AllReadyH.cons rfl (fun K hK => ?_) AllReadyH.nil)
    go_simp
    refine (sector_any i hi HD1.out).mono ?_
    rintro e w2 ⟨rfl, rfl⟩
    dsimp only
    refine hK.out _ _ h0 (fun h1 => ?_)
    clear hK K
    refine wpAnyH_take (i := 8) (oi := { dst := some 25, op := Op.sliceToArrayPointer TA (Operand.tmp 24), type := 0, pos := "sector.go:148", after := #[{ on := 7, ground := Ground.data }], guard := none }) (v := .pointer (some ⟨cb, 64 * i, none⟩)) rfl (by kernel_rfl) (by kernel_rfl) (by kernel_rfl) (fun _ _ _ h => h) (Or.inl ⟨by rfl, ?_⟩) h1 ?_
    · intro w' hSw
      have ha := arrayAt_sec cb (64 * i) (64 * sz - 64 * i) w'
      go_simp
    simp only [Act.put, List.setIfInBounds_toArray, List.set_cons_zero, List.set_cons_succ]
    refine wpAnyH_take (i := 9) (oi := { dst := some 26, op := Op.load TA (Operand.tmp 25), type := TA, pos := "sector.go:148", after := #[{ on := 8, ground := Ground.data }], guard := none }) (v := _) rfl (by kernel_rfl) (by kernel_rfl) (by kernel_rfl) (fun _ _ _ h => h) (yieldsIf_load_mid (by rfl) TA (.tmp 25) rfl cb (64 * i) rfl ((rowS bs i 1).map byteV) (.array 64 TB) (fun w hS => hS.row i) Try.underlying74 rfl (sz_sec _ HLEN.out)) h1 ?_
    simp only [Act.put, List.setIfInBounds_toArray, List.set_cons_zero, List.set_cons_succ]
    refine wpAnyH_ready (rs := [10]) (by kernel_rfl) (by simp) (AllReadyH.cons rfl (fun K hK => ?_) AllReadyH.nil)
    refine step_mapUpdate HD1.out.m keyed_int Try.underlying39 (by unfold maxLen; omega) (.tmp 20) (.tmp 21) (.tmp 26) TM rfl rfl rfl rfl rfl rfl HK.out (secElem_mk _ HLEN.out) ?_
    intro W3 hown3 hg3
    have hd3 := HD1.out.map hg3 hown3
    have ho3 := HO1.out.2.trans (Only.grown hg3 (show mb ∈ [fb, cb, mb] by simp))
    refine hK.out _ _ ⟨⟨_, _, hd3⟩, ho3⟩ (fun h2 => ?_)
    clear hK K
    refine wpAnyH_done (by kernel_rfl) ?_ _
    go_end0
    exact ⟨rfl, by rw [HLD.out]; exact hd3, ho3⟩
end
end Go.Proofs.Ytjmmbafpiahhiaa

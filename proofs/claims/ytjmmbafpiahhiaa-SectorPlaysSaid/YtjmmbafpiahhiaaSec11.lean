/-
  Package sector: Crash, its walk.
-/
import Derived.Test.YtjmmbafpiahhiaaSec10
namespace Go.Proofs.Ytjmmbafpiahhiaa
open Go.RowKit Go.Maps Go.Sort Go.Shelf Crv

section
variable {w w' : World} {fb cb mb db sz : Nat} {a : Bool} {k : Int} {bs : List UInt8} {n : Nat} {D : DataW Unit}
theorem length_crTo {du : Tab} {L : List Nat} {ch : List Int} (hb : bs.length = 64 * sz) (hL : ∀ i ∈ L, i < sz ∧ ((du i).getD []).length = 64) : ∀ j, j ≤ L.length → (crTo bs du L ch j).length = 64 * sz
  | 0, _ => hb
  | j + 1, h => by
    have ih := length_crTo (ch := ch) hb hL j (by omega)
    have hm := hL (L.getD j 0) (by rw [List.getD_eq_getElem?_getD, List.getElem?_eq_getElem (by omega)]; exact List.getElem_mem _)
    show (tearS _ _ _ _).length = _
    rw [length_tearS ih hm.1 (keptS_le _ _) hm.2, ih]
set_option maxRecDepth 100000 in
theorem look_sec {i : Nat} {l : List UInt8} {du : Tab} (h : Dk w fb cb mb db sz a k bs n D) (hd : Du D du sz) (hl : du i = some l) (hi : i ≤ 65536) : (Instr.lookup TM (.map (some mb)) (.int .i64 (i : Int)) false).run Try.prog w = .ok (.agg (l.map byteV).toArray) w := by
  obtain ⟨v, ps, hrun, hv⟩ := h.m.lookup keyed_int Try.underlying39 (zero_sec _) (secElem_mk (List.replicate 64 0) rfl) (key_of i hi)
  obtain ⟨l', _, rfl, e⟩ := secElem_inv hv
  rw [hd.look i l hl] at e
  injection e with e _
  injection e with e
  injection e with e
  rw [e]
  exact hrun
theorem addr_add (G q j : Nat) : (⟨G, q, none⟩ : Addr).add j = ⟨G, q + j, none⟩ := by
  unfold Addr.add
  split
  · rename_i h; subst h; rfl
  · rfl
theorem arr_slice (G q : Nat) (hq : q < 64) (w : World) : (Instr.sliceAt TA (.pointer (some ⟨G, 0, none⟩)) (some (.int .i64 (q : Int))) none none).run Try.prog w = .ok (.slice (some ⟨G, q, none⟩) (64 - q) (64 - q)) w := by
  have e1 : q ≤ 64 := by omega
  have e2 : ¬ 64 = q := by omega
  simp [Instr.sliceAt, Instr.sureAddr, Instr.sliceBounds, Instr.sliceBound, asIntOf, run_underlying Try.underlying74, Result.andThen, e1, e2, addr_add]
theorem arr_slice_end (G : Nat) (w : World) : (Instr.sliceAt TA (.pointer (some ⟨G, 0, none⟩)) (some (.int .i64 64)) none none).run Try.prog w = .ok (.slice (some ⟨G, 0, none⟩) 0 0) w := by
  simp [Instr.sliceAt, Instr.sureAddr, Instr.sliceBounds, Instr.sliceBound, asIntOf, run_underlying Try.underlying74, Result.andThen]
/-- What the walk of a torn sector keeps. -/
def CrashW (w0 : World) (fb cb mb db sz : Nat) (a : Bool) (k : Int) (n : Nat) (D : DataW Unit) (G : Nat) (l : List UInt8) (w : World) : Prop := (∃ bs, Dk w fb cb mb db sz a k bs n D) ∧ Mem w G TA (l.map byteV) ∧ Only [fb, cb, mb] w0 w
theorem copy_sec {q i G : Nat} {l : List UInt8} (h : Dk w fb cb mb db sz a k bs n D) (hm : Mem w G TA (l.map byteV)) (hi : i < sz) (hq : q < 64) (hl : l.length = 64) (hb : bs.length = 64 * sz) :
    ∃ W, (∀ ty c1 c2, (Builtin.copy_ #[38, 38] ty #[.slice (some ⟨cb, 64 * i + q, none⟩) (64 - q) c1, .slice (some ⟨G, q, none⟩) (64 - q) c2]).run Try.prog w = .ok (goInt (64 - q : Nat)) W) ∧ Dk W fb cb mb db sz a k (tearS bs i q l) n D ∧ w.grownBy W (some cb) ∧ Mem W G TA (l.map byteV) := by
  have hlen : ((l.drop q).map byteV).length = 64 - q := by rw [List.length_map, List.length_drop, hl]
  have hg := grown_cells (g := cb) ((l.drop q).map byteV) (64 * i + q) w (grownRefl _ _)
  refine ⟨w.setCells cb (64 * i + q) ((l.drop q).map byteV), fun ty c1 c2 => ?_, ?_, hg, hm.grown hg (fun e => hm.ne h.c (by decide) (by injection e))⟩
  · have hr := h.c.hasRow (64 * i + q) (64 - q) (by rw [List.length_map, hb]; omega)
    have hrs := hm.range q ((l.drop q).map byteV) (by rw [List.map_drop]; exact ⟨[], by simp⟩)
    have := run_copy_cells (P := Try.prog) w 38 38 ty TB cb (64 * i + q) (64 - q) c1 ⟨G, q, none⟩ (64 - q) c2 ((l.drop q).map byteV) Try.underlying38 (by kernel_rfl) (by rw [hlen]; exact (Nat.min_self _).symm) (fun j v hv => by rw [addr_add]; exact hrs j v hv) (fun j hj => (hr j (by omega)).1) (fun j hj => (hr j (by omega)).2) (oneBytes _)
    rw [hlen] at this
    exact this
  · have hM := setCells_row ((l.drop q).map byteV) (64 * i + q) w _ h.c (by rw [hlen, List.length_map, hb]; omega)
    refine h.bytes hg ?_ (length_tearS hb hi (by omega) hl)
    have e : (bs.map byteV).take (64 * i + q) ++ ((l.drop q).map byteV ++ (bs.map byteV).drop (64 * i + q + ((l.drop q).map byteV).length)) = (tearS bs i q l).map byteV := by
      rw [hlen, ← List.map_take, ← List.map_drop, show 64 * i + q + (64 - q) = 64 * i + 64 by omega]
      unfold tearS
      simp
    rw [← e]
    exact hM
theorem copy_nil {P : Program} {w : World} {t e : TypeId} (ht : P.underlying t = some (.slice e)) (hs : (P.info? e).map (·.size) = some 1) (ty : TypeId) (d a : Option Addr) (c1 c2 : Nat) : (Builtin.copy_ #[t, t] ty #[.slice d 0 c1, .slice a 0 c2]).run P w = .ok (goInt 0) w :=
  run_copy_none w t t ty e d a 0 c1 0 c2 ht hs rfl
set_option maxHeartbeats 4000000 in
set_option maxRecDepth 100000 in
theorem crash_any (v : Value) (ch : List Int) (du : Tab) (hv : Zs w v ch) (hav : ch ≠ [] → ∀ g, v.ownBlock = some g → g ∉ [fb, cb, mb]) (hch : ch.length ≤ 9223372036854775807) (hn : n ≤ 1000000) (h : Dk w fb cb mb db sz a k bs n D) (hdu : Du D du sz) :
    Calls Try.prog 18 #[ptr db, v] w fun e w' => e = .returned (.tuple #[]) ∧ Dk w' fb cb mb db sz false 0 (crTo bs du (looseL du sz) ch (looseL du sz).length) 0 (.map []) ∧ Only [fb, cb, mb] w w' := by
  have hm := h.most
  have HLO := Lib.hid (loose_any h hn)
  have HV := Lib.hid hv
  have HAV := Lib.hid hav
  have H := Lib.hid h
  have HDU := Lib.hid hdu
  have HL := Lib.hid (show ∀ i ∈ looseL du sz, i < sz ∧ ((du i).getD []).length = 64 from fun i hi => by
    obtain ⟨h1, h2⟩ := mem_looseL.1 hi
    obtain ⟨l, hl⟩ := Option.isSome_iff_exists.1 h2
    exact ⟨h1, by rw [hl]; exact hdu.len i l hl⟩)
  have HSO := Lib.hid (show ∀ i ∈ looseL du sz, (du i).isSome = true from fun i hi => (mem_looseL.1 hi).2)
  have HSRT := Lib.hid (fun ss hs => sort_looseL (ss := ss) hdu h.m hs)
  have hll := looseL_length du sz
  have HB := Lib.hid h.len
  obtain ⟨L, hL⟩ : ∃ L, L = looseL du sz := ⟨_, rfl⟩
  rw [← hL] at HL HSO hll
  simp only [← hL] at HSRT ⊢
  have hlt1 := h.f.lt
  have hlt2 := h.c.lt
  have hlt3 := h.m.lt
  obtain ⟨ad, cap, rfl, _⟩ := hv
  clear h hdu hav hL
  go_enter Try.func18, Try.ntmps18
  go_wp2_with fail
  refine HLO.out.mono ?_
  rintro e w1 ⟨v1, ss, rfl, hp, hrow, _, hb1⟩
  have hsl : ss.length = L.length := by
    have := congrArg List.length (HSRT.out ss hp)
    simpa using this
  rw [HSRT.out ss hp] at hrow
  have HZ1 := Lib.hid (Zs.of_row hrow (by rw [List.length_map, hsl]))
  have HA1 := Lib.hid (show ∀ g, v1.ownBlock = some g → g ∉ [fb, cb, mb] from fun g hg => by
    obtain ⟨_, h2⟩ := hrow
    rcases h2 with ⟨rfl, _⟩ | ⟨g', cap', cur, rfl, hb, _⟩
    · cases hg
    · injection hg with hg
      subst hg
      simp only [List.mem_cons, List.not_mem_nil, or_false, not_or]
      exact ⟨by omega, by omega, by omega⟩)
  have HD1 := Lib.hid (H.out.below hb1)
  have HO1 := Lib.hid (Only.of_below (S := [fb, cb, mb]) hb1)
  have HV1 := Lib.hid (HV.out.only HO1.out HAV.out)
  obtain ⟨a1, cap1, hv1, _⟩ := HZ1.out
  rw [List.length_map] at hv1
  subst hv1
  clear hp hrow hb1 hsl HLO
  go_wp2_with fail
  go_loopw [11] (fun x wr => ∃ j : Nat, j ≤ L.length ∧ x = .int .i64 j ∧ Hid (Dk wr fb cb mb db sz a k (crTo bs du L ch j) n D) ∧ Hid (Only [fb, cb, mb] w1 wr)) (fun x _ => L.length - (intOf x).toNat)
  case atStart => exact ⟨0, by omega, rfl, HD1, Lib.hid (Only.refl _ _)⟩
  case round =>
    obtain ⟨j, hj, rfl, HDR, HOR⟩ := hrel
    by_cases hlt : j < L.length
    · obtain ⟨i, hi⟩ : ∃ i, i = L.getD j 0 := ⟨_, rfl⟩
      obtain ⟨a', cap', hv', hc'⟩ := HZ1.out.only HOR.out (fun _ => HA1.out)
      injection hv' with h1 h2 h3
      obtain ⟨b, off, ha, hcell⟩ := hc' j (by rw [List.length_map]; exact hlt)
      rw [← h1] at ha
      subst ha
      rw [show ((L.map fun i : Nat => (i : Int)).getD j 0) = (i : Int) by rw [hi, List.getD_eq_getElem?_getD, List.getElem?_map, List.getD_eq_getElem?_getD, List.getElem?_eq_getElem hlt]; rfl] at hcell
      have hmem : i ∈ L := by rw [hi, List.getD_eq_getElem?_getD, List.getElem?_eq_getElem hlt]; exact List.getElem_mem hlt
      obtain ⟨hisz, hlen⟩ := HL.out i hmem
      obtain ⟨l, hl⟩ := Option.isSome_iff_exists.1 (HSO.out i hmem)
      rw [hl] at hlen
      have HNX := Lib.hid (show crTo bs du L ch (j + 1) = tearS (crTo bs du L ch j) i (keptS ch j) l by show tearS _ _ _ _ = _; rw [← hi, hl]; rfl)
      have HLN := Lib.hid (length_crTo (ch := ch) HB.out HL.out j hj)
      obtain ⟨bj, hbj⟩ : ∃ b, b = crTo bs du L ch j := ⟨_, rfl⟩
      rw [← hbj] at HNX HDR HLN
      have HLE := Lib.hid (show l.length = 64 from hlen)
      have hlook := look_sec HDR.out HDU.out hl (by omega)
      have c2 : wr.cell? ⟨db, 2, none⟩ = some (.map (some mb)) := HDR.out.d.cell 2
      have hq64 := keptS_le ch j
      clear hi h1 h2 h3 hc' hmem hlen hl hbj
      have hd : decide (j < L.length) = true := by simp; omega
      by_cases hjc : j < ch.length
      · obtain ⟨a2, cap2, hv2, hc2⟩ := HV1.out.only HOR.out HAV.out
        injection hv2 with k1 k2 k3
        obtain ⟨b2, off2, ha2, hcell2⟩ := hc2 j hjc
        rw [← k1] at ha2
        subst ha2
        have HQ := Lib.hid (show min (max (ch.getD j 0) 0) 64 = (keptS ch j : Int) by unfold keptS; rw [if_pos hjc]; omega)
        obtain ⟨c, hc⟩ : ∃ c, c = ch.getD j 0 := ⟨_, rfl⟩
        rw [← hc] at hcell2 HQ
        obtain ⟨q, hq⟩ : ∃ q, q = keptS ch j := ⟨_, rfl⟩
        rw [← hq] at HQ HNX hq64
        clear hc hq k1 k2 k3 hc2
        have hd2 : decide (j < ch.length) = true := by simp; omega
        go_wp2_with (first
          | (refine wp_max0 (c := c) (d := 0) (.tmp 23) (.const (.int .i64 0)) rfl rfl rfl rfl ?_)
          | (refine wp_min0 (c := max c 0) (d := 64) (.tmp 24) (.const (.int .i64 64)) HQ.out rfl rfl rfl rfl ?_)
          | (refine wp_store_gen (B := wr.heap.size) (w0 := wr) (belowSelf wr _) (Nat.le_refl _) (Mem.newAt wr TA ((List.replicate 64 (0 : UInt8)).map byteV) rfl) (l.map byteV) TA (.tmp 7) (.tmp 31) rfl rfl rfl rfl (sz_sec l HLE.out) (by rw [List.length_map, List.length_map, HLE.out]; rfl) (one_sec l) ?_
             intro W4 hm4 hb4 hz4 hk4)
          | fail)
        obtain ⟨G, hG⟩ : ∃ G, G = wr.heap.size := ⟨_, rfl⟩
        rw [← hG] at hm4
        rw [← hG]
        clear hG hz4 hk4
        by_cases hq1 : q < 64
        · have n1 : ¬ 64 * sz - 64 * i = q := by omega
          have n2 : ¬ 64 = q := by omega
          have HD4 := Lib.hid (show Dk W4.drew fb cb mb db sz a k bj n D from (HDR.out.below hb4).drew)
          have HO4 := Lib.hid (show CrashW w1 fb cb mb db sz a k n D G l W4.drew from ⟨⟨bj, HD4.out⟩, hm4, (HOR.out.trans (Only.of_below hb4)).drew⟩)
          clear hb4 hm4
          refine wp_region_held_drew (S := fun w' => CrashW w1 fb cb mb db sz a k n D G l w') (by kernel_rfl) HO4.out (fun h0 => ?_)
          refine wpAnyH_take (i := 0) (oi := { dst := some 32, op := Op.move (Operand.tmp 0), type := 24, pos := "sector.go:121", after := #[], guard := none }) (v := ptr db) rfl (by kernel_rfl) (by kernel_rfl) (by kernel_rfl) (fun _ _ _ h => h) (Or.inl ⟨by rfl, ?_⟩) h0 ?_
          · intro w' hSw
            go_simp
          simp only [Act.put, List.setIfInBounds_toArray, List.set_cons_zero, List.set_cons_succ]
          refine wpAnyH_take (i := 1) (oi := { dst := some 33, op := Op.move (Operand.tmp 5), type := TN, pos := "sector.go:121", after := #[], guard := none }) (v := .int .i64 (i : Int)) rfl (by kernel_rfl) (by kernel_rfl) (by kernel_rfl) (fun _ _ _ h => h) (Or.inl ⟨by rfl, ?_⟩) h0 ?_
          · intro w' hSw
            go_simp
          simp only [Act.put, List.setIfInBounds_toArray, List.set_cons_zero, List.set_cons_succ]
          refine wpAnyH_take (i := 3) (oi := { dst := some 35, op := Op.move (Operand.tmp 6), type := TN, pos := "sector.go:121", after := #[], guard := none }) (v := .int .i64 (q : Int)) rfl (by kernel_rfl) (by kernel_rfl) (by kernel_rfl) (fun _ _ _ h => h) (Or.inl ⟨by rfl, ?_⟩) h0 ?_
          · intro w' hSw
            go_simp
          simp only [Act.put, List.setIfInBounds_toArray, List.set_cons_zero, List.set_cons_succ]
          refine wpAnyH_take (i := 5) (oi := { dst := some 37, op := Op.move (Operand.tmp 6), type := TN, pos := "sector.go:121", after := #[], guard := none }) (v := .int .i64 (q : Int)) rfl (by kernel_rfl) (by kernel_rfl) (by kernel_rfl) (fun _ _ _ h => h) (Or.inl ⟨by rfl, ?_⟩) h0 ?_
          · intro w' hSw
            go_simp
          simp only [Act.put, List.setIfInBounds_toArray, List.set_cons_zero, List.set_cons_succ]
          refine wpAnyH_take (i := 6) (oi := { dst := some 38, op := Op.slice TA (Operand.tmp 7) (some (Operand.tmp 37)) none none, type := 38, pos := "sector.go:121", after := #[{ on := 5, ground := Ground.data }], guard := none }) (v := .slice (some ⟨G, q, none⟩) (64 - q) (64 - q)) rfl (by kernel_rfl) (by kernel_rfl) (by kernel_rfl) (fun _ _ _ h => h) (Or.inl ⟨by rfl, ?_⟩) h0 ?_
          · intro w' hSw
            have hs := arr_slice G q hq1 w'
            go_simp
          simp only [Act.put, List.setIfInBounds_toArray, List.set_cons_zero, List.set_cons_succ]
          refine wpAnyH_ready (rs := [2]) (by kernel_rfl) (by simp) (AllReadyH.cons rfl (fun K hK => ?_) AllReadyH.nil)
          go_simp
          refine (sector_any i hisz HD4.out).mono ?_
          rintro e w5 ⟨rfl, rfl⟩
          dsimp only
          refine hK.out _ _ h0 (fun h1 => ?_)
          clear hK K
          refine wpAnyH_take (i := 4) (oi := { dst := some 36, op := Op.slice 38 (Operand.tmp 34) (some (Operand.tmp 35)) none none, type := 38, pos := "sector.go:121", after := #[{ on := 2, ground := Ground.data }, { on := 3, ground := Ground.data }], guard := none }) (v := .slice (some ⟨cb, 64 * i + q, none⟩) (64 - q) (64 * sz - 64 * i - q)) rfl (by kernel_rfl) (by kernel_rfl) (by kernel_rfl) (fun _ _ _ h => h) (Or.inl ⟨by rfl, ?_⟩) h1 ?_
          · intro w' hSw
            go_simp
            intro hx
            omega
          simp only [Act.put, List.setIfInBounds_toArray, List.set_cons_zero, List.set_cons_succ]
          refine wpAnyH_ready (rs := [7]) (by kernel_rfl) (by simp) (AllReadyH.cons rfl (fun K hK => ?_) AllReadyH.nil)
          obtain ⟨W6, hrun, hd6, hg6, hm6⟩ := copy_sec (q := q) HD4.out h0.2.1 hisz hq1 HLE.out HLN.out
          have ho6 := h0.2.2.trans (Only.grown hg6 (show cb ∈ [fb, cb, mb] by simp))
          rw [← HNX.out] at hd6
          go_simp
          refine hK.out _ _ ⟨⟨_, hd6⟩, hm6, ho6⟩ (fun h2 => ?_)
          clear hK K
          have HD6 := Lib.hid hd6
          have HO6 := Lib.hid ho6
          clear hd6 hm6 ho6 h0 h1 h2
          refine wpAnyH_done (by kernel_rfl) ?_ _
          rename_i K7 hK7
          refine hK7 _ _ ?_
          go_wp2
          refine ⟨⟨j + 1, by omega, by go_num, HD6, HO6⟩, ?_⟩
          simp [intOf]; omega
        · have e64 : q = 64 := by omega
          subst e64
          have HNB := Lib.hid (show crTo bs du L ch (j + 1) = bj by rw [HNX.out]; exact tear_all HLE.out)
          by_cases hE : 64 * sz - 64 * i = 64
          · have HD4 := Lib.hid (show Dk W4.drew fb cb mb db sz a k bj n D from (HDR.out.below hb4).drew)
            have HO4 := Lib.hid (show CrashW w1 fb cb mb db sz a k n D G l W4.drew from ⟨⟨bj, HD4.out⟩, hm4, (HOR.out.trans (Only.of_below hb4)).drew⟩)
            clear hb4 hm4
            refine wp_region_held_drew (S := fun w' => CrashW w1 fb cb mb db sz a k n D G l w') (by kernel_rfl) HO4.out (fun h0 => ?_)
            refine wpAnyH_take (i := 0) (oi := { dst := some 32, op := Op.move (Operand.tmp 0), type := 24, pos := "sector.go:121", after := #[], guard := none }) (v := ptr db) rfl (by kernel_rfl) (by kernel_rfl) (by kernel_rfl) (fun _ _ _ h => h) (Or.inl ⟨by rfl, ?_⟩) h0 ?_
            · intro w' hSw
              go_simp
            simp only [Act.put, List.setIfInBounds_toArray, List.set_cons_zero, List.set_cons_succ]
            refine wpAnyH_take (i := 1) (oi := { dst := some 33, op := Op.move (Operand.tmp 5), type := TN, pos := "sector.go:121", after := #[], guard := none }) (v := .int .i64 (i : Int)) rfl (by kernel_rfl) (by kernel_rfl) (by kernel_rfl) (fun _ _ _ h => h) (Or.inl ⟨by rfl, ?_⟩) h0 ?_
            · intro w' hSw
              go_simp
            simp only [Act.put, List.setIfInBounds_toArray, List.set_cons_zero, List.set_cons_succ]
            refine wpAnyH_take (i := 3) (oi := { dst := some 35, op := Op.move (Operand.tmp 6), type := TN, pos := "sector.go:121", after := #[], guard := none }) (v := .int .i64 64) rfl (by kernel_rfl) (by kernel_rfl) (by kernel_rfl) (fun _ _ _ h => h) (Or.inl ⟨by rfl, ?_⟩) h0 ?_
            · intro w' hSw
              go_simp
            simp only [Act.put, List.setIfInBounds_toArray, List.set_cons_zero, List.set_cons_succ]
            refine wpAnyH_take (i := 5) (oi := { dst := some 37, op := Op.move (Operand.tmp 6), type := TN, pos := "sector.go:121", after := #[], guard := none }) (v := .int .i64 64) rfl (by kernel_rfl) (by kernel_rfl) (by kernel_rfl) (fun _ _ _ h => h) (Or.inl ⟨by rfl, ?_⟩) h0 ?_
            · intro w' hSw
              go_simp
            simp only [Act.put, List.setIfInBounds_toArray, List.set_cons_zero, List.set_cons_succ]
            refine wpAnyH_take (i := 6) (oi := { dst := some 38, op := Op.slice TA (Operand.tmp 7) (some (Operand.tmp 37)) none none, type := 38, pos := "sector.go:121", after := #[{ on := 5, ground := Ground.data }], guard := none }) (v := .slice (some ⟨G, 0, none⟩) 0 0) rfl (by kernel_rfl) (by kernel_rfl) (by kernel_rfl) (fun _ _ _ h => h) (Or.inl ⟨by rfl, ?_⟩) h0 ?_
            · intro w' hSw
              have hs := arr_slice_end G w'
              go_simp
            simp only [Act.put, List.setIfInBounds_toArray, List.set_cons_zero, List.set_cons_succ]
            refine wpAnyH_ready (rs := [2]) (by kernel_rfl) (by simp) (AllReadyH.cons rfl (fun K hK => ?_) AllReadyH.nil)
            go_simp
            refine (sector_any i hisz HD4.out).mono ?_
            rintro e w5 ⟨rfl, rfl⟩
            dsimp only
            refine hK.out _ _ h0 (fun h1 => ?_)
            clear hK K
            refine wpAnyH_take (i := 4) (oi := { dst := some 36, op := Op.slice 38 (Operand.tmp 34) (some (Operand.tmp 35)) none none, type := 38, pos := "sector.go:121", after := #[{ on := 2, ground := Ground.data }, { on := 3, ground := Ground.data }], guard := none }) (v := .slice (some ⟨cb, 64 * i, none⟩) 0 0) rfl (by kernel_rfl) (by kernel_rfl) (by kernel_rfl) (fun _ _ _ h => h) (Or.inl ⟨by rfl, ?_⟩) h1 ?_
            · intro w' hSw
              go_simp
            simp only [Act.put, List.setIfInBounds_toArray, List.set_cons_zero, List.set_cons_succ]
            refine wpAnyH_ready (rs := [7]) (by kernel_rfl) (by simp) (AllReadyH.cons rfl (fun K hK => ?_) AllReadyH.nil)
            have hrun := fun (d a : Option Addr) (c1 c2 : Nat) (ty : TypeId) => copy_nil (P := Try.prog) (w := W4.drew) Try.underlying38 (by kernel_rfl) ty d a c1 c2
            have hd6 := HD4.out
            have hm6 := h0.2.1
            have ho6 := h0.2.2
            rw [← HNB.out] at hd6
            go_simp
            refine hK.out _ _ ⟨⟨_, hd6⟩, hm6, ho6⟩ (fun h2 => ?_)
            clear hK K
            have HD6 := Lib.hid hd6
            have HO6 := Lib.hid ho6
            clear hd6 hm6 ho6 h0 h1 h2
            refine wpAnyH_done (by kernel_rfl) ?_ _
            rename_i K7 hK7
            refine hK7 _ _ ?_
            go_wp2
            refine ⟨⟨j + 1, by omega, by go_num, HD6, HO6⟩, ?_⟩
            simp [intOf]; omega
          · have HD4 := Lib.hid (show Dk W4.drew fb cb mb db sz a k bj n D from (HDR.out.below hb4).drew)
            have HO4 := Lib.hid (show CrashW w1 fb cb mb db sz a k n D G l W4.drew from ⟨⟨bj, HD4.out⟩, hm4, (HOR.out.trans (Only.of_below hb4)).drew⟩)
            clear hb4 hm4
            refine wp_region_held_drew (S := fun w' => CrashW w1 fb cb mb db sz a k n D G l w') (by kernel_rfl) HO4.out (fun h0 => ?_)
            refine wpAnyH_take (i := 0) (oi := { dst := some 32, op := Op.move (Operand.tmp 0), type := 24, pos := "sector.go:121", after := #[], guard := none }) (v := ptr db) rfl (by kernel_rfl) (by kernel_rfl) (by kernel_rfl) (fun _ _ _ h => h) (Or.inl ⟨by rfl, ?_⟩) h0 ?_
            · intro w' hSw
              go_simp
            simp only [Act.put, List.setIfInBounds_toArray, List.set_cons_zero, List.set_cons_succ]
            refine wpAnyH_take (i := 1) (oi := { dst := some 33, op := Op.move (Operand.tmp 5), type := TN, pos := "sector.go:121", after := #[], guard := none }) (v := .int .i64 (i : Int)) rfl (by kernel_rfl) (by kernel_rfl) (by kernel_rfl) (fun _ _ _ h => h) (Or.inl ⟨by rfl, ?_⟩) h0 ?_
            · intro w' hSw
              go_simp
            simp only [Act.put, List.setIfInBounds_toArray, List.set_cons_zero, List.set_cons_succ]
            refine wpAnyH_take (i := 3) (oi := { dst := some 35, op := Op.move (Operand.tmp 6), type := TN, pos := "sector.go:121", after := #[], guard := none }) (v := .int .i64 64) rfl (by kernel_rfl) (by kernel_rfl) (by kernel_rfl) (fun _ _ _ h => h) (Or.inl ⟨by rfl, ?_⟩) h0 ?_
            · intro w' hSw
              go_simp
            simp only [Act.put, List.setIfInBounds_toArray, List.set_cons_zero, List.set_cons_succ]
            refine wpAnyH_take (i := 5) (oi := { dst := some 37, op := Op.move (Operand.tmp 6), type := TN, pos := "sector.go:121", after := #[], guard := none }) (v := .int .i64 64) rfl (by kernel_rfl) (by kernel_rfl) (by kernel_rfl) (fun _ _ _ h => h) (Or.inl ⟨by rfl, ?_⟩) h0 ?_
            · intro w' hSw
              go_simp
            simp only [Act.put, List.setIfInBounds_toArray, List.set_cons_zero, List.set_cons_succ]
            refine wpAnyH_take (i := 6) (oi := { dst := some 38, op := Op.slice TA (Operand.tmp 7) (some (Operand.tmp 37)) none none, type := 38, pos := "sector.go:121", after := #[{ on := 5, ground := Ground.data }], guard := none }) (v := .slice (some ⟨G, 0, none⟩) 0 0) rfl (by kernel_rfl) (by kernel_rfl) (by kernel_rfl) (fun _ _ _ h => h) (Or.inl ⟨by rfl, ?_⟩) h0 ?_
            · intro w' hSw
              have hs := arr_slice_end G w'
              go_simp
            simp only [Act.put, List.setIfInBounds_toArray, List.set_cons_zero, List.set_cons_succ]
            refine wpAnyH_ready (rs := [2]) (by kernel_rfl) (by simp) (AllReadyH.cons rfl (fun K hK => ?_) AllReadyH.nil)
            go_simp
            refine (sector_any i hisz HD4.out).mono ?_
            rintro e w5 ⟨rfl, rfl⟩
            dsimp only
            refine hK.out _ _ h0 (fun h1 => ?_)
            clear hK K
            refine wpAnyH_take (i := 4) (oi := { dst := some 36, op := Op.slice 38 (Operand.tmp 34) (some (Operand.tmp 35)) none none, type := 38, pos := "sector.go:121", after := #[{ on := 2, ground := Ground.data }, { on := 3, ground := Ground.data }], guard := none }) (v := .slice (some ⟨cb, 64 * i + 64, none⟩) 0 (64 * sz - 64 * i - 64)) rfl (by kernel_rfl) (by kernel_rfl) (by kernel_rfl) (fun _ _ _ h => h) (Or.inl ⟨by rfl, ?_⟩) h1 ?_
            · intro w' hSw
              go_simp
            simp only [Act.put, List.setIfInBounds_toArray, List.set_cons_zero, List.set_cons_succ]
            refine wpAnyH_ready (rs := [7]) (by kernel_rfl) (by simp) (AllReadyH.cons rfl (fun K hK => ?_) AllReadyH.nil)
            have hrun := fun (d a : Option Addr) (c1 c2 : Nat) (ty : TypeId) => copy_nil (P := Try.prog) (w := W4.drew) Try.underlying38 (by kernel_rfl) ty d a c1 c2
            have hd6 := HD4.out
            have hm6 := h0.2.1
            have ho6 := h0.2.2
            rw [← HNB.out] at hd6
            go_simp
            refine hK.out _ _ ⟨⟨_, hd6⟩, hm6, ho6⟩ (fun h2 => ?_)
            clear hK K
            have HD6 := Lib.hid hd6
            have HO6 := Lib.hid ho6
            clear hd6 hm6 ho6 h0 h1 h2
            refine wpAnyH_done (by kernel_rfl) ?_ _
            rename_i K7 hK7
            refine hK7 _ _ ?_
            go_wp2
            refine ⟨⟨j + 1, by omega, by go_num, HD6, HO6⟩, ?_⟩
            simp [intOf]; omega
      · have HNX := Lib.hid (show crTo bs du L ch (j + 1) = tearS bj i 0 l by rw [HNX.out]; unfold keptS; rw [if_neg hjc])
        have hd2 : decide (j < ch.length) = false := by simp; omega
        clear hjc
        go_wp2_with (first
          | (refine wp_store_gen (B := wr.heap.size) (w0 := wr) (belowSelf wr _) (Nat.le_refl _) (Mem.newAt wr TA ((List.replicate 64 (0 : UInt8)).map byteV) rfl) (l.map byteV) TA (.tmp 7) (.tmp 31) rfl rfl rfl rfl (sz_sec l HLE.out) (by rw [List.length_map, List.length_map, HLE.out]; rfl) (one_sec l) ?_
             intro W4 hm4 hb4 hz4 hk4)
          | fail)
        obtain ⟨G, hG⟩ : ∃ G, G = wr.heap.size := ⟨_, rfl⟩
        rw [← hG] at hm4
        rw [← hG]
        clear hG hz4 hk4
        have HD4 := Lib.hid (show Dk W4.drew fb cb mb db sz a k bj n D from (HDR.out.below hb4).drew)
        have HO4 := Lib.hid (show CrashW w1 fb cb mb db sz a k n D G l W4.drew from ⟨⟨bj, HD4.out⟩, hm4, (HOR.out.trans (Only.of_below hb4)).drew⟩)
        clear hb4 hm4
        refine wp_region_held_drew (S := fun w' => CrashW w1 fb cb mb db sz a k n D G l w') (by kernel_rfl) HO4.out (fun h0 => ?_)
        refine wpAnyH_take (i := 0) (oi := { dst := some 32, op := Op.move (Operand.tmp 0), type := 24, pos := "sector.go:121", after := #[], guard := none }) (v := ptr db) rfl (by kernel_rfl) (by kernel_rfl) (by kernel_rfl) (fun _ _ _ h => h) (Or.inl ⟨by rfl, ?_⟩) h0 ?_
        · intro w' hSw
          go_simp
        simp only [Act.put, List.setIfInBounds_toArray, List.set_cons_zero, List.set_cons_succ]
        refine wpAnyH_take (i := 1) (oi := { dst := some 33, op := Op.move (Operand.tmp 5), type := TN, pos := "sector.go:121", after := #[], guard := none }) (v := .int .i64 (i : Int)) rfl (by kernel_rfl) (by kernel_rfl) (by kernel_rfl) (fun _ _ _ h => h) (Or.inl ⟨by rfl, ?_⟩) h0 ?_
        · intro w' hSw
          go_simp
        simp only [Act.put, List.setIfInBounds_toArray, List.set_cons_zero, List.set_cons_succ]
        refine wpAnyH_take (i := 3) (oi := { dst := some 35, op := Op.move (Operand.tmp 6), type := TN, pos := "sector.go:121", after := #[], guard := none }) (v := .int .i64 0) rfl (by kernel_rfl) (by kernel_rfl) (by kernel_rfl) (fun _ _ _ h => h) (Or.inl ⟨by rfl, ?_⟩) h0 ?_
        · intro w' hSw
          go_simp
        simp only [Act.put, List.setIfInBounds_toArray, List.set_cons_zero, List.set_cons_succ]
        refine wpAnyH_take (i := 5) (oi := { dst := some 37, op := Op.move (Operand.tmp 6), type := TN, pos := "sector.go:121", after := #[], guard := none }) (v := .int .i64 0) rfl (by kernel_rfl) (by kernel_rfl) (by kernel_rfl) (fun _ _ _ h => h) (Or.inl ⟨by rfl, ?_⟩) h0 ?_
        · intro w' hSw
          go_simp
        simp only [Act.put, List.setIfInBounds_toArray, List.set_cons_zero, List.set_cons_succ]
        refine wpAnyH_take (i := 6) (oi := { dst := some 38, op := Op.slice TA (Operand.tmp 7) (some (Operand.tmp 37)) none none, type := 38, pos := "sector.go:121", after := #[{ on := 5, ground := Ground.data }], guard := none }) (v := .slice (some ⟨G, 0, none⟩) 64 64) rfl (by kernel_rfl) (by kernel_rfl) (by kernel_rfl) (fun _ _ _ h => h) (Or.inl ⟨by rfl, ?_⟩) h0 ?_
        · intro w' hSw
          go_simp
        simp only [Act.put, List.setIfInBounds_toArray, List.set_cons_zero, List.set_cons_succ]
        refine wpAnyH_ready (rs := [2]) (by kernel_rfl) (by simp) (AllReadyH.cons rfl (fun K hK => ?_) AllReadyH.nil)
        go_simp
        refine (sector_any i hisz HD4.out).mono ?_
        rintro e w5 ⟨rfl, rfl⟩
        dsimp only
        refine hK.out _ _ h0 (fun h1 => ?_)
        clear hK K
        refine wpAnyH_take (i := 4) (oi := { dst := some 36, op := Op.slice 38 (Operand.tmp 34) (some (Operand.tmp 35)) none none, type := 38, pos := "sector.go:121", after := #[{ on := 2, ground := Ground.data }, { on := 3, ground := Ground.data }], guard := none }) (v := .slice (some ⟨cb, 64 * i, none⟩) 64 (64 * sz - 64 * i)) rfl (by kernel_rfl) (by kernel_rfl) (by kernel_rfl) (fun _ _ _ h => h) (Or.inl ⟨by rfl, ?_⟩) h1 ?_
        · intro w' hSw
          go_simp
        simp only [Act.put, List.setIfInBounds_toArray, List.set_cons_zero, List.set_cons_succ]
        refine wpAnyH_ready (rs := [7]) (by kernel_rfl) (by simp) (AllReadyH.cons rfl (fun K hK => ?_) AllReadyH.nil)
        obtain ⟨W6, hrun, hd6, hg6, hm6⟩ := copy_sec (q := 0) HD4.out h0.2.1 hisz (by omega) HLE.out HLN.out
        simp only [Nat.add_zero, Nat.sub_zero] at hrun
        have ho6 := h0.2.2.trans (Only.grown hg6 (show cb ∈ [fb, cb, mb] by simp))
        rw [← HNX.out] at hd6
        go_simp
        refine hK.out _ _ ⟨⟨_, hd6⟩, hm6, ho6⟩ (fun h2 => ?_)
        clear hK K
        have HD6 := Lib.hid hd6
        have HO6 := Lib.hid ho6
        clear hd6 hm6 ho6 h0 h1 h2
        refine wpAnyH_done (by kernel_rfl) ?_ _
        rename_i K7 hK7
        refine hK7 _ _ ?_
        go_wp2
        refine ⟨⟨j + 1, by omega, by go_num, HD6, HO6⟩, ?_⟩
        simp [intOf]; omega
    · have ek : j = L.length := by omega
      subst ek
      have c2 : wr.cell? ⟨db, 2, none⟩ = some (.map (some mb)) := HDR.out.d.cell 2
      obtain ⟨w2, hrun, hown, hg, hs2⟩ := run_clear_map HDR.out.m Try.underlying39
      have HD2 := Lib.hid (HDR.out.map hg hown)
      have HO2 := Lib.hid (HOR.out.trans (Only.grown hg (show mb ∈ [fb, cb, mb] by simp)))
      have c0 : w2.cell? ⟨db, 0, none⟩ = some (ptr fb) := HD2.out.d.cell 0
      clear hown hg hs2
      go_wp2_with fail
      refine (clear_any HD2.out).mono ?_
      rintro e w3 ⟨rfl, hd3, ho3, hs3⟩
      go_wp2_with fail
      go_end0
      exact ⟨rfl, hd3, (HO1.out.trans HO2.out).trans ho3⟩
end
end Go.Proofs.Ytjmmbafpiahhiaa

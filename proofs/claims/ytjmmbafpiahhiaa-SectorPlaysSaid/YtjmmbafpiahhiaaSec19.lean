/-
  Package sector: Spoil where the byte is there.
-/
import Derived.Test.YtjmmbafpiahhiaaSec18
namespace Go.Proofs.Ytjmmbafpiahhiaa
open Go.RowKit Go.Maps Go.Sort Go.Shelf Crv
theorem bent_cells {s : List UInt8} {p : Nat} {b : UInt8} : (s.map byteV).set p (byteV (s.getD p 0 ^^^ b)) = (bentL s p b).map byteV := by
  unfold bentL
  rw [List.map_set]
/-- What the region that stores into the map keeps. -/
def SpW (g db mb : Nat) (l : List UInt8) (W : World) : Prop := Mem W g TA (l.map byteV) ∧ W.cell? ⟨db, 2, none⟩ = some (.map (some mb))
section
variable {w : World} {fb cb mb db sz : Nat} {a : Bool} {k : Int} {bs : List UInt8} {n : Nat} {D : DataW Unit}
set_option maxRecDepth 100000 in
set_option maxHeartbeats 1000000 in
theorem spoil_ok (i p : Nat) (b : UInt8) (du : Tab) (hi : i < sz) (hp : p < 64) (hn : n < 1000000) (h : Dk w fb cb mb db sz a k bs n D) (hdu : Du D du sz) :
    Calls Try.prog 30 #[ptr db, .int .i64 (i : Int), .int .i64 (p : Int), .int .u8 (b.toNat : Int)] w fun e w' => e = .returned (.int .i64 0) ∧ (∃ n' D', n' ≤ n + 1 ∧ Dk w' fb cb mb db sz a k (bentL bs (64 * i + p) b) n' D' ∧ Du D' (bentT du i p b) sz) ∧ Only [fb, cb, mb] w w' := by
  have hm := h.most
  have HSI := Lib.hid (size_any h)
  have HSE := Lib.hid (sector_any i hi h)
  have H := Lib.hid h
  have HDU := Lib.hid hdu
  have HK := Lib.hid (key_of i (by omega))
  have hlen : 64 * i + p < bs.length := by rw [h.len]; omega
  have HMI := Lib.hid h.m.isMap
  have e1 : decide ((i : Int) < 0) = false := by simp
  have e2 : decide ((sz : Int) ≤ (i : Int)) = false := by simp; omega
  have e3 : decide ((p : Int) < 0) = false := by simp
  have e4 : decide ((64 : Int) ≤ (p : Int)) = false := by simp; omega
  have e5 : decide (p < 64) = true := by simpa using hp
  have cB : w.cell? ⟨cb, 64 * i + p, none⟩ = some (byteV (bs.getD (64 * i + p) 0)) := by
    rw [h.c.cell, List.getElem?_map, List.getD_eq_getElem?_getD, List.getElem?_eq_getElem hlen]
    rfl
  have fB := h.c.frozen (64 * i + p)
  obtain ⟨x, hx⟩ : ∃ x, x = bs.getD (64 * i + p) 0 := ⟨_, rfl⟩
  have hxr := sxor_u8 x b
  obtain ⟨c, hc⟩ : ∃ c, c = x ^^^ b := ⟨_, rfl⟩
  have HD1 := Lib.hid (show Dk (w.setCell ⟨cb, 64 * i + p, none⟩ (byteV c)) fb cb mb db sz a k (bentL bs (64 * i + p) b) n D from
    h.bytes (grown_cell (grownRefl w (some cb)) _ _) (by
      have hmm := h.c.set (64 * i + p) (byteV c)
      rw [hc, hx, bent_cells] at hmm
      rw [hc, hx]
      exact hmm) (length_bentL _ _ _))
  have HO1 := Lib.hid (Only.grown (S := [fb, cb, mb]) (grown_cell (grownRefl w (some cb)) (64 * i + p) (byteV c)) (by simp))
  rw [← hx] at cB
  rw [← hc] at hxr
  have hszW : (w.setCell ⟨cb, 64 * i + p, none⟩ (byteV c)).heap.size = w.heap.size := by simp [World.setCell]
  clear h hdu hx hc
  go_enter Try.func30, Try.ntmps30
  go_wp2_with fail
  refine HSI.out.mono ?_
  rintro e w1 ⟨rfl, rfl⟩
  go_wp2_with fail
  refine HSE.out.mono ?_
  rintro e w1 ⟨rfl, rfl⟩
  go_upto_region 4 with fail
  obtain ⟨W1, hW1⟩ : ∃ W, W = w.setCell ⟨cb, 64 * i + p, none⟩ (byteV c) := ⟨_, rfl⟩
  rw [← hW1] at HD1 HO1
  rw [show (Value.int IntKind.u8 (c.toNat : Int)) = byteV c from rfl, ← hW1]
  have c2 : W1.cell? ⟨db, 2, none⟩ = some (.map (some mb)) := HD1.out.d.cell 2
  clear hW1 cB fB HSI HSE hxr hszW
  have hhs := HDU.out.hasKey (i := i)
  cases hd : du i with
  | none =>
    rw [hd] at hhs
    have HBT := Lib.hid (bentT_none (p := p) (b := b) hd)
    clear hd
    go_wp2_with (first
      | (at_lookup; refine wpList_lookup_own_ok _ rfl _ _ TM rfl TN TA keyed_int Try.underlying39 secElem (zero_sec _) (secD (List.replicate 64 0)) [] (secElem_mk _ rfl) mb n D rfl HD1.out.m _ (key i) rfl HK.out ?_
         intro v ps hv
         obtain ⟨l, hl, rfl, _⟩ := secElem_inv hv
         have HL := Lib.hid hl
         rw [hhs]
         clear hv hl hhs)
      | (refine wp_store_gen (B := W1.heap.size) (w0 := W1) (belowSelf W1 _) (Nat.le_refl _) (Mem.newAt W1 TA ((List.replicate 64 (0 : UInt8)).map byteV) rfl) (l.map byteV) TA (.tmp 9) (.tmp 43) rfl rfl rfl rfl (sz_sec l HL.out) (by rw [List.length_map, List.length_map, HL.out]; rfl) (one_sec l) ?_
         intro W2 hm2 hb2 hz2 hk2
         have HB2 := Lib.hid hb2
         clear hm2 hb2 hz2 hk2)
      | fail)
    go_ret
    exact ⟨rfl, ⟨n, D, Nat.le_succ _, HD1.out.below HB2.out, by rw [HBT.out]; exact HDU.out⟩, HO1.out.trans (Only.of_below HB2.out)⟩
  | some l0 =>
    rw [hd] at hhs
    have HBT := Lib.hid (bentT_some (p := p) (b := b) hd)
    have HL0 := Lib.hid (HDU.out.look i l0 hd)
    have hl0 := HDU.out.len i l0 hd
    clear hd
    go_upto_region 6 with (first
      | (at_lookup; refine wpList_lookup_own_ok _ rfl _ _ TM rfl TN TA keyed_int Try.underlying39 secElem (zero_sec _) (secD (List.replicate 64 0)) [] (secElem_mk _ rfl) mb n D rfl HD1.out.m _ (key i) rfl HK.out ?_
         intro v ps hv
         obtain ⟨l, hl, rfl, hvl⟩ := secElem_inv hv
         have hll : l = l0 := by
           rw [HL0.out] at hvl
           injection hvl with hvl _
           injection hvl with hvl
           injection hvl with hvl
           exact hvl.symm
         subst hll
         rw [hhs]
         clear hv hl hhs hvl)
      | (refine wp_store_gen (B := W1.heap.size) (w0 := W1) (belowSelf W1 _) (Nat.le_refl _) (Mem.newAt W1 TA ((List.replicate 64 (0 : UInt8)).map byteV) rfl) (l.map byteV) TA (.tmp 9) (.tmp 43) rfl rfl rfl rfl (sz_sec l hl0) (by rw [List.length_map, List.length_map, hl0]; rfl) (one_sec l) ?_
         intro W2 hm2 hb2 hz2 hk2
         have HB2 := Lib.hid hb2
         have HM2 := Lib.hid hm2
         clear hm2 hb2 hz2 hk2)
      | fail)
    have cL : W2.cell? ⟨W1.heap.size, p, none⟩ = some (byteV (l.getD p 0)) := by
      rw [HM2.out.cell, List.getElem?_map, List.getD_eq_getElem?_getD, List.getElem?_eq_getElem (by omega)]
      rfl
    have fL := HM2.out.frozen p
    obtain ⟨y, hy⟩ : ∃ x, x = l.getD p 0 := ⟨_, rfl⟩
    have hyr := sxor_u8 y b
    obtain ⟨c', hc'⟩ : ∃ c, c = y ^^^ b := ⟨_, rfl⟩
    have HM3 := Lib.hid (show Mem (W2.setCell ⟨W1.heap.size, p, none⟩ (byteV c')) W1.heap.size TA ((bentL l p b).map byteV) by
      have hmm := HM2.out.set p (byteV c')
      rw [hc', hy, bent_cells] at hmm
      rw [hc', hy]
      exact hmm)
    have HB3 := Lib.hid (show Below W1.heap.size W1 (W2.setCell ⟨W1.heap.size, p, none⟩ (byteV c')) from below_cell HB2.out (Nat.le_refl _) _ _)
    rw [← hy] at cL
    rw [← hc'] at hyr
    clear hy hc'
    go_upto_region 7 with fail
    obtain ⟨W3, hW3⟩ : ∃ W, W = W2.setCell ⟨W1.heap.size, p, none⟩ (byteV c') := ⟨_, rfl⟩
    rw [← hW3] at HM3 HB3
    rw [show (Value.int IntKind.u8 (c'.toNat : Int)) = byteV c' from rfl, ← hW3]
    obtain ⟨l', hl'⟩ : ∃ x, x = bentL l p b := ⟨_, rfl⟩
    have HL' := Lib.hid (show l'.length = 64 by rw [hl', length_bentL]; exact hl0)
    rw [← hl'] at HM3 HBT
    have HD3 := Lib.hid ((HD1.out.below HB3.out).drew)
    have HS0 := Lib.hid (show SpW W1.heap.size db mb l' W3.drew from ⟨HM3.out.drew, HD3.out.d.cell 2⟩)
    clear hW3 cL fL hyr hl' hl0 c2
    refine wp_region_held_drew (S := SpW W1.heap.size db mb l') (by kernel_rfl) HS0.out (fun hHeld => ?_)
    refine wpAnyH_take (i := 0) (oi := { dst := some 52, op := Op.move (Operand.tmp 0), type := 24, pos := "sector.go:135", after := #[], guard := none }) (v := ptr db) rfl (by kernel_rfl) (by kernel_rfl) (by kernel_rfl) (fun _ _ _ h => h) (Or.inl ⟨by rfl, ?_⟩) hHeld ?_
    · intro w' hSw
      obtain ⟨z1, z2⟩ := hSw
      clear z1
      go_simp
    simp only [Act.put, List.setIfInBounds_toArray, List.set_cons_zero, List.set_cons_succ]
    refine wpAnyH_take (i := 1) (oi := { dst := some 53, op := Op.nilCheck (Operand.tmp 52), type := 0, pos := "sector.go:135", after := #[{ on := 0, ground := Ground.data }], guard := none }) (v := ptr db) rfl (by kernel_rfl) (by kernel_rfl) (by kernel_rfl) (fun _ _ _ h => h) (Or.inl ⟨by rfl, ?_⟩) hHeld ?_
    · intro w' hSw
      obtain ⟨z1, z2⟩ := hSw
      clear z1
      go_simp
    simp only [Act.put, List.setIfInBounds_toArray, List.set_cons_zero, List.set_cons_succ]
    refine wpAnyH_take (i := 2) (oi := { dst := some 54, op := Op.fieldAddr 41 (Operand.tmp 53) 2, type := 0, pos := "sector.go:135", after := #[{ on := 1, ground := Ground.data }], guard := none }) (v := .pointer (some ⟨db, 2, none⟩)) rfl (by kernel_rfl) (by kernel_rfl) (by kernel_rfl) (fun _ _ _ h => h) (Or.inl ⟨by rfl, ?_⟩) hHeld ?_
    · intro w' hSw
      obtain ⟨z1, z2⟩ := hSw
      clear z1
      go_simp
    simp only [Act.put, List.setIfInBounds_toArray, List.set_cons_zero, List.set_cons_succ]
    refine wpAnyH_take (i := 3) (oi := { dst := some 55, op := Op.load 39 (Operand.tmp 54), type := 39, pos := "sector.go:135", after := #[{ on := 2, ground := Ground.data }], guard := none }) (v := .map (some mb)) rfl (by kernel_rfl) (by kernel_rfl) (by kernel_rfl) (fun _ _ _ h => h) (Or.inl ⟨by rfl, ?_⟩) hHeld ?_
    · intro w' hSw
      obtain ⟨z1, z2⟩ := hSw
      clear z1
      go_simp
    simp only [Act.put, List.setIfInBounds_toArray, List.set_cons_zero, List.set_cons_succ]
    refine wpAnyH_take (i := 4) (oi := { dst := some 56, op := Op.move (Operand.tmp 1), type := 3, pos := "sector.go:135", after := #[], guard := none }) (v := .int .i64 (i : Int)) rfl (by kernel_rfl) (by kernel_rfl) (by kernel_rfl) (fun _ _ _ h => h) (Or.inl ⟨by rfl, ?_⟩) hHeld ?_
    · intro w' hSw
      obtain ⟨z1, z2⟩ := hSw
      clear z1
      go_simp
    simp only [Act.put, List.setIfInBounds_toArray, List.set_cons_zero, List.set_cons_succ]
    refine wpAnyH_take (i := 5) (oi := { dst := some 57, op := Op.load 74 (Operand.tmp 9), type := 74, pos := "sector.go:135", after := #[], guard := none }) (v := _) rfl (by kernel_rfl) (by kernel_rfl) (by kernel_rfl) (fun _ _ _ h => h) (yieldsIf_load_mid (by rfl) TA (.tmp 9) rfl W1.heap.size (0) rfl (l'.map byteV) (.array 64 TB) (fun w hS => hS.1.range 0 _ (List.prefix_refl _)) Try.underlying74 rfl (sz_sec l' HL'.out)) hHeld ?_
    simp only [Act.put, List.setIfInBounds_toArray, List.set_cons_zero, List.set_cons_succ]
    refine wpAnyH_ready (rs := [6]) (by kernel_rfl) (by simp) (AllReadyH.cons rfl (fun K hK => ?_) AllReadyH.nil)
    refine step_mapUpdate HD3.out.m keyed_int Try.underlying39 (by unfold maxLen; omega) (.tmp 55) (.tmp 56) (.tmp 57) TM rfl rfl rfl rfl rfl rfl HK.out (secElem_mk _ HL'.out) ?_
    intro W4 hown4 hg4
    have hd4 := HD3.out.map hg4 hown4
    have hne : W1.heap.size ≠ mb := HM3.out.ne_map HD3.out.m
    have hs4 : SpW W1.heap.size db mb l' W4 := ⟨HS0.out.1.grown hg4 (fun e => hne (by injection e)), hd4.d.cell 2⟩
    have ho4 : Only [fb, cb, mb] w W4 := (HO1.out.trans ((Only.of_below HB3.out).drew)).trans (Only.grown hg4 (show mb ∈ [fb, cb, mb] by simp))
    refine hK.out _ _ hs4 (fun hR => ?_)
    clear hK K
    refine wpAnyH_done (by kernel_rfl) ?_ _
    rename_i Kz hKz
    refine hKz _ _ ?_
    go_wp2_with fail
    go_ret
    exact ⟨rfl, ⟨n + 1, _, Nat.le_refl _, hd4, by rw [HBT.out]; exact HDU.out.again HMI.out hi HL'.out⟩, ho4⟩
end
end Go.Proofs.Ytjmmbafpiahhiaa

/-
  The document's disk: Crash.
-/
import Derived.Test.YtjmmbafpiahhiaaSRef7
namespace Go.Proofs.Ytjmmbafpiahhiaa
open Go.RowKit Go.Maps Crv
attribute [local go_sem] ByteArray.mk_append_mk
/-- What the region of Crash that draws its order keeps. -/
def CrS (w : World) (d : List Value) (g1 g2 q : Nat) (sr nw : List UInt8) (W : World) : Prop := Bx w W d zRd ∧ W.cell? ⟨g1, q, none⟩ = some (tx sr) ∧ W.cell? ⟨g2, q, none⟩ = some (tx nw)
theorem szs_below {w w' : World} {v : Value} {xs : List Int} (h : Zs w v xs) (hb : Below w.heap.size w w') : Zs w' v xs := h.only (S := []) (Only.of_below hb) (by simp)
theorem keptS_in {ch : List Int} {k : Nat} (h : k < ch.length) : ((keptS ch k : Nat) : Int) = min (max (ch.getD k 0) 0) 64 := by
  unfold keptS
  rw [if_pos h]
  omega
theorem keptS_out {ch : List Int} {k : Nat} (h : ¬ k < ch.length) : keptS ch k = 0 := by
  unfold keptS
  rw [if_neg h]
set_option maxRecDepth 100000 in
set_option maxHeartbeats 1500000 in
theorem rcrash_any (v : Value) (sz : Nat) (bs : List UInt8) (du : Tab) (f : Int) (cv : Value) (ch : List Int) (w : World) (h : Rf w v sz bs du f) (hv : Zs w cv ch) (hch : ch.length ≤ 9223372036854775807) (hs : sz ≤ 65536) (hb0 : bs.length = 64 * sz) (hL : ∀ i ∈ looseL du sz, i < sz ∧ ((du i).getD []).length = 64) :
    Calls Try.prog 19 #[v, cv] w fun e w' => ∃ v', e = .returned v' ∧ Rf w' v' sz (crTo bs du (looseL du sz) ch (looseL du sz).length) (fun _ => none) (-1) ∧ Below w.heap.size w w' := by
  obtain ⟨a1, a2, a3, c1, c2, c3, rfl, hS, hN, hLo⟩ := h
  have HX0 := Lib.hid (Bx.new w (rdC a1 a2 a3 c1 c2 c3 sz f) zRd)
  obtain ⟨tt, htt, htz, hts, htb⟩ := stext_info
  have HTT := Lib.hid htt
  have HTZ := Lib.hid htz
  have HTS := Lib.hid hts
  have HTB := Lib.hid (show tt.bytes ≤ 64 by omega)
  have HLE := Lib.hid (show ([] : List Value).length + ((rows (sureF bs du) sz).map tx).length ≤ 1099511627776 by rw [List.length_map, length_rows]; simp; omega)
  have HS := Lib.hid hS
  have HN := Lib.hid hN
  have HLo := Lib.hid hLo
  have HV := Lib.hid hv
  have HALL := Lib.hid (crF_all (ch := ch) hb0 hL)
  have HLEN := Lib.hid (show ∀ q, q < sz → (nowF bs q).length = 64 ∧ ((du q).isSome = true → sureF bs du q = (du q).getD [] ∧ ((du q).getD []).length = 64) from fun q hq => ⟨by unfold nowF; rw [length_rowS hb0 (by omega)], fun hd => ⟨by
    unfold sureF
    cases hq2 : du q with
    | none => rw [hq2] at hd; cases hd
    | some l => rfl, (hL q (mem_looseL.2 ⟨hq, hd⟩)).2⟩⟩)
  have HCR0 := Lib.hid (show rows (sureF bs du) sz = rows (crF bs du ch 0) sz from rows_congr fun q _ => by unfold crF; rw [if_neg (fun e => absurd e.1 (by omega))])
  obtain ⟨cd, cc, hcv, -⟩ := hv
  subst hcv
  have HO1 := Lib.hid (sowns_none ((w.alloc (.cells (rdC a1 a2 a3 c1 c2 c3 sz f).toArray TRd)).alloc (.cells zRd.toArray TRd)) TS (g := w.heap.size + 1 + 1) (B := w.heap.size + 1 + 1) (by simp) (Nat.le_refl _))
  have HN1 := Lib.hid (hS.below (belowThen HX0.out.b (belowSelf _ (.cells #[] TS))))
  have HBS := Lib.hid (show w.heap.size + 1 + 1 ≤ (((w.alloc (.cells (rdC a1 a2 a3 c1 c2 c3 sz f).toArray TRd)).alloc (.cells zRd.toArray TRd)).alloc (.cells #[] TS)).heap.size by simp)
  clear htt htz hts htb hS hN hLo hb0 hL
  go_enter Try.func19, Try.ntmps19
  go_wp2_with (first
    | (at_builtin; refine swp_append_all (base := w.heap.size + 1 + 1) HO1.out HN1.out (.tmp 9) (.tmp 11) 26 tt (.string ⟨#[]⟩) rfl rfl Try.underlying26 HTT.out HTZ.out HTS.out HTB.out rfl rfl rfl (sone_txs _) HLE.out HBS.out ?_
       intro v5 w5 ho5 hg5
       obtain ⟨a5, c5, hv5, -, -, -⟩ := ho5.form
       rw [List.nil_append, List.length_map, length_rows] at hv5
       subst hv5
       rw [List.nil_append, HCR0.out] at ho5
       have HX5 := Lib.hid (HX0.out.app hg5 (Nat.lt_succ_self _))
       have HO5 := Lib.hid ho5
       have n2 : w5.cell? ⟨w.heap.size, 1, none⟩ = some (.slice a2 sz c2) := HX5.out.d.cell 1
       clear ho5 hg5)
    | fail)
  go_loopw [6, 7, 8, 16] (fun k _ _ x wr => ∃ q : Nat, q ≤ sz ∧ x = .int .i64 (q : Int) ∧ k = .int .i64 (cntS du q : Int) ∧ Hid (Bx w wr (rdC a1 a2 a3 c1 c2 c3 sz f) zRd) ∧ Hid (Owns wr (w.heap.size + 1 + 1) TS (.slice a5 sz c5) ((rows (crF bs du ch q) sz).map tx))) (fun _ _ _ x _ => sz - (intOf x).toNat)
  case atStart => exact ⟨0, by omega, rfl, rfl, HX5, HO5⟩
  case round =>
    obtain ⟨q, hq, rfl, rfl, HX, HO⟩ := hrel
    clear HX5 HO5
    have hcq := cntS_le du q
    by_cases hlt : q < sz
    · have hd : decide (q < sz) = true := by simpa using hlt
      have n0 : wr.cell? ⟨w.heap.size, 0, none⟩ = some (.slice a1 sz c1) := HX.out.d.cell 0
      have n1 : wr.cell? ⟨w.heap.size, 1, none⟩ = some (.slice a2 sz c2) := HX.out.d.cell 1
      have n2' : wr.cell? ⟨w.heap.size, 2, none⟩ = some (.slice a3 sz c3) := HX.out.d.cell 2
      obtain ⟨gl, rfl, cL, -, -⟩ := own_cell (HLo.out.below HX.out.b) hlt
      have hcs := cntS_succ du q
      by_cases hlo : (du q).isSome = true
      · have hL1 : wr.cell? ⟨gl, q, none⟩ = some (.bool true) := by rw [cL, show looseF du q = true from hlo]
        rw [if_pos hlo] at hcs
        obtain ⟨g1, rfl, cS, -, -⟩ := own_cell (HS.out.below HX.out.b) hlt
        obtain ⟨g2, rfl, cN, -, -⟩ := own_cell (HN.out.below HX.out.b) hlt
        obtain ⟨_, h1e, -, h1s, -⟩ := own_cell HS.out hlt
        obtain ⟨_, h2e, -, h2s, -⟩ := own_cell HN.out hlt
        injection h1e with h1e
        injection h1e with h1e
        subst h1e
        injection h2e with h2e
        injection h2e with h2e
        subst h2e
        obtain ⟨g5, rfl, c5c, -, f5⟩ := own_cell HO.out hlt
        have h5b := (HO.out.lt g5 rfl).2
        have hln := HLEN.out q hlt
        have hls := hln.2 hlo
        have HT := Lib.hid (show tornF bs du ch q = (nowF bs q).take (keptS ch (cntS du q)) ++ (sureF bs du q).drop (keptS ch (cntS du q)) by
          unfold tornF
          rw [hls.1]
          rfl)
        have HSTEP := Lib.hid (crF_step (bs := bs) (du := du) (ch := ch) (sz := sz) (i := q) hlo)
        have hl1 : (nowF bs q).length = 64 := hln.1
        have hl2 : (sureF bs du q).length = 64 := by rw [hls.1]; exact hls.2
        have hkp := keptS_le ch (cntS du q)
        have HKI := Lib.hid (fun h => keptS_in (ch := ch) (k := cntS du q) h)
        have HKO := Lib.hid (fun h => keptS_out (ch := ch) (k := cntS du q) h)
        obtain ⟨kp, hkpe⟩ : ∃ x, x = keptS ch (cntS du q) := ⟨_, rfl⟩
        rw [← hkpe] at HT hkp HKI HKO
        obtain ⟨nw, hnw⟩ : ∃ x, x = nowF bs q := ⟨_, rfl⟩
        obtain ⟨sr, hsr⟩ : ∃ x, x = sureF bs du q := ⟨_, rfl⟩
        obtain ⟨tr, htr⟩ : ∃ x, x = tornF bs du ch q := ⟨_, rfl⟩
        obtain ⟨x5, hx5⟩ : ∃ x, x = crF bs du ch q q := ⟨_, rfl⟩
        rw [← hnw, ← hsr, ← htr] at HT
        rw [← hnw] at cN hl1
        rw [← hsr] at cS hl2
        rw [← htr] at HSTEP
        rw [← hx5] at c5c
        have hsl1 := fun W => slice_str_to (P := Try.prog) Try.underlying9 nw .i64 kp (by omega) W
        have hsl2 := fun W => slice_str_from (P := Try.prog) Try.underlying9 sr .i64 kp (by omega) W
        have hsz1 : (nw.take kp).length ≤ 64 := by rw [List.length_take]; omega
        have hsz2 : (sr.drop kp).length ≤ 64 := by rw [List.length_drop]; omega
        have HS0 := Lib.hid (show CrS w (rdC (some ⟨g1, 0, none⟩) (some ⟨g2, 0, none⟩) (some ⟨gl, 0, none⟩) c1 c2 c3 sz f) g1 g2 q sr nw wr.drew from ⟨HX.out.below (below_drewN (Below.refl _ _) 1), cS, cN⟩)
        have HSE := Lib.hid (show CrS w (rdC (some ⟨g1, 0, none⟩) (some ⟨g2, 0, none⟩) (some ⟨gl, 0, none⟩) c1 c2 c3 sz f) g1 g2 q sr nw (wr.drew.setCell ⟨g5, q, none⟩ (tx tr)) from
          ⟨(HX.out.below (below_drewN (Below.refl _ _) 1)).otherCell (by omega) _, by
            refine (World.cell?_of_block (Below.heap_setCell _ _ _ _ (fun e => ?_))).trans cS
            have e' : g1 = g5 := e
            omega, by
            refine (World.cell?_of_block (Below.heap_setCell _ _ _ _ (fun e => ?_))).trans cN
            have e' : g2 = g5 := e
            omega⟩)
        have HOE := Lib.hid (show Owns (wr.drew.setCell ⟨g5, q, none⟩ (tx tr)) (w.heap.size + 1 + 1) TS (.slice (some ⟨g5, 0, none⟩) sz c5) ((rows (crF bs du ch (q + 1)) sz).map tx) by
          have ho := (HO.out.below (below_drewN (Below.refl _ _) 1)).setAt (i := q) (tx tr)
          rw [← List.map_set, HSTEP.out] at ho
          exact ho)
        have HTR := Lib.hid (show nw.take kp ++ sr.drop kp = tr from HT.out.symm)
        clear cL hln hls hkpe hnw hsr htr hx5
        by_cases hk : cntS du q < ch.length
        · skip
          obtain ⟨ci, hci⟩ : ∃ x, x = ch.getD (cntS du q) 0 := ⟨_, rfl⟩
          obtain ⟨_, _, hze, hzc⟩ := szs_below HV.out HX.out.b
          injection hze with z1 z2 z3
          obtain ⟨gc, oc, hgc, hcc⟩ := hzc (cntS du q) hk
          rw [← z1] at hgc
          subst hgc
          rw [← hci] at hcc
          have hdk : decide (cntS du q < ch.length) = true := by simpa using hk
          have HMN := Lib.hid (show min (max ci 0) 64 = (kp : Int) by rw [hci]; exact (HKI.out hk).symm)
          clear z1 z2 z3 hzc hci
          go_upto_region 10 with (first
            | (refine wp_max0 (c := ci) (d := 0) (.tmp 32) (.const (.int .i64 0)) rfl rfl rfl rfl ?_)
            | (refine wp_min0 (c := max ci 0) (d := 64) (.tmp 33) (.const (.int .i64 64)) HMN.out rfl rfl rfl rfl ?_)
            | fail)
          refine wp_region_held_drew (S := CrS w (rdC (some ⟨g1, 0, none⟩) (some ⟨g2, 0, none⟩) (some ⟨gl, 0, none⟩) c1 c2 c3 sz f) g1 g2 q sr nw) (by kernel_rfl) HS0.out (fun hHeld => ?_)
          refine wpAnyH_take (i := 0) (oi := { dst := some 35, op := Op.move (Operand.tmp 5), type := 26, pos := "ref.go:114", after := #[], guard := none }) (v := .slice (some ⟨g5, 0, none⟩) sz c5) rfl (by kernel_rfl) (by kernel_rfl) (by kernel_rfl) (fun _ _ _ h => h) (Or.inl ⟨by rfl, ?_⟩) hHeld ?_
          · intro w' hSw
            obtain ⟨z1, z2, z3⟩ := hSw
            have y0 : w'.cell? ⟨w.heap.size, 0, none⟩ = some (.slice (some ⟨g1, 0, none⟩) sz c1) := z1.d.cell 0
            have y1 : w'.cell? ⟨w.heap.size, 1, none⟩ = some (.slice (some ⟨g2, 0, none⟩) sz c2) := z1.d.cell 1
            clear z1
            go_simp
          simp only [Act.put, List.setIfInBounds_toArray, List.set_cons_zero, List.set_cons_succ]
          refine wpAnyH_take (i := 1) (oi := { dst := some 36, op := Op.move (Operand.tmp 7), type := 3, pos := "ref.go:114", after := #[], guard := none }) (v := .int .i64 (q : Int)) rfl (by kernel_rfl) (by kernel_rfl) (by kernel_rfl) (fun _ _ _ h => h) (Or.inl ⟨by rfl, ?_⟩) hHeld ?_
          · intro w' hSw
            obtain ⟨z1, z2, z3⟩ := hSw
            have y0 : w'.cell? ⟨w.heap.size, 0, none⟩ = some (.slice (some ⟨g1, 0, none⟩) sz c1) := z1.d.cell 0
            have y1 : w'.cell? ⟨w.heap.size, 1, none⟩ = some (.slice (some ⟨g2, 0, none⟩) sz c2) := z1.d.cell 1
            clear z1
            go_simp
          simp only [Act.put, List.setIfInBounds_toArray, List.set_cons_zero, List.set_cons_succ]
          refine wpAnyH_take (i := 2) (oi := { dst := some 37, op := Op.fieldAddr 29 (Operand.tmp 2) 1, type := 0, pos := "ref.go:114", after := #[], guard := none }) (v := .pointer (some ⟨w.heap.size, 1, none⟩)) rfl (by kernel_rfl) (by kernel_rfl) (by kernel_rfl) (fun _ _ _ h => h) (Or.inl ⟨by rfl, ?_⟩) hHeld ?_
          · intro w' hSw
            obtain ⟨z1, z2, z3⟩ := hSw
            have y0 : w'.cell? ⟨w.heap.size, 0, none⟩ = some (.slice (some ⟨g1, 0, none⟩) sz c1) := z1.d.cell 0
            have y1 : w'.cell? ⟨w.heap.size, 1, none⟩ = some (.slice (some ⟨g2, 0, none⟩) sz c2) := z1.d.cell 1
            clear z1
            go_simp
          simp only [Act.put, List.setIfInBounds_toArray, List.set_cons_zero, List.set_cons_succ]
          refine wpAnyH_take (i := 3) (oi := { dst := some 38, op := Op.load 26 (Operand.tmp 37), type := 26, pos := "ref.go:114", after := #[{ on := 2, ground := Ground.data }], guard := none }) (v := .slice (some ⟨g2, 0, none⟩) sz c2) rfl (by kernel_rfl) (by kernel_rfl) (by kernel_rfl) (fun _ _ _ h => h) (Or.inl ⟨by rfl, ?_⟩) hHeld ?_
          · intro w' hSw
            obtain ⟨z1, z2, z3⟩ := hSw
            have y0 : w'.cell? ⟨w.heap.size, 0, none⟩ = some (.slice (some ⟨g1, 0, none⟩) sz c1) := z1.d.cell 0
            have y1 : w'.cell? ⟨w.heap.size, 1, none⟩ = some (.slice (some ⟨g2, 0, none⟩) sz c2) := z1.d.cell 1
            clear z1
            go_simp
          simp only [Act.put, List.setIfInBounds_toArray, List.set_cons_zero, List.set_cons_succ]
          refine wpAnyH_take (i := 4) (oi := { dst := some 39, op := Op.move (Operand.tmp 7), type := 3, pos := "ref.go:114", after := #[], guard := none }) (v := .int .i64 (q : Int)) rfl (by kernel_rfl) (by kernel_rfl) (by kernel_rfl) (fun _ _ _ h => h) (Or.inl ⟨by rfl, ?_⟩) hHeld ?_
          · intro w' hSw
            obtain ⟨z1, z2, z3⟩ := hSw
            have y0 : w'.cell? ⟨w.heap.size, 0, none⟩ = some (.slice (some ⟨g1, 0, none⟩) sz c1) := z1.d.cell 0
            have y1 : w'.cell? ⟨w.heap.size, 1, none⟩ = some (.slice (some ⟨g2, 0, none⟩) sz c2) := z1.d.cell 1
            clear z1
            go_simp
          simp only [Act.put, List.setIfInBounds_toArray, List.set_cons_zero, List.set_cons_succ]
          refine wpAnyH_take (i := 5) (oi := { dst := some 40, op := Op.indexAddr 26 (Operand.tmp 38) (Operand.tmp 39), type := 0, pos := "ref.go:114", after := #[{ on := 3, ground := Ground.data }, { on := 4, ground := Ground.data }], guard := none }) (v := .pointer (some ⟨g2, q, none⟩)) rfl (by kernel_rfl) (by kernel_rfl) (by kernel_rfl) (fun _ _ _ h => h) (Or.inl ⟨by rfl, ?_⟩) hHeld ?_
          · intro w' hSw
            obtain ⟨z1, z2, z3⟩ := hSw
            have y0 : w'.cell? ⟨w.heap.size, 0, none⟩ = some (.slice (some ⟨g1, 0, none⟩) sz c1) := z1.d.cell 0
            have y1 : w'.cell? ⟨w.heap.size, 1, none⟩ = some (.slice (some ⟨g2, 0, none⟩) sz c2) := z1.d.cell 1
            clear z1
            go_simp
          simp only [Act.put, List.setIfInBounds_toArray, List.set_cons_zero, List.set_cons_succ]
          refine wpAnyH_take (i := 6) (oi := { dst := some 41, op := Op.load 9 (Operand.tmp 40), type := 9, pos := "ref.go:114", after := #[{ on := 5, ground := Ground.data }], guard := none }) (v := .string (str nw)) rfl (by kernel_rfl) (by kernel_rfl) (by kernel_rfl) (fun _ _ _ h => h) (Or.inl ⟨by rfl, ?_⟩) hHeld ?_
          · intro w' hSw
            obtain ⟨z1, z2, z3⟩ := hSw
            have y0 : w'.cell? ⟨w.heap.size, 0, none⟩ = some (.slice (some ⟨g1, 0, none⟩) sz c1) := z1.d.cell 0
            have y1 : w'.cell? ⟨w.heap.size, 1, none⟩ = some (.slice (some ⟨g2, 0, none⟩) sz c2) := z1.d.cell 1
            clear z1
            go_simp
          simp only [Act.put, List.setIfInBounds_toArray, List.set_cons_zero, List.set_cons_succ]
          refine wpAnyH_take (i := 7) (oi := { dst := some 42, op := Op.move (Operand.tmp 8), type := 3, pos := "ref.go:114", after := #[], guard := none }) (v := .int .i64 (kp : Int)) rfl (by kernel_rfl) (by kernel_rfl) (by kernel_rfl) (fun _ _ _ h => h) (Or.inl ⟨by rfl, ?_⟩) hHeld ?_
          · intro w' hSw
            obtain ⟨z1, z2, z3⟩ := hSw
            have y0 : w'.cell? ⟨w.heap.size, 0, none⟩ = some (.slice (some ⟨g1, 0, none⟩) sz c1) := z1.d.cell 0
            have y1 : w'.cell? ⟨w.heap.size, 1, none⟩ = some (.slice (some ⟨g2, 0, none⟩) sz c2) := z1.d.cell 1
            clear z1
            go_simp
          simp only [Act.put, List.setIfInBounds_toArray, List.set_cons_zero, List.set_cons_succ]
          refine wpAnyH_take (i := 8) (oi := { dst := some 43, op := Op.slice 9 (Operand.tmp 41) none (some (Operand.tmp 42)) none, type := 9, pos := "ref.go:114", after := #[{ on := 6, ground := Ground.data }, { on := 7, ground := Ground.data }], guard := none }) (v := .string (str (nw.take kp))) rfl (by kernel_rfl) (by kernel_rfl) (by kernel_rfl) (fun _ _ _ h => h) (Or.inl ⟨by rfl, ?_⟩) hHeld ?_
          · intro w' hSw
            obtain ⟨z1, z2, z3⟩ := hSw
            have y0 : w'.cell? ⟨w.heap.size, 0, none⟩ = some (.slice (some ⟨g1, 0, none⟩) sz c1) := z1.d.cell 0
            have y1 : w'.cell? ⟨w.heap.size, 1, none⟩ = some (.slice (some ⟨g2, 0, none⟩) sz c2) := z1.d.cell 1
            clear z1
            go_simp
          simp only [Act.put, List.setIfInBounds_toArray, List.set_cons_zero, List.set_cons_succ]
          refine wpAnyH_take (i := 9) (oi := { dst := some 44, op := Op.fieldAddr 29 (Operand.tmp 2) 0, type := 0, pos := "ref.go:114", after := #[], guard := none }) (v := .pointer (some ⟨w.heap.size, 0, none⟩)) rfl (by kernel_rfl) (by kernel_rfl) (by kernel_rfl) (fun _ _ _ h => h) (Or.inl ⟨by rfl, ?_⟩) hHeld ?_
          · intro w' hSw
            obtain ⟨z1, z2, z3⟩ := hSw
            have y0 : w'.cell? ⟨w.heap.size, 0, none⟩ = some (.slice (some ⟨g1, 0, none⟩) sz c1) := z1.d.cell 0
            have y1 : w'.cell? ⟨w.heap.size, 1, none⟩ = some (.slice (some ⟨g2, 0, none⟩) sz c2) := z1.d.cell 1
            clear z1
            go_simp
          simp only [Act.put, List.setIfInBounds_toArray, List.set_cons_zero, List.set_cons_succ]
          refine wpAnyH_take (i := 10) (oi := { dst := some 45, op := Op.load 26 (Operand.tmp 44), type := 26, pos := "ref.go:114", after := #[{ on := 9, ground := Ground.data }], guard := none }) (v := .slice (some ⟨g1, 0, none⟩) sz c1) rfl (by kernel_rfl) (by kernel_rfl) (by kernel_rfl) (fun _ _ _ h => h) (Or.inl ⟨by rfl, ?_⟩) hHeld ?_
          · intro w' hSw
            obtain ⟨z1, z2, z3⟩ := hSw
            have y0 : w'.cell? ⟨w.heap.size, 0, none⟩ = some (.slice (some ⟨g1, 0, none⟩) sz c1) := z1.d.cell 0
            have y1 : w'.cell? ⟨w.heap.size, 1, none⟩ = some (.slice (some ⟨g2, 0, none⟩) sz c2) := z1.d.cell 1
            clear z1
            go_simp
          simp only [Act.put, List.setIfInBounds_toArray, List.set_cons_zero, List.set_cons_succ]
          refine wpAnyH_take (i := 11) (oi := { dst := some 46, op := Op.move (Operand.tmp 7), type := 3, pos := "ref.go:114", after := #[], guard := none }) (v := .int .i64 (q : Int)) rfl (by kernel_rfl) (by kernel_rfl) (by kernel_rfl) (fun _ _ _ h => h) (Or.inl ⟨by rfl, ?_⟩) hHeld ?_
          · intro w' hSw
            obtain ⟨z1, z2, z3⟩ := hSw
            have y0 : w'.cell? ⟨w.heap.size, 0, none⟩ = some (.slice (some ⟨g1, 0, none⟩) sz c1) := z1.d.cell 0
            have y1 : w'.cell? ⟨w.heap.size, 1, none⟩ = some (.slice (some ⟨g2, 0, none⟩) sz c2) := z1.d.cell 1
            clear z1
            go_simp
          simp only [Act.put, List.setIfInBounds_toArray, List.set_cons_zero, List.set_cons_succ]
          refine wpAnyH_take (i := 12) (oi := { dst := some 47, op := Op.indexAddr 26 (Operand.tmp 45) (Operand.tmp 46), type := 0, pos := "ref.go:114", after := #[{ on := 10, ground := Ground.data }, { on := 11, ground := Ground.data }], guard := none }) (v := .pointer (some ⟨g1, q, none⟩)) rfl (by kernel_rfl) (by kernel_rfl) (by kernel_rfl) (fun _ _ _ h => h) (Or.inl ⟨by rfl, ?_⟩) hHeld ?_
          · intro w' hSw
            obtain ⟨z1, z2, z3⟩ := hSw
            have y0 : w'.cell? ⟨w.heap.size, 0, none⟩ = some (.slice (some ⟨g1, 0, none⟩) sz c1) := z1.d.cell 0
            have y1 : w'.cell? ⟨w.heap.size, 1, none⟩ = some (.slice (some ⟨g2, 0, none⟩) sz c2) := z1.d.cell 1
            clear z1
            go_simp
          simp only [Act.put, List.setIfInBounds_toArray, List.set_cons_zero, List.set_cons_succ]
          refine wpAnyH_take (i := 13) (oi := { dst := some 48, op := Op.load 9 (Operand.tmp 47), type := 9, pos := "ref.go:114", after := #[{ on := 12, ground := Ground.data }], guard := none }) (v := .string (str sr)) rfl (by kernel_rfl) (by kernel_rfl) (by kernel_rfl) (fun _ _ _ h => h) (Or.inl ⟨by rfl, ?_⟩) hHeld ?_
          · intro w' hSw
            obtain ⟨z1, z2, z3⟩ := hSw
            have y0 : w'.cell? ⟨w.heap.size, 0, none⟩ = some (.slice (some ⟨g1, 0, none⟩) sz c1) := z1.d.cell 0
            have y1 : w'.cell? ⟨w.heap.size, 1, none⟩ = some (.slice (some ⟨g2, 0, none⟩) sz c2) := z1.d.cell 1
            clear z1
            go_simp
          simp only [Act.put, List.setIfInBounds_toArray, List.set_cons_zero, List.set_cons_succ]
          refine wpAnyH_take (i := 14) (oi := { dst := some 49, op := Op.move (Operand.tmp 8), type := 3, pos := "ref.go:114", after := #[], guard := none }) (v := .int .i64 (kp : Int)) rfl (by kernel_rfl) (by kernel_rfl) (by kernel_rfl) (fun _ _ _ h => h) (Or.inl ⟨by rfl, ?_⟩) hHeld ?_
          · intro w' hSw
            obtain ⟨z1, z2, z3⟩ := hSw
            have y0 : w'.cell? ⟨w.heap.size, 0, none⟩ = some (.slice (some ⟨g1, 0, none⟩) sz c1) := z1.d.cell 0
            have y1 : w'.cell? ⟨w.heap.size, 1, none⟩ = some (.slice (some ⟨g2, 0, none⟩) sz c2) := z1.d.cell 1
            clear z1
            go_simp
          simp only [Act.put, List.setIfInBounds_toArray, List.set_cons_zero, List.set_cons_succ]
          refine wpAnyH_take (i := 15) (oi := { dst := some 50, op := Op.slice 9 (Operand.tmp 48) (some (Operand.tmp 49)) none none, type := 9, pos := "ref.go:114", after := #[{ on := 13, ground := Ground.data }, { on := 14, ground := Ground.data }], guard := none }) (v := .string (str (sr.drop kp))) rfl (by kernel_rfl) (by kernel_rfl) (by kernel_rfl) (fun _ _ _ h => h) (Or.inl ⟨by rfl, ?_⟩) hHeld ?_
          · intro w' hSw
            obtain ⟨z1, z2, z3⟩ := hSw
            have y0 : w'.cell? ⟨w.heap.size, 0, none⟩ = some (.slice (some ⟨g1, 0, none⟩) sz c1) := z1.d.cell 0
            have y1 : w'.cell? ⟨w.heap.size, 1, none⟩ = some (.slice (some ⟨g2, 0, none⟩) sz c2) := z1.d.cell 1
            clear z1
            go_simp
          simp only [Act.put, List.setIfInBounds_toArray, List.set_cons_zero, List.set_cons_succ]
          refine wpAnyH_take (i := 16) (oi := { dst := some 51, op := Op.binOp BinOp.add 9 (Operand.tmp 43) (Operand.tmp 50) 9, type := 9, pos := "ref.go:114", after := #[{ on := 8, ground := Ground.data }, { on := 15, ground := Ground.data }], guard := none }) (v := .string (str tr)) rfl (by kernel_rfl) (by kernel_rfl) (by kernel_rfl) (fun _ _ _ h => h) (Or.inl ⟨by rfl, ?_⟩) hHeld ?_
          · intro w' hSw
            obtain ⟨z1, z2, z3⟩ := hSw
            have y0 : w'.cell? ⟨w.heap.size, 0, none⟩ = some (.slice (some ⟨g1, 0, none⟩) sz c1) := z1.d.cell 0
            have y1 : w'.cell? ⟨w.heap.size, 1, none⟩ = some (.slice (some ⟨g2, 0, none⟩) sz c2) := z1.d.cell 1
            clear z1
            (go_simp; exact HTR.out)
          simp only [Act.put, List.setIfInBounds_toArray, List.set_cons_zero, List.set_cons_succ]
          refine wpAnyH_take (i := 17) (oi := { dst := some 52, op := Op.indexAddr 26 (Operand.tmp 35) (Operand.tmp 36), type := 0, pos := "ref.go:114", after := #[{ on := 0, ground := Ground.data }, { on := 1, ground := Ground.data }, { on := 0, ground := Ground.phase }, { on := 1, ground := Ground.phase }, { on := 2, ground := Ground.phase }, { on := 3, ground := Ground.phase }, { on := 4, ground := Ground.phase }, { on := 5, ground := Ground.phase }, { on := 6, ground := Ground.phase }, { on := 7, ground := Ground.phase }, { on := 8, ground := Ground.phase }, { on := 9, ground := Ground.phase }, { on := 10, ground := Ground.phase }, { on := 11, ground := Ground.phase }, { on := 12, ground := Ground.phase }, { on := 13, ground := Ground.phase }, { on := 14, ground := Ground.phase }, { on := 15, ground := Ground.phase }, { on := 16, ground := Ground.phase }], guard := none }) (v := .pointer (some ⟨g5, q, none⟩)) rfl (by kernel_rfl) (by kernel_rfl) (by kernel_rfl) (fun _ _ _ h => h) (Or.inl ⟨by rfl, ?_⟩) hHeld ?_
          · intro w' hSw
            obtain ⟨z1, z2, z3⟩ := hSw
            have y0 : w'.cell? ⟨w.heap.size, 0, none⟩ = some (.slice (some ⟨g1, 0, none⟩) sz c1) := z1.d.cell 0
            have y1 : w'.cell? ⟨w.heap.size, 1, none⟩ = some (.slice (some ⟨g2, 0, none⟩) sz c2) := z1.d.cell 1
            clear z1
            go_simp
          simp only [Act.put, List.setIfInBounds_toArray, List.set_cons_zero, List.set_cons_succ]
          refine wpAnyH_ready (rs := [18]) (by kernel_rfl) (by simp) (AllReadyH.cons rfl (fun K hK => ?_) AllReadyH.nil)
          go_simp
          refine hK.out _ _ HSE.out (fun hR2 => ?_)
          clear hK K
          refine wpAnyH_done (by kernel_rfl) ?_ _
          rename_i Kz hKz
          refine hKz _ _ ?_
          go_wp2_with fail
          go_roundw
          case rel => exact ⟨q + 1, by omega, by go_num, by rw [hcs]; go_num, Lib.hid HSE.out.1, HOE⟩
          case measure => simp [intOf]; omega
        · skip
          have hdk : decide (cntS du q < ch.length) = false := by simpa using hk
          obtain rfl : kp = 0 := HKO.out hk
          have hts : tr = sr := by rw [HT.out, List.take_zero, List.drop_zero, List.nil_append]
          have HTR := Lib.hid (show sr = tr from hts.symm)
          have hsl1 : ∀ W, (Instr.slice 9 (.string (str nw)) none (some (.int .i64 0)) none).run Try.prog W = .ok (.string ⟨#[]⟩) W := fun W => slice_str_to (P := Try.prog) Try.underlying9 nw .i64 0 (Nat.zero_le _) W
          have hsl2 : ∀ W, (Instr.slice 9 (.string (str sr)) (some (.int .i64 0)) none none).run Try.prog W = .ok (.string (str sr)) W := fun W => slice_str_from (P := Try.prog) Try.underlying9 sr .i64 0 (Nat.zero_le _) W
          clear hts
          go_upto_region 10 with fail
          refine wp_region_held_drew (S := CrS w (rdC (some ⟨g1, 0, none⟩) (some ⟨g2, 0, none⟩) (some ⟨gl, 0, none⟩) c1 c2 c3 sz f) g1 g2 q sr nw) (by kernel_rfl) HS0.out (fun hHeld => ?_)
          refine wpAnyH_take (i := 0) (oi := { dst := some 35, op := Op.move (Operand.tmp 5), type := 26, pos := "ref.go:114", after := #[], guard := none }) (v := .slice (some ⟨g5, 0, none⟩) sz c5) rfl (by kernel_rfl) (by kernel_rfl) (by kernel_rfl) (fun _ _ _ h => h) (Or.inl ⟨by rfl, ?_⟩) hHeld ?_
          · intro w' hSw
            obtain ⟨z1, z2, z3⟩ := hSw
            have y0 : w'.cell? ⟨w.heap.size, 0, none⟩ = some (.slice (some ⟨g1, 0, none⟩) sz c1) := z1.d.cell 0
            have y1 : w'.cell? ⟨w.heap.size, 1, none⟩ = some (.slice (some ⟨g2, 0, none⟩) sz c2) := z1.d.cell 1
            clear z1
            go_simp
          simp only [Act.put, List.setIfInBounds_toArray, List.set_cons_zero, List.set_cons_succ]
          refine wpAnyH_take (i := 1) (oi := { dst := some 36, op := Op.move (Operand.tmp 7), type := 3, pos := "ref.go:114", after := #[], guard := none }) (v := .int .i64 (q : Int)) rfl (by kernel_rfl) (by kernel_rfl) (by kernel_rfl) (fun _ _ _ h => h) (Or.inl ⟨by rfl, ?_⟩) hHeld ?_
          · intro w' hSw
            obtain ⟨z1, z2, z3⟩ := hSw
            have y0 : w'.cell? ⟨w.heap.size, 0, none⟩ = some (.slice (some ⟨g1, 0, none⟩) sz c1) := z1.d.cell 0
            have y1 : w'.cell? ⟨w.heap.size, 1, none⟩ = some (.slice (some ⟨g2, 0, none⟩) sz c2) := z1.d.cell 1
            clear z1
            go_simp
          simp only [Act.put, List.setIfInBounds_toArray, List.set_cons_zero, List.set_cons_succ]
          refine wpAnyH_take (i := 2) (oi := { dst := some 37, op := Op.fieldAddr 29 (Operand.tmp 2) 1, type := 0, pos := "ref.go:114", after := #[], guard := none }) (v := .pointer (some ⟨w.heap.size, 1, none⟩)) rfl (by kernel_rfl) (by kernel_rfl) (by kernel_rfl) (fun _ _ _ h => h) (Or.inl ⟨by rfl, ?_⟩) hHeld ?_
          · intro w' hSw
            obtain ⟨z1, z2, z3⟩ := hSw
            have y0 : w'.cell? ⟨w.heap.size, 0, none⟩ = some (.slice (some ⟨g1, 0, none⟩) sz c1) := z1.d.cell 0
            have y1 : w'.cell? ⟨w.heap.size, 1, none⟩ = some (.slice (some ⟨g2, 0, none⟩) sz c2) := z1.d.cell 1
            clear z1
            go_simp
          simp only [Act.put, List.setIfInBounds_toArray, List.set_cons_zero, List.set_cons_succ]
          refine wpAnyH_take (i := 3) (oi := { dst := some 38, op := Op.load 26 (Operand.tmp 37), type := 26, pos := "ref.go:114", after := #[{ on := 2, ground := Ground.data }], guard := none }) (v := .slice (some ⟨g2, 0, none⟩) sz c2) rfl (by kernel_rfl) (by kernel_rfl) (by kernel_rfl) (fun _ _ _ h => h) (Or.inl ⟨by rfl, ?_⟩) hHeld ?_
          · intro w' hSw
            obtain ⟨z1, z2, z3⟩ := hSw
            have y0 : w'.cell? ⟨w.heap.size, 0, none⟩ = some (.slice (some ⟨g1, 0, none⟩) sz c1) := z1.d.cell 0
            have y1 : w'.cell? ⟨w.heap.size, 1, none⟩ = some (.slice (some ⟨g2, 0, none⟩) sz c2) := z1.d.cell 1
            clear z1
            go_simp
          simp only [Act.put, List.setIfInBounds_toArray, List.set_cons_zero, List.set_cons_succ]
          refine wpAnyH_take (i := 4) (oi := { dst := some 39, op := Op.move (Operand.tmp 7), type := 3, pos := "ref.go:114", after := #[], guard := none }) (v := .int .i64 (q : Int)) rfl (by kernel_rfl) (by kernel_rfl) (by kernel_rfl) (fun _ _ _ h => h) (Or.inl ⟨by rfl, ?_⟩) hHeld ?_
          · intro w' hSw
            obtain ⟨z1, z2, z3⟩ := hSw
            have y0 : w'.cell? ⟨w.heap.size, 0, none⟩ = some (.slice (some ⟨g1, 0, none⟩) sz c1) := z1.d.cell 0
            have y1 : w'.cell? ⟨w.heap.size, 1, none⟩ = some (.slice (some ⟨g2, 0, none⟩) sz c2) := z1.d.cell 1
            clear z1
            go_simp
          simp only [Act.put, List.setIfInBounds_toArray, List.set_cons_zero, List.set_cons_succ]
          refine wpAnyH_take (i := 5) (oi := { dst := some 40, op := Op.indexAddr 26 (Operand.tmp 38) (Operand.tmp 39), type := 0, pos := "ref.go:114", after := #[{ on := 3, ground := Ground.data }, { on := 4, ground := Ground.data }], guard := none }) (v := .pointer (some ⟨g2, q, none⟩)) rfl (by kernel_rfl) (by kernel_rfl) (by kernel_rfl) (fun _ _ _ h => h) (Or.inl ⟨by rfl, ?_⟩) hHeld ?_
          · intro w' hSw
            obtain ⟨z1, z2, z3⟩ := hSw
            have y0 : w'.cell? ⟨w.heap.size, 0, none⟩ = some (.slice (some ⟨g1, 0, none⟩) sz c1) := z1.d.cell 0
            have y1 : w'.cell? ⟨w.heap.size, 1, none⟩ = some (.slice (some ⟨g2, 0, none⟩) sz c2) := z1.d.cell 1
            clear z1
            go_simp
          simp only [Act.put, List.setIfInBounds_toArray, List.set_cons_zero, List.set_cons_succ]
          refine wpAnyH_take (i := 6) (oi := { dst := some 41, op := Op.load 9 (Operand.tmp 40), type := 9, pos := "ref.go:114", after := #[{ on := 5, ground := Ground.data }], guard := none }) (v := .string (str nw)) rfl (by kernel_rfl) (by kernel_rfl) (by kernel_rfl) (fun _ _ _ h => h) (Or.inl ⟨by rfl, ?_⟩) hHeld ?_
          · intro w' hSw
            obtain ⟨z1, z2, z3⟩ := hSw
            have y0 : w'.cell? ⟨w.heap.size, 0, none⟩ = some (.slice (some ⟨g1, 0, none⟩) sz c1) := z1.d.cell 0
            have y1 : w'.cell? ⟨w.heap.size, 1, none⟩ = some (.slice (some ⟨g2, 0, none⟩) sz c2) := z1.d.cell 1
            clear z1
            go_simp
          simp only [Act.put, List.setIfInBounds_toArray, List.set_cons_zero, List.set_cons_succ]
          refine wpAnyH_take (i := 7) (oi := { dst := some 42, op := Op.move (Operand.tmp 8), type := 3, pos := "ref.go:114", after := #[], guard := none }) (v := .int .i64 0) rfl (by kernel_rfl) (by kernel_rfl) (by kernel_rfl) (fun _ _ _ h => h) (Or.inl ⟨by rfl, ?_⟩) hHeld ?_
          · intro w' hSw
            obtain ⟨z1, z2, z3⟩ := hSw
            have y0 : w'.cell? ⟨w.heap.size, 0, none⟩ = some (.slice (some ⟨g1, 0, none⟩) sz c1) := z1.d.cell 0
            have y1 : w'.cell? ⟨w.heap.size, 1, none⟩ = some (.slice (some ⟨g2, 0, none⟩) sz c2) := z1.d.cell 1
            clear z1
            go_simp
          simp only [Act.put, List.setIfInBounds_toArray, List.set_cons_zero, List.set_cons_succ]
          refine wpAnyH_take (i := 8) (oi := { dst := some 43, op := Op.slice 9 (Operand.tmp 41) none (some (Operand.tmp 42)) none, type := 9, pos := "ref.go:114", after := #[{ on := 6, ground := Ground.data }, { on := 7, ground := Ground.data }], guard := none }) (v := .string ⟨#[]⟩) rfl (by kernel_rfl) (by kernel_rfl) (by kernel_rfl) (fun _ _ _ h => h) (Or.inl ⟨by rfl, ?_⟩) hHeld ?_
          · intro w' hSw
            obtain ⟨z1, z2, z3⟩ := hSw
            have y0 : w'.cell? ⟨w.heap.size, 0, none⟩ = some (.slice (some ⟨g1, 0, none⟩) sz c1) := z1.d.cell 0
            have y1 : w'.cell? ⟨w.heap.size, 1, none⟩ = some (.slice (some ⟨g2, 0, none⟩) sz c2) := z1.d.cell 1
            clear z1
            first | (go_simp; done) | (go_simp; rfl)
          simp only [Act.put, List.setIfInBounds_toArray, List.set_cons_zero, List.set_cons_succ]
          refine wpAnyH_take (i := 9) (oi := { dst := some 44, op := Op.fieldAddr 29 (Operand.tmp 2) 0, type := 0, pos := "ref.go:114", after := #[], guard := none }) (v := .pointer (some ⟨w.heap.size, 0, none⟩)) rfl (by kernel_rfl) (by kernel_rfl) (by kernel_rfl) (fun _ _ _ h => h) (Or.inl ⟨by rfl, ?_⟩) hHeld ?_
          · intro w' hSw
            obtain ⟨z1, z2, z3⟩ := hSw
            have y0 : w'.cell? ⟨w.heap.size, 0, none⟩ = some (.slice (some ⟨g1, 0, none⟩) sz c1) := z1.d.cell 0
            have y1 : w'.cell? ⟨w.heap.size, 1, none⟩ = some (.slice (some ⟨g2, 0, none⟩) sz c2) := z1.d.cell 1
            clear z1
            go_simp
          simp only [Act.put, List.setIfInBounds_toArray, List.set_cons_zero, List.set_cons_succ]
          refine wpAnyH_take (i := 10) (oi := { dst := some 45, op := Op.load 26 (Operand.tmp 44), type := 26, pos := "ref.go:114", after := #[{ on := 9, ground := Ground.data }], guard := none }) (v := .slice (some ⟨g1, 0, none⟩) sz c1) rfl (by kernel_rfl) (by kernel_rfl) (by kernel_rfl) (fun _ _ _ h => h) (Or.inl ⟨by rfl, ?_⟩) hHeld ?_
          · intro w' hSw
            obtain ⟨z1, z2, z3⟩ := hSw
            have y0 : w'.cell? ⟨w.heap.size, 0, none⟩ = some (.slice (some ⟨g1, 0, none⟩) sz c1) := z1.d.cell 0
            have y1 : w'.cell? ⟨w.heap.size, 1, none⟩ = some (.slice (some ⟨g2, 0, none⟩) sz c2) := z1.d.cell 1
            clear z1
            go_simp
          simp only [Act.put, List.setIfInBounds_toArray, List.set_cons_zero, List.set_cons_succ]
          refine wpAnyH_take (i := 11) (oi := { dst := some 46, op := Op.move (Operand.tmp 7), type := 3, pos := "ref.go:114", after := #[], guard := none }) (v := .int .i64 (q : Int)) rfl (by kernel_rfl) (by kernel_rfl) (by kernel_rfl) (fun _ _ _ h => h) (Or.inl ⟨by rfl, ?_⟩) hHeld ?_
          · intro w' hSw
            obtain ⟨z1, z2, z3⟩ := hSw
            have y0 : w'.cell? ⟨w.heap.size, 0, none⟩ = some (.slice (some ⟨g1, 0, none⟩) sz c1) := z1.d.cell 0
            have y1 : w'.cell? ⟨w.heap.size, 1, none⟩ = some (.slice (some ⟨g2, 0, none⟩) sz c2) := z1.d.cell 1
            clear z1
            go_simp
          simp only [Act.put, List.setIfInBounds_toArray, List.set_cons_zero, List.set_cons_succ]
          refine wpAnyH_take (i := 12) (oi := { dst := some 47, op := Op.indexAddr 26 (Operand.tmp 45) (Operand.tmp 46), type := 0, pos := "ref.go:114", after := #[{ on := 10, ground := Ground.data }, { on := 11, ground := Ground.data }], guard := none }) (v := .pointer (some ⟨g1, q, none⟩)) rfl (by kernel_rfl) (by kernel_rfl) (by kernel_rfl) (fun _ _ _ h => h) (Or.inl ⟨by rfl, ?_⟩) hHeld ?_
          · intro w' hSw
            obtain ⟨z1, z2, z3⟩ := hSw
            have y0 : w'.cell? ⟨w.heap.size, 0, none⟩ = some (.slice (some ⟨g1, 0, none⟩) sz c1) := z1.d.cell 0
            have y1 : w'.cell? ⟨w.heap.size, 1, none⟩ = some (.slice (some ⟨g2, 0, none⟩) sz c2) := z1.d.cell 1
            clear z1
            go_simp
          simp only [Act.put, List.setIfInBounds_toArray, List.set_cons_zero, List.set_cons_succ]
          refine wpAnyH_take (i := 13) (oi := { dst := some 48, op := Op.load 9 (Operand.tmp 47), type := 9, pos := "ref.go:114", after := #[{ on := 12, ground := Ground.data }], guard := none }) (v := .string (str sr)) rfl (by kernel_rfl) (by kernel_rfl) (by kernel_rfl) (fun _ _ _ h => h) (Or.inl ⟨by rfl, ?_⟩) hHeld ?_
          · intro w' hSw
            obtain ⟨z1, z2, z3⟩ := hSw
            have y0 : w'.cell? ⟨w.heap.size, 0, none⟩ = some (.slice (some ⟨g1, 0, none⟩) sz c1) := z1.d.cell 0
            have y1 : w'.cell? ⟨w.heap.size, 1, none⟩ = some (.slice (some ⟨g2, 0, none⟩) sz c2) := z1.d.cell 1
            clear z1
            go_simp
          simp only [Act.put, List.setIfInBounds_toArray, List.set_cons_zero, List.set_cons_succ]
          refine wpAnyH_take (i := 14) (oi := { dst := some 49, op := Op.move (Operand.tmp 8), type := 3, pos := "ref.go:114", after := #[], guard := none }) (v := .int .i64 0) rfl (by kernel_rfl) (by kernel_rfl) (by kernel_rfl) (fun _ _ _ h => h) (Or.inl ⟨by rfl, ?_⟩) hHeld ?_
          · intro w' hSw
            obtain ⟨z1, z2, z3⟩ := hSw
            have y0 : w'.cell? ⟨w.heap.size, 0, none⟩ = some (.slice (some ⟨g1, 0, none⟩) sz c1) := z1.d.cell 0
            have y1 : w'.cell? ⟨w.heap.size, 1, none⟩ = some (.slice (some ⟨g2, 0, none⟩) sz c2) := z1.d.cell 1
            clear z1
            go_simp
          simp only [Act.put, List.setIfInBounds_toArray, List.set_cons_zero, List.set_cons_succ]
          refine wpAnyH_take (i := 15) (oi := { dst := some 50, op := Op.slice 9 (Operand.tmp 48) (some (Operand.tmp 49)) none none, type := 9, pos := "ref.go:114", after := #[{ on := 13, ground := Ground.data }, { on := 14, ground := Ground.data }], guard := none }) (v := .string (str sr)) rfl (by kernel_rfl) (by kernel_rfl) (by kernel_rfl) (fun _ _ _ h => h) (Or.inl ⟨by rfl, ?_⟩) hHeld ?_
          · intro w' hSw
            obtain ⟨z1, z2, z3⟩ := hSw
            have y0 : w'.cell? ⟨w.heap.size, 0, none⟩ = some (.slice (some ⟨g1, 0, none⟩) sz c1) := z1.d.cell 0
            have y1 : w'.cell? ⟨w.heap.size, 1, none⟩ = some (.slice (some ⟨g2, 0, none⟩) sz c2) := z1.d.cell 1
            clear z1
            first | (go_simp; done) | (go_simp; rfl)
          simp only [Act.put, List.setIfInBounds_toArray, List.set_cons_zero, List.set_cons_succ]
          refine wpAnyH_take (i := 16) (oi := { dst := some 51, op := Op.binOp BinOp.add 9 (Operand.tmp 43) (Operand.tmp 50) 9, type := 9, pos := "ref.go:114", after := #[{ on := 8, ground := Ground.data }, { on := 15, ground := Ground.data }], guard := none }) (v := .string (str tr)) rfl (by kernel_rfl) (by kernel_rfl) (by kernel_rfl) (fun _ _ _ h => h) (Or.inl ⟨by rfl, ?_⟩) hHeld ?_
          · intro w' hSw
            obtain ⟨z1, z2, z3⟩ := hSw
            have y0 : w'.cell? ⟨w.heap.size, 0, none⟩ = some (.slice (some ⟨g1, 0, none⟩) sz c1) := z1.d.cell 0
            have y1 : w'.cell? ⟨w.heap.size, 1, none⟩ = some (.slice (some ⟨g2, 0, none⟩) sz c2) := z1.d.cell 1
            clear z1
            (go_simp; exact HTR.out)
          simp only [Act.put, List.setIfInBounds_toArray, List.set_cons_zero, List.set_cons_succ]
          refine wpAnyH_take (i := 17) (oi := { dst := some 52, op := Op.indexAddr 26 (Operand.tmp 35) (Operand.tmp 36), type := 0, pos := "ref.go:114", after := #[{ on := 0, ground := Ground.data }, { on := 1, ground := Ground.data }, { on := 0, ground := Ground.phase }, { on := 1, ground := Ground.phase }, { on := 2, ground := Ground.phase }, { on := 3, ground := Ground.phase }, { on := 4, ground := Ground.phase }, { on := 5, ground := Ground.phase }, { on := 6, ground := Ground.phase }, { on := 7, ground := Ground.phase }, { on := 8, ground := Ground.phase }, { on := 9, ground := Ground.phase }, { on := 10, ground := Ground.phase }, { on := 11, ground := Ground.phase }, { on := 12, ground := Ground.phase }, { on := 13, ground := Ground.phase }, { on := 14, ground := Ground.phase }, { on := 15, ground := Ground.phase }, { on := 16, ground := Ground.phase }], guard := none }) (v := .pointer (some ⟨g5, q, none⟩)) rfl (by kernel_rfl) (by kernel_rfl) (by kernel_rfl) (fun _ _ _ h => h) (Or.inl ⟨by rfl, ?_⟩) hHeld ?_
          · intro w' hSw
            obtain ⟨z1, z2, z3⟩ := hSw
            have y0 : w'.cell? ⟨w.heap.size, 0, none⟩ = some (.slice (some ⟨g1, 0, none⟩) sz c1) := z1.d.cell 0
            have y1 : w'.cell? ⟨w.heap.size, 1, none⟩ = some (.slice (some ⟨g2, 0, none⟩) sz c2) := z1.d.cell 1
            clear z1
            go_simp
          simp only [Act.put, List.setIfInBounds_toArray, List.set_cons_zero, List.set_cons_succ]
          refine wpAnyH_ready (rs := [18]) (by kernel_rfl) (by simp) (AllReadyH.cons rfl (fun K hK => ?_) AllReadyH.nil)
          go_simp
          refine hK.out _ _ HSE.out (fun hR2 => ?_)
          clear hK K
          refine wpAnyH_done (by kernel_rfl) ?_ _
          rename_i Kz hKz
          refine hKz _ _ ?_
          go_wp2_with fail
          go_roundw
          case rel => exact ⟨q + 1, by omega, by go_num, by rw [hcs]; go_num, Lib.hid HSE.out.1, HOE⟩
          case measure => simp [intOf]; omega
      · have hlo' : (du q).isSome = false := by simpa using hlo
        have hL1 : wr.cell? ⟨gl, q, none⟩ = some (.bool false) := by rw [cL, show looseF du q = false from hlo']
        rw [if_neg hlo] at hcs
        have HSK := Lib.hid (crF_skip (bs := bs) (du := du) (ch := ch) (sz := sz) (i := q) hlo')
        clear cL
        go_wp2_with fail
        go_roundw
        case rel => exact ⟨q + 1, by omega, by go_num, by rw [hcs]; rfl, HX, by rw [← HSK.out]; exact HO⟩
        case measure => simp [intOf]; omega
    · have eq : q = sz := by omega
      subst eq
      have hd : decide (q < q) = false := by simp
      rw [HALL.out] at HO
      obtain ⟨bs', hbs'⟩ : ∃ b, b = crTo bs du (looseL du q) ch (looseL du q).length := ⟨_, rfl⟩
      rw [← hbs'] at HO
      have HX6 := Lib.hid (HX.out.cellD 3 (.int .i64 (-1)))
      have HO6 := Lib.hid (HO.out.lowCell (g := w.heap.size) (i := 3) (u := .int .i64 (-1)) (by omega))
      have HSU := Lib.hid (rsure_n a1 a2 a3 a5 c1 c2 c3 q c5 q (-1) (rows (nowF bs') q) (w.heap.size + 1 + 1) (wr.setCell ⟨w.heap.size, 3, none⟩ (.int .i64 (-1))) HO6.out hs (length_rows _ _))
      obtain ⟨⟨k0, g0⟩, ⟨k1, g1⟩, ⟨k2, g2⟩, ⟨k3, g3⟩⟩ := mem4 HX.out.d
      have HBS' := Lib.hid hbs'
      clear hbs' n2
      go_wp2_with fail
      refine HSU.out.mono ?_
      rintro e w9 ⟨a6, c6, a7, c7, rfl, ho6, ho7, hb9⟩
      have HX9 := Lib.hid (HX6.out.below hb9)
      have HO9 := Lib.hid (HO6.out.below hb9)
      have HP6 := Lib.hid ho6
      have HP7 := Lib.hid ho7
      have hzr : w.heap.size + 1 < (wr.setCell ⟨w.heap.size, 3, none⟩ (.int .i64 (-1))).heap.size := HX6.out.r.lt
      obtain ⟨⟨r0, q0⟩, ⟨r1, q1⟩, ⟨r2, q2⟩, ⟨r3, q3⟩⟩ := mem4 HX9.out.r
      clear ho6 ho7 hb9 k0 g0 k1 g1 k2 g2 k3 g3 HSU
      go_wp2_with fail
      have hxf := HX9.out.putR (.slice a5 q c5) (.slice a6 q c6) (.slice a7 q c7) (.int .i64 (-1))
      refine bodyPost_ret (results_mem hxf.r rfl _ _ rfl Try.underlying29 rfl szRd) rfl ⟨_, rfl, ⟨a5, a6, a7, c5, c6, c7, rfl, ?_, ?_, ?_⟩, hxf.b⟩
      · rw [sure_none', ← HBS'.out]
        exact sowns_base (owns_put4 HO9.out (by omega) _ _ _ _) (Nat.zero_le _)
      · rw [← HBS'.out]
        exact sowns_base (owns_put4 HP6.out hzr _ _ _ _) (Nat.zero_le _)
      · rw [loose_none]
        exact sowns_base (owns_put4 HP7.out hzr _ _ _ _) (Nat.zero_le _)
end Go.Proofs.Ytjmmbafpiahhiaa

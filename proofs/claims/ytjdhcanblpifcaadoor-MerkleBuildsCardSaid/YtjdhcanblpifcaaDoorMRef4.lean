/-
  The reference's bytes of a node.
-/
import Derived.Test.YtjdhcanblpifcaaDoorMer5
namespace Go.Proofs.YtjdhcanblpifcaaDoor
open Go.RowKit Crv
attribute [local go_sem] ByteArray.mk_append_mk
theorem rtxt_take (ps : List Pt) (k : Nat) (h : k < ps.length) : (ps.take (k + 1)).flatMap ptTxt = (ps.take k).flatMap ptTxt ++ (ps[k].1 ++ numOf (nat0 ps[k].2)) := by
  rw [List.take_succ_eq_append_getElem h, List.flatMap_append]
  simp [ptTxt]
/-- A block's cells, and what lies below. -/
def TW (w : World) (t : TypeId) (cs : List Value) (g : Nat) (W : World) : Prop := Mem W g t cs ∧ Below w.heap.size w W
theorem TW.below {w : World} {t : TypeId} {cs : List Value} {g : Nat} {W W' : World} (h : TW w t cs g W) (hb : Below W.heap.size W W') : TW w t cs g W' := ⟨h.1.below hb h.1.lt, belowThen h.2 hb⟩
set_option maxRecDepth 100000 in
set_option maxHeartbeats 500000 in
theorem rtext_any (lv : Nat) (v : Value) (ps : List Pt) (w : World) (h : RPts w v ps) (hlv : lv ≤ 100) (hn : ps.length ≤ 8) (hp : ∀ p ∈ ps, p.1.length = 32 ∧ 0 ≤ p.2 ∧ p.2 ≤ 1000000000) :
    Calls Tryd.prog 69 #[.agg #[.int .i64 (lv : Int), v]] w fun e w' => e = .returned (.string (str (txtN lv ps))) ∧ Below w.heap.size w w' := by
  obtain ⟨a, cap, rfl, hcap, hc⟩ := h.form
  have HP := Lib.hid h
  have HPP := Lib.hid hp
  have HN1 := Lib.hid (fun W => refNum_any lv W (by omega))
  have HN2 := Lib.hid (fun W => refNum_any ps.length W (by omega))
  have HTX := Lib.hid (show txtN lv ps = numOf lv ++ numOf ps.length ++ (ps.take ps.length).flatMap ptTxt by rw [List.take_length]; unfold txtN nat0; simp)
  have hl1 := length_numOf (n := lv) (by omega)
  have hl2 := length_numOf (n := ps.length) (by omega)
  have hu1 : IntKind.u64.wrap (lv : Int) = (lv : Int) := IntWalk.u64_in _ (by omega)
  have hu2 : IntKind.u64.wrap (ps.length : Int) = (ps.length : Int) := IntWalk.u64_in _ (by omega)
  obtain ⟨t1, ht1⟩ : ∃ t, t = numOf lv := ⟨_, rfl⟩
  obtain ⟨t2, ht2⟩ : ∃ t, t = numOf ps.length := ⟨_, rfl⟩
  rw [← ht1] at HN1 HTX hl1
  rw [← ht2] at HN2 HTX hl2
  obtain ⟨W1, hW1⟩ : ∃ W, W = w.alloc (.cells #[.int .i64 (lv : Int), .slice a ps.length cap] Trn) := ⟨_, rfl⟩
  have HB := Lib.hid (show Below w.heap.size w W1 by rw [hW1]; exact belowSelf w _)
  have HM1 := Lib.hid (show Mem W1 w.heap.size Trn [.int .i64 (lv : Int), .slice a ps.length cap] by rw [hW1]; exact Mem.new w _ _)
  have HWW := Lib.hid hW1
  clear hc h hp ht1 ht2 hW1
  go_enter Tryd.func69, Tryd.ntmps69
  go_wp2_with fail
  rw [show w.alloc (.cells #[.int .i64 (lv : Int), .slice a ps.length cap] Trn) = W1 from HWW.out.symm]
  clear HWW
-- BEGIN1
  have HS0 := Lib.hid (show TW w Trn [.int .i64 (lv : Int), .slice a ps.length cap] w.heap.size W1.drew from ⟨HM1.out.drew, below_drewN HB.out 1⟩)
  refine wp_region_held_drew (S := TW w Trn [.int .i64 (lv : Int), .slice a ps.length cap] w.heap.size) (by kernel_rfl) HS0.out (fun hHeld => ?_)
  refine wpAnyH_take (i := 0) (oi := { dst := some 6, op := Op.fieldAddr 31 (Operand.tmp 1) 0, type := 0, pos := "ref.go:23", after := #[], guard := none }) (v := .pointer (some ⟨w.heap.size, 0, none⟩)) rfl (by kernel_rfl) (by kernel_rfl) (by kernel_rfl) (fun _ _ _ h => h) (Or.inl ⟨by rfl, ?_⟩) hHeld ?_
  · intro w' hSw
    obtain ⟨z1, -⟩ := hSw
    have y0 : w'.cell? ⟨w.heap.size, 0, none⟩ = some (.int .i64 (lv : Int)) := z1.cell 0
    have y1 : w'.cell? ⟨w.heap.size, 1, none⟩ = some (.slice a ps.length cap) := z1.cell 1
    clear z1
    go_simp
  simp only [Act.put, List.setIfInBounds_toArray, List.set_cons_zero, List.set_cons_succ]
  refine wpAnyH_take (i := 1) (oi := { dst := some 7, op := Op.load 3 (Operand.tmp 6), type := 3, pos := "ref.go:23", after := #[{ on := 0, ground := Ground.data }], guard := none }) (v := .int .i64 (lv : Int)) rfl (by kernel_rfl) (by kernel_rfl) (by kernel_rfl) (fun _ _ _ h => h) (Or.inl ⟨by rfl, ?_⟩) hHeld ?_
  · intro w' hSw
    obtain ⟨z1, -⟩ := hSw
    have y0 : w'.cell? ⟨w.heap.size, 0, none⟩ = some (.int .i64 (lv : Int)) := z1.cell 0
    have y1 : w'.cell? ⟨w.heap.size, 1, none⟩ = some (.slice a ps.length cap) := z1.cell 1
    clear z1
    go_simp
  simp only [Act.put, List.setIfInBounds_toArray, List.set_cons_zero, List.set_cons_succ]
  refine wpAnyH_take (i := 2) (oi := { dst := some 8, op := Op.convert 3 131 (Operand.tmp 7), type := 131, pos := "ref.go:23", after := #[{ on := 1, ground := Ground.data }], guard := none }) (v := .int .u64 (lv : Int)) rfl (by kernel_rfl) (by kernel_rfl) (by kernel_rfl) (fun _ _ _ h => h) (Or.inl ⟨by rfl, ?_⟩) hHeld ?_
  · intro w' hSw
    obtain ⟨z1, -⟩ := hSw
    have y0 : w'.cell? ⟨w.heap.size, 0, none⟩ = some (.int .i64 (lv : Int)) := z1.cell 0
    have y1 : w'.cell? ⟨w.heap.size, 1, none⟩ = some (.slice a ps.length cap) := z1.cell 1
    clear z1
    go_simp
  simp only [Act.put, List.setIfInBounds_toArray, List.set_cons_zero, List.set_cons_succ]
  refine wpAnyH_take (i := 4) (oi := { dst := some 10, op := Op.fieldAddr 31 (Operand.tmp 1) 1, type := 0, pos := "ref.go:23", after := #[], guard := none }) (v := .pointer (some ⟨w.heap.size, 1, none⟩)) rfl (by kernel_rfl) (by kernel_rfl) (by kernel_rfl) (fun _ _ _ h => h) (Or.inl ⟨by rfl, ?_⟩) hHeld ?_
  · intro w' hSw
    obtain ⟨z1, -⟩ := hSw
    have y0 : w'.cell? ⟨w.heap.size, 0, none⟩ = some (.int .i64 (lv : Int)) := z1.cell 0
    have y1 : w'.cell? ⟨w.heap.size, 1, none⟩ = some (.slice a ps.length cap) := z1.cell 1
    clear z1
    go_simp
  simp only [Act.put, List.setIfInBounds_toArray, List.set_cons_zero, List.set_cons_succ]
  refine wpAnyH_take (i := 5) (oi := { dst := some 11, op := Op.load 29 (Operand.tmp 10), type := 29, pos := "ref.go:23", after := #[{ on := 4, ground := Ground.data }], guard := none }) (v := .slice a ps.length cap) rfl (by kernel_rfl) (by kernel_rfl) (by kernel_rfl) (fun _ _ _ h => h) (Or.inl ⟨by rfl, ?_⟩) hHeld ?_
  · intro w' hSw
    obtain ⟨z1, -⟩ := hSw
    have y0 : w'.cell? ⟨w.heap.size, 0, none⟩ = some (.int .i64 (lv : Int)) := z1.cell 0
    have y1 : w'.cell? ⟨w.heap.size, 1, none⟩ = some (.slice a ps.length cap) := z1.cell 1
    clear z1
    go_simp
  simp only [Act.put, List.setIfInBounds_toArray, List.set_cons_zero, List.set_cons_succ]
  refine wpAnyH_take (i := 6) (oi := { dst := some 12, op := Op.call { callee := Callee.builtin Builtin.len, args := #[Operand.tmp 11], argTypes := #[29] }, type := 3, pos := "ref.go:23", after := #[{ on := 5, ground := Ground.data }], guard := none }) (v := .int .i64 (ps.length : Int)) rfl (by kernel_rfl) (by kernel_rfl) (by kernel_rfl) (fun _ _ _ h => h) (Or.inl ⟨by rfl, ?_⟩) hHeld ?_
  · intro w' hSw
    obtain ⟨z1, -⟩ := hSw
    have y0 : w'.cell? ⟨w.heap.size, 0, none⟩ = some (.int .i64 (lv : Int)) := z1.cell 0
    have y1 : w'.cell? ⟨w.heap.size, 1, none⟩ = some (.slice a ps.length cap) := z1.cell 1
    clear z1
    go_simp
  simp only [Act.put, List.setIfInBounds_toArray, List.set_cons_zero, List.set_cons_succ]
  refine wpAnyH_take (i := 7) (oi := { dst := some 13, op := Op.convert 3 131 (Operand.tmp 12), type := 131, pos := "ref.go:23", after := #[{ on := 6, ground := Ground.data }], guard := none }) (v := .int .u64 (ps.length : Int)) rfl (by kernel_rfl) (by kernel_rfl) (by kernel_rfl) (fun _ _ _ h => h) (Or.inl ⟨by rfl, ?_⟩) hHeld ?_
  · intro w' hSw
    obtain ⟨z1, -⟩ := hSw
    have y0 : w'.cell? ⟨w.heap.size, 0, none⟩ = some (.int .i64 (lv : Int)) := z1.cell 0
    have y1 : w'.cell? ⟨w.heap.size, 1, none⟩ = some (.slice a ps.length cap) := z1.cell 1
    clear z1
    go_simp
  simp only [Act.put, List.setIfInBounds_toArray, List.set_cons_zero, List.set_cons_succ]
  refine wpAnyH_ready (rs := [3]) (by kernel_rfl) (by simp) (AllReadyH.cons rfl (fun K hK => ?_) AllReadyH.nil)
  go_simp
  refine (HN1.out _).mono ?_
  rintro e w2 ⟨rfl, hb2⟩
  dsimp only
  have HS1 := Lib.hid (HS0.out.below hb2)
  refine hK.out _ _ HS1.out (fun hH1 => ?_)
  clear hK K hb2
  refine wpAnyH_ready (rs := [8]) (by kernel_rfl) (by simp) (AllReadyH.cons rfl (fun K hK => ?_) AllReadyH.nil)
  go_simp
  refine (HN2.out _).mono ?_
  rintro e w3 ⟨rfl, hb3⟩
  dsimp only
  have HS2 := Lib.hid (HS1.out.below hb3)
  refine hK.out _ _ HS2.out (fun hH2 => ?_)
  clear hK K hb3
  refine wpAnyH_take (i := 9) (oi := { dst := some 15, op := Op.binOp BinOp.add 9 (Operand.tmp 9) (Operand.tmp 14) 9, type := 9, pos := "ref.go:23", after := #[{ on := 3, ground := Ground.data }, { on := 8, ground := Ground.data }], guard := none }) (v := .string (str (t1 ++ t2))) rfl (by kernel_rfl) (by kernel_rfl) (by kernel_rfl) (fun _ _ _ h => h) (Or.inl ⟨by rfl, ?_⟩) hH2 ?_
  · intro w' hSw
    obtain ⟨z1, -⟩ := hSw
    have y0 : w'.cell? ⟨w.heap.size, 0, none⟩ = some (.int .i64 (lv : Int)) := z1.cell 0
    have y1 : w'.cell? ⟨w.heap.size, 1, none⟩ = some (.slice a ps.length cap) := z1.cell 1
    clear z1
    go_simp; omega
  simp only [Act.put, List.setIfInBounds_toArray, List.set_cons_zero, List.set_cons_succ]
  refine wpAnyH_ready (rs := [10]) (by kernel_rfl) (by simp) (AllReadyH.cons rfl (fun K hK => ?_) AllReadyH.nil)
  go_simp
  refine hK.out _ _ HS2.out (fun hH3 => ?_)
  clear hK K
  refine wpAnyH_done (by kernel_rfl) ?_ _
  clear hHeld hH1 hH2 hH3 HS0 HS1 HN1 HN2
  rename_i Kz hKz
  refine hKz _ _ ?_
-- END1
  have n1 : w3.cell? ⟨w.heap.size, 1, none⟩ = some (.slice a ps.length cap) := HS2.out.1.cell 1
  go_wp2_with fail
  clear n1
  go_loopw [3, 19] (fun s i wr => ∃ k : Nat, k ≤ ps.length ∧ i = .int .i64 k ∧ s = .string (str (t1 ++ t2 ++ (ps.take k).flatMap ptTxt)) ∧ ((ps.take k).flatMap ptTxt).length ≤ 41 * k ∧ Hid (TW w Trn [.int .i64 (lv : Int), .slice a ps.length cap] w.heap.size wr)) (fun _ i _ => ps.length - (intOf i).toNat)
  case atStart => exact ⟨0, by omega, rfl, by simp, by simp, HS2⟩
  case round =>
    obtain ⟨k, hk, rfl, rfl, hlen, HBW⟩ := hrel
    by_cases hlt : k < ps.length
    · obtain ⟨a', cap', hv', -, hc'⟩ := (HP.out.below HBW.out.2).form
      injection hv' with h1 h2 h3
      obtain ⟨g, off, ha, hgl, hx0, hx1⟩ := hc' k hlt
      rw [← h1] at ha
      subst ha
      have hpk := HPP.out _ (List.getElem_mem hlt)
      have HST := Lib.hid (rtxt_take ps k hlt)
      obtain ⟨x, z, hp⟩ : ∃ x z, ps[k] = (x, z) := ⟨_, _, rfl⟩
      rw [hp] at hx0 hx1 HST hpk
      simp only at hx0 hx1 HST hpk
      obtain ⟨hx32, hz0, hz1⟩ := hpk
      obtain ⟨q, rfl⟩ := Int.eq_ofNat_of_zero_le hz0
      have HN3 := Lib.hid (fun W => refNum_any q W (by omega))
      have hl3 := length_numOf (n := q) (by omega)
      have hu3 : IntKind.u64.wrap (q : Int) = (q : Int) := IntWalk.u64_in _ (by omega)
      rw [nat0_top q] at HST
      obtain ⟨t, ht⟩ : ∃ t, t = numOf q := ⟨_, rfl⟩
      rw [← ht] at HN3 HST hl3
      have HS := Lib.hid (show t1 ++ t2 ++ (ps.take (k + 1)).flatMap ptTxt = (t1 ++ t2 ++ (ps.take k).flatMap ptTxt) ++ (x ++ t) by rw [HST.out]; simp)
      have hln : ((ps.take (k + 1)).flatMap ptTxt).length ≤ 41 * (k + 1) := by rw [HST.out, List.length_append, List.length_append]; omega
      have hsl : (t1 ++ t2 ++ (ps.take k).flatMap ptTxt).length ≤ 400 := by rw [List.length_append, List.length_append]; omega
      obtain ⟨s, hs⟩ : ∃ s, s = t1 ++ t2 ++ (ps.take k).flatMap ptTxt := ⟨_, rfl⟩
      rw [← hs] at HS hsl ⊢
      have hdk : decide (k < ps.length) = true := by simpa using hlt
      clear hp h1 h2 h3 hc' hs ht HST hlen
      go_wp2_with fail
-- BEGIN2
      have HS0 := Lib.hid (show TW w Trp [.string (str x), .int .i64 (q : Int)] wr.heap.size (wr.alloc (.cells #[.string (str x), .int .i64 (q : Int)] Trp)).drew from ⟨(Mem.new wr Trp [.string (str x), .int .i64 (q : Int)]).drew, below_drewN (belowThen HBW.out.2 (belowSelf wr _)) 1⟩)
      refine wp_region_held_drew (S := TW w Trp [.string (str x), .int .i64 (q : Int)] wr.heap.size) (by kernel_rfl) HS0.out (fun hHeld => ?_)
      refine wpAnyH_take (i := 0) (oi := { dst := some 23, op := Op.move (Operand.tmp 3), type := 9, pos := "ref.go:25", after := #[], guard := none }) (v := .string (str s)) rfl (by kernel_rfl) (by kernel_rfl) (by kernel_rfl) (fun _ _ _ h => h) (Or.inl ⟨by rfl, ?_⟩) hHeld ?_
      · intro w' hSw
        obtain ⟨z1, -⟩ := hSw
        have y0 : w'.cell? ⟨wr.heap.size, 0, none⟩ = some (.string (str x)) := z1.cell 0
        have y1 : w'.cell? ⟨wr.heap.size, 1, none⟩ = some (.int .i64 (q : Int)) := z1.cell 1
        clear z1
        go_simp
      simp only [Act.put, List.setIfInBounds_toArray, List.set_cons_zero, List.set_cons_succ]
      refine wpAnyH_take (i := 1) (oi := { dst := some 24, op := Op.fieldAddr 48 (Operand.tmp 5) 0, type := 0, pos := "ref.go:25", after := #[], guard := none }) (v := .pointer (some ⟨wr.heap.size, 0, none⟩)) rfl (by kernel_rfl) (by kernel_rfl) (by kernel_rfl) (fun _ _ _ h => h) (Or.inl ⟨by rfl, ?_⟩) hHeld ?_
      · intro w' hSw
        obtain ⟨z1, -⟩ := hSw
        have y0 : w'.cell? ⟨wr.heap.size, 0, none⟩ = some (.string (str x)) := z1.cell 0
        have y1 : w'.cell? ⟨wr.heap.size, 1, none⟩ = some (.int .i64 (q : Int)) := z1.cell 1
        clear z1
        go_simp
      simp only [Act.put, List.setIfInBounds_toArray, List.set_cons_zero, List.set_cons_succ]
      refine wpAnyH_take (i := 2) (oi := { dst := some 25, op := Op.load 9 (Operand.tmp 24), type := 9, pos := "ref.go:25", after := #[{ on := 1, ground := Ground.data }], guard := none }) (v := .string (str x)) rfl (by kernel_rfl) (by kernel_rfl) (by kernel_rfl) (fun _ _ _ h => h) (Or.inl ⟨by rfl, ?_⟩) hHeld ?_
      · intro w' hSw
        obtain ⟨z1, -⟩ := hSw
        have y0 : w'.cell? ⟨wr.heap.size, 0, none⟩ = some (.string (str x)) := z1.cell 0
        have y1 : w'.cell? ⟨wr.heap.size, 1, none⟩ = some (.int .i64 (q : Int)) := z1.cell 1
        clear z1
        go_simp
      simp only [Act.put, List.setIfInBounds_toArray, List.set_cons_zero, List.set_cons_succ]
      refine wpAnyH_take (i := 3) (oi := { dst := some 26, op := Op.fieldAddr 48 (Operand.tmp 5) 1, type := 0, pos := "ref.go:25", after := #[], guard := none }) (v := .pointer (some ⟨wr.heap.size, 1, none⟩)) rfl (by kernel_rfl) (by kernel_rfl) (by kernel_rfl) (fun _ _ _ h => h) (Or.inl ⟨by rfl, ?_⟩) hHeld ?_
      · intro w' hSw
        obtain ⟨z1, -⟩ := hSw
        have y0 : w'.cell? ⟨wr.heap.size, 0, none⟩ = some (.string (str x)) := z1.cell 0
        have y1 : w'.cell? ⟨wr.heap.size, 1, none⟩ = some (.int .i64 (q : Int)) := z1.cell 1
        clear z1
        go_simp
      simp only [Act.put, List.setIfInBounds_toArray, List.set_cons_zero, List.set_cons_succ]
      refine wpAnyH_take (i := 4) (oi := { dst := some 27, op := Op.load 3 (Operand.tmp 26), type := 3, pos := "ref.go:25", after := #[{ on := 3, ground := Ground.data }], guard := none }) (v := .int .i64 (q : Int)) rfl (by kernel_rfl) (by kernel_rfl) (by kernel_rfl) (fun _ _ _ h => h) (Or.inl ⟨by rfl, ?_⟩) hHeld ?_
      · intro w' hSw
        obtain ⟨z1, -⟩ := hSw
        have y0 : w'.cell? ⟨wr.heap.size, 0, none⟩ = some (.string (str x)) := z1.cell 0
        have y1 : w'.cell? ⟨wr.heap.size, 1, none⟩ = some (.int .i64 (q : Int)) := z1.cell 1
        clear z1
        go_simp
      simp only [Act.put, List.setIfInBounds_toArray, List.set_cons_zero, List.set_cons_succ]
      refine wpAnyH_take (i := 5) (oi := { dst := some 28, op := Op.convert 3 131 (Operand.tmp 27), type := 131, pos := "ref.go:25", after := #[{ on := 4, ground := Ground.data }], guard := none }) (v := .int .u64 (q : Int)) rfl (by kernel_rfl) (by kernel_rfl) (by kernel_rfl) (fun _ _ _ h => h) (Or.inl ⟨by rfl, ?_⟩) hHeld ?_
      · intro w' hSw
        obtain ⟨z1, -⟩ := hSw
        have y0 : w'.cell? ⟨wr.heap.size, 0, none⟩ = some (.string (str x)) := z1.cell 0
        have y1 : w'.cell? ⟨wr.heap.size, 1, none⟩ = some (.int .i64 (q : Int)) := z1.cell 1
        clear z1
        go_simp
      simp only [Act.put, List.setIfInBounds_toArray, List.set_cons_zero, List.set_cons_succ]
      refine wpAnyH_ready (rs := [6]) (by kernel_rfl) (by simp) (AllReadyH.cons rfl (fun K hK => ?_) AllReadyH.nil)
      go_simp
      refine (HN3.out _).mono ?_
      rintro e w5 ⟨rfl, hb5⟩
      dsimp only
      have HS1 := Lib.hid (HS0.out.below hb5)
      have HBW5 := Lib.hid (show TW w Trn [.int .i64 (lv : Int), .slice (some ⟨g, off, none⟩) ps.length cap] w.heap.size w5 from (HBW.out.below (below_drewN (belowSelf wr _) 1)).below hb5)
      refine hK.out _ _ HS1.out (fun hH1 => ?_)
      clear hK K hb5
      refine wpAnyH_take (i := 7) (oi := { dst := some 30, op := Op.binOp BinOp.add 9 (Operand.tmp 25) (Operand.tmp 29) 9, type := 9, pos := "ref.go:25", after := #[{ on := 2, ground := Ground.data }, { on := 6, ground := Ground.data }], guard := none }) (v := .string (str (x ++ t))) rfl (by kernel_rfl) (by kernel_rfl) (by kernel_rfl) (fun _ _ _ h => h) (Or.inl ⟨by rfl, ?_⟩) hH1 ?_
      · intro w' hSw
        obtain ⟨z1, -⟩ := hSw
        have y0 : w'.cell? ⟨wr.heap.size, 0, none⟩ = some (.string (str x)) := z1.cell 0
        have y1 : w'.cell? ⟨wr.heap.size, 1, none⟩ = some (.int .i64 (q : Int)) := z1.cell 1
        clear z1
        go_simp; omega
      simp only [Act.put, List.setIfInBounds_toArray, List.set_cons_zero, List.set_cons_succ]
      refine wpAnyH_take (i := 8) (oi := { dst := some 31, op := Op.binOp BinOp.add 9 (Operand.tmp 23) (Operand.tmp 30) 9, type := 9, pos := "ref.go:25", after := #[{ on := 0, ground := Ground.data }, { on := 7, ground := Ground.data }], guard := none }) (v := .string (str (s ++ (x ++ t)))) rfl (by kernel_rfl) (by kernel_rfl) (by kernel_rfl) (fun _ _ _ h => h) (Or.inl ⟨by rfl, ?_⟩) hH1 ?_
      · intro w' hSw
        obtain ⟨z1, -⟩ := hSw
        have y0 : w'.cell? ⟨wr.heap.size, 0, none⟩ = some (.string (str x)) := z1.cell 0
        have y1 : w'.cell? ⟨wr.heap.size, 1, none⟩ = some (.int .i64 (q : Int)) := z1.cell 1
        clear z1
        go_simp; omega
      simp only [Act.put, List.setIfInBounds_toArray, List.set_cons_zero, List.set_cons_succ]
      refine wpAnyH_ready (rs := [9]) (by kernel_rfl) (by simp) (AllReadyH.cons rfl (fun K hK => ?_) AllReadyH.nil)
      go_simp
      refine hK.out _ _ HS1.out (fun hH2 => ?_)
      clear hK K
      refine wpAnyH_done (by kernel_rfl) ?_ _
      clear hHeld hH1 hH2 HS0 HS1 HN3
      rename_i Kz hKz
      refine hKz _ _ ?_
-- END2
      go_wp2_with fail
      go_roundw
      case rel => exact ⟨k + 1, by omega, by go_num, by rw [HS.out], hln, HBW5⟩
      case measure => simp [intOf]; omega
    · have ek : k = ps.length := by omega
      subst ek
      have hdk : decide (ps.length < ps.length) = false := by simp
      rw [← HTX.out]
      go_wp2_with fail
      go_ret
      exact ⟨rfl, HBW.out.2⟩
end Go.Proofs.YtjdhcanblpifcaaDoor

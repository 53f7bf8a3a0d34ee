/-
  The reference of layer 9: Parse.
-/
import Derived.Test.YtjdhcanblpifcaaDoorMer4
namespace Go.Proofs.YtjdhcanblpifcaaDoor
open Go.RowKit Crv

abbrev Trn : TypeId := 31
/-- The parts as the reference reads them, as far as no error came. -/
theorem part1_name {s : BSt} (h : s.2 = 0) (h1 : (part1 s).1.2 = 0) : nameOf (bytesS s 32).2 = (bytesS s 32).2 := by
  by_cases hb : (bytesS s 32).1.2 = 0
  · exact nameOf_of _ (bytesS_len h 32 hb).1
  · exfalso
    unfold part1 at h1
    simp only at h1
    rw [intS_err' (bytesS_okay (.inl h) 32) hb] at h1
    exact hb h1
/-- What the reference has read behind k parts: the names as they stood in the bytes. -/
def rptS (s : BSt) : Nat → List Pt
  | 0 => []
  | k + 1 => rptS s k ++ [((bytesS (ptsS s k).1 32).2, ((intS (bytesS (ptsS s k).1 32).1 32768).2 : Int))]
theorem length_rptS (s : BSt) : ∀ k, (rptS s k).length = k
  | 0 => rfl
  | k + 1 => by simp [rptS, length_rptS s k]
theorem ptsS_zero {s : BSt} (h : s.2 = 0) : ∀ {k : Nat}, (ptsS s k).1.2 = 0 → ∀ j, j ≤ k → (ptsS s j).1.2 = 0 := by
  intro k hk j hj
  by_cases he : (ptsS s j).1.2 = 0
  · exact he
  · have := ptsS_stay (.inl h) he (k - j)
    rw [show j + (k - j) = k from by omega] at this
    rw [this] at hk
    exact hk
theorem rptS_eq {s : BSt} (h : s.2 = 0) : ∀ k, (ptsS s k).1.2 = 0 → rptS s k = (ptsS s k).2
  | 0, _ => rfl
  | k + 1, hk => by
    have h1 := ptsS_zero h hk k (by omega)
    have h2 := part1_name h1 hk
    show rptS s k ++ _ = (ptsS s k).2 ++ [(part1 (ptsS s k).1).2]
    rw [rptS_eq h k h1]
    congr 2
    unfold part1
    simp only
    rw [h2]
/-- The memory of the reference's Parse. -/
def RPW (w0 : World) (bb nb : Nat) (lv : Int) (s : BSt) (k : Nat) (v : Value) (w : World) : Prop :=
  Mem w nb Trn [.int .i64 lv, v] ∧ Rw w (nb + 1) Trp 2 v ((rptS s k).map rpC) ∧ Mem w bb Trb (rC (ptsS s k).1) ∧ Mem w w0.heap.size Trn [.int .i64 0, .slice none 0 0] ∧ Below w0.heap.size w0 w ∧ w0.heap.size < bb ∧ bb < nb
theorem RPW.below {w0 w w' : World} {bb nb : Nat} {lv : Int} {s : BSt} {k : Nat} {v : Value} (h : RPW w0 bb nb lv s k v w) (hb : Below w.heap.size w w') : RPW w0 bb nb lv s k v w' :=
  ⟨h.1.below hb h.1.lt, h.2.1.below hb, h.2.2.1.below hb h.2.2.1.lt, h.2.2.2.1.below hb h.2.2.2.1.lt, belowThen h.2.2.2.2.1 hb, h.2.2.2.2.2⟩
set_option maxRecDepth 100000 in
set_option maxHeartbeats 500000 in
theorem rparse_any (l : List UInt8) (w : World) :
    Calls Tryd.prog 10 #[.string (str l)] w fun e w' => ∃ v, e = .returned (.tuple #[.agg #[.int .i64 (parseN l).1, v], .int .i64 (parseN l).2.2]) ∧ RPts w' v (parseN l).2.1 ∧ Below w.heap.size w w' := by
  obtain ⟨ip, hip, hiz, hisz, hiby⟩ : ∃ i, Tryd.prog.info? Trp = some i ∧ i.zero = some (.agg #[.string (str []), .int .i64 0]) ∧ i.size = 2 ∧ i.bytes = 24 := info_of (by kernel_rfl)
  have HIP := Lib.hid hip
  have HIZ := Lib.hid hiz
  have HISZ := Lib.hid hisz
  have HIBY := Lib.hid hiby
  clear hip hiz hisz hiby
  have hI1 : (intS (l, 0) 8).2 ≤ 8 := Nat.le_trans (intS_le (l, 0) 8) (by decide)
  have HRI1 := Lib.hid (fun W => rbInt_any (l, 0) (okay_open l) 8 (by omega) W)
  have HOK1 := Lib.hid (intS_okay (okay_open l) 8)
  obtain ⟨s1, lv, e1⟩ : ∃ s n, intS (l, 0) 8 = (s, n) := ⟨_, _, rfl⟩
  rw [show ((8 : Nat) : Int) = 8 from rfl, e1] at HRI1
  rw [e1] at hI1 HOK1
  simp only at hI1 HOK1 HRI1
  have hI2 : (intS s1 8).2 ≤ 8 := Nat.le_trans (intS_le s1 8) (by decide)
  have HRI2 := Lib.hid (fun W => rbInt_any s1 HOK1.out 8 (by omega) W)
  have HOK2 := Lib.hid (intS_okay HOK1.out 8)
  have HZ2 := Lib.hid (show (intS s1 8).1.2 ≠ 0 → (intS s1 8).2 = 0 by
    intro hne
    by_cases he : s1.2 = 0
    · obtain ⟨a, b⟩ := s1
      simp only at he
      subst he
      unfold intS at hne ⊢
      split at hne
      · rename_i hc
        rw [if_pos hc]
      · rename_i hc
        rw [if_neg hc]
        exact (numS_err a hne).1
    · rw [intS_err' HOK1.out he])
  obtain ⟨s2, cnt, e2⟩ : ∃ s n, intS s1 8 = (s, n) := ⟨_, _, rfl⟩
  rw [show ((8 : Nat) : Int) = 8 from rfl, e2] at HRI2
  rw [e2] at hI2 HOK2 HZ2
  simp only at hI2 HOK2 HRI2 HZ2
  have HPD := Lib.hid (parseN_eq e1 e2)
  clear e1 e2
  go_enter Tryd.func10, Tryd.ntmps10
  go_wp2_with fail
  refine (HRI1.out _).mono ?_
  rintro e w1 ⟨rfl, hb1⟩
  have HM1 := Lib.hid (show Mem w1 w.heap.size Trn [.int .i64 0, .slice none 0 0] from (Mem.new w Trn [.int .i64 0, .slice none 0 0]).below hb1 (by simp))
  have HB1 := Lib.hid (show Below w.heap.size w w1 from (belowSelf w _).trans (hb1.mono (by simp)))
  have hsw1 : w.heap.size < w1.heap.size := HM1.out.lt
  obtain ⟨bb, hbb⟩ : ∃ n, n = w1.heap.size := ⟨_, rfl⟩
  obtain ⟨W2, hW2⟩ : ∃ W, W = w1.alloc (.cells #[.string (str s1.1), .int .i64 s1.2] Trb) := ⟨_, rfl⟩
  have HBB2 := Lib.hid (show Mem W2 bb Trb (rC s1) by rw [hW2, hbb]; exact Mem.new w1 Trb (rC s1))
  have HM2 := Lib.hid (show Mem W2 w.heap.size Trn [.int .i64 0, .slice none 0 0] by rw [hW2]; exact HM1.out.alloc _)
  have HB2 := Lib.hid (show Below w.heap.size w W2 by rw [hW2]; exact belowThen HB1.out (belowSelf w1 _))
  have HWW2 := Lib.hid hW2
  rw [← hbb] at hsw1
  clear hb1 HRI1 HM1 HB1 hW2
  go_wp2_with fail
  rw [show w1.alloc (.cells #[.string (str s1.1), .int .i64 s1.2] Trb) = W2 from HWW2.out.symm, ← hbb]
  clear hbb
  refine (HRI2.out _).mono ?_
  rintro e w3 ⟨rfl, hb3⟩
  have HBB3 := Lib.hid (HBB2.out.below hb3 HBB2.out.lt)
  have HM3 := Lib.hid (HM2.out.below hb3 HM2.out.lt)
  have HB3 := Lib.hid (belowThen HB2.out hb3)
  have hsb3 : bb < w3.heap.size := HBB3.out.lt
  obtain ⟨c0, c1, f0, f1⟩ := memTwo HBB3.out
  obtain ⟨W4, hW4⟩ : ∃ W, W = (w3.setCell ⟨bb, 0, none⟩ (.string (str s2.1))).setCell ⟨bb, 1, none⟩ (.int .i64 s2.2) := ⟨_, rfl⟩
  have hsz4 : W4.heap.size = w3.heap.size := by rw [hW4]; simp
  have HBB4 := Lib.hid (show Mem W4 bb Trb (rC s2) by rw [hW4]; exact (HBB3.out.set 0 (.string (str s2.1))).set 1 (.int .i64 s2.2))
  have HM4 := Lib.hid (show Mem W4 w.heap.size Trn [.int .i64 0, .slice none 0 0] by rw [hW4]; exact (HM3.out.other (by simp; omega) _).other (by simp; omega) _)
  have HB4 := Lib.hid (show Below w.heap.size w W4 by rw [hW4]; exact (HB3.out.setCell (by simp; omega) _).setCell (by simp; omega) _)
  have HWW4 := Lib.hid hW4
  obtain ⟨nb, hnb⟩ : ∃ n, n = W4.heap.size := ⟨_, rfl⟩
  have HPW := Lib.hid (show RPW w bb nb lv s2 0 (.slice none 0 0) (W4.alloc (.cells #[.int .i64 (lv : Int), .slice none 0 0] Trn)) from ⟨by rw [hnb]; exact Mem.new W4 Trn [.int .i64 (lv : Int), .slice none 0 0], Rw.nil _ _ _ _, HBB4.out.alloc _, HM4.out.alloc _, belowThen HB4.out (belowSelf _ _), hsw1, by omega⟩)
  have hnb3 : nb = w3.heap.size := by omega
  clear HBB2 HM2 HB2 hb3 HBB3 HM3 HB3 HRI2 HWW2 hW4 HBB4 HM4 HB4
  go_wp2_with fail
  rw [show (w3.setCell ⟨bb, 0, none⟩ (.string (str s2.1))).setCell ⟨bb, 1, none⟩ (.int .i64 s2.2) = W4 from HWW4.out.symm, ← hnb3]
  have hsz5 : nb + 1 ≤ (W4.alloc (.cells #[.int .i64 (lv : Int), .slice none 0 0] Trn)).heap.size := by simp; omega
  clear c0 c1 f0 f1 HWW4 hnb hnb3 hsz4 hsb3
  go_loopw [8] (fun i wr => ∃ k : Nat, k ≤ cnt ∧ i = .int .i64 k ∧ nb + 1 ≤ wr.heap.size ∧ ∃ v, Hid (RPW w bb nb lv s2 k v wr)) (fun i _ => cnt - (intOf i).toNat)
  case atStart => exact ⟨0, by omega, rfl, hsz5, _, HPW⟩
  case round =>
    clear HPW hsz5
    obtain ⟨k, hk, rfl, hszr, v, HP⟩ := hrel
    obtain ⟨va, vm, vp, rfl⟩ := HP.out.2.1.shape
    have HOKK := Lib.hid (ptsS_okay HOK2.out k)
    obtain ⟨c0, c1, f0, f1⟩ := memTwo HP.out.2.2.1
    have hq6 := HP.out.2.2.2.2.2
    by_cases hgo : k < cnt ∧ (ptsS s2 k).1.2 = 0
    · obtain ⟨hlt, herr⟩ := hgo
      have HNX := Lib.hid (show (ptsS s2 (k + 1)).1 = (part1 (ptsS s2 k).1).1 from rfl)
      have HRX := Lib.hid (show (rptS s2 (k + 1)).map rpC = (rptS s2 k).map rpC ++ [rpC ((bytesS (ptsS s2 k).1 32).2, ((intS (bytesS (ptsS s2 k).1 32).1 32768).2 : Int))] by rw [rptS]; simp)
      have HRB := Lib.hid (fun W => rbBytes_any (ptsS s2 k).1 HOKK.out 32 W)
      have HOKB := Lib.hid (bytesS_okay HOKK.out 32)
      have HP1 := Lib.hid (show (part1 (ptsS s2 k).1).1 = (intS (bytesS (ptsS s2 k).1 32).1 32768).1 from rfl)
      rw [HP1.out] at HNX
      have HLK := Lib.hid (show ((rptS s2 k).map rpC).length ≤ 900000000 by rw [List.length_map, length_rptS]; omega)
      unfold RPW at HP
      obtain ⟨t, ht⟩ : ∃ t, t = (ptsS s2 k).1 := ⟨_, rfl⟩
      rw [← ht] at HRB HOKB HP HNX HRX c0 c1 herr
      clear ht
      obtain ⟨tl, te⟩ := t
      simp only at herr
      subst herr
      obtain ⟨t1, d, ed⟩ : ∃ t1 d, bytesS (tl, 0) 32 = (t1, d) := ⟨_, _, rfl⟩
      rw [ed] at HRB HOKB HNX HRX
      simp only at HOKB HNX HRX HRB
      have HRI := Lib.hid (fun W => rbInt_any t1 HOKB.out 32768 (by omega) W)
      obtain ⟨t2, n, en⟩ : ∃ t2 n, intS t1 32768 = (t2, n) := ⟨_, _, rfl⟩
      rw [show ((32768 : Nat) : Int) = 32768 from rfl, en] at HRI
      rw [en] at HNX HRX
      simp only at HNX HRX HRI
      have hdk : decide (k < cnt) = true := by simpa using hlt
      clear ed en HP1 HOKK HOKB
      go_wp2_with fail
      refine (HRB.out _).mono ?_
      rintro e w5 ⟨rfl, hb5⟩
      have HP6 := Lib.hid (belowThen hb5 (belowSelf w5 (.cells #[.string (str t1.1), .int .i64 t1.2] Trb)))
      have HC6 := Lib.hid (Mem.new w5 Trb (rC t1))
      obtain ⟨cc0, cc1, -, -⟩ := memTwo HC6.out
      clear hb5 HRB
      go_wp2_with fail
      refine (HRI.out _).mono ?_
      rintro e w7 ⟨rfl, hb7⟩
      have HB7 := Lib.hid (belowThen HP6.out hb7)
      have hs7 : nb + 1 ≤ w7.heap.size := by have := HB7.out.size; omega
      have HQ7 := Lib.hid (show Mem w7 nb Trn [.int .i64 lv, .slice va vm vp] ∧ Rw w7 (nb + 1) Trp 2 (.slice va vm vp) ((rptS s2 k).map rpC) ∧ Mem w7 bb Trb (rC (tl, 0)) ∧ Mem w7 w.heap.size Trn [.int .i64 0, .slice none 0 0] ∧ Below w.heap.size w w7 from
        ⟨HP.out.1.below HB7.out HP.out.1.lt, HP.out.2.1.below HB7.out, HP.out.2.2.1.below HB7.out HP.out.2.2.1.lt, HP.out.2.2.2.1.below HB7.out HP.out.2.2.2.1.lt, belowThen HP.out.2.2.2.2.1 HB7.out⟩)
      clear hb7 HRI HP6 HC6 cc0 cc1 c0 c1 f0 f1 HP HB7
      obtain ⟨c0, c1, f0, f1⟩ := memTwo HQ7.out.2.2.1
      have n1 : w7.cell? ⟨nb, 1, none⟩ = some (.slice va vm vp) := HQ7.out.1.cell 1
      obtain ⟨W9, hW9⟩ : ∃ W, W = ((w7.setCell ⟨bb, 0, none⟩ (.string (str t2.1))).setCell ⟨bb, 1, none⟩ (.int .i64 t2.2)).alloc (.cells #[.string (str t2.1), .int .i64 t2.2] Trb) := ⟨_, rfl⟩
      have hne1 : nb ≠ bb := by omega
      have hne2 : w.heap.size ≠ bb := by omega
      have HQ9 := Lib.hid (show Mem W9 nb Trn [.int .i64 lv, .slice va vm vp] ∧ Rw W9 (nb + 1) Trp 2 (.slice va vm vp) ((rptS s2 k).map rpC) ∧ Mem W9 bb Trb (rC t2) ∧ Mem W9 w.heap.size Trn [.int .i64 0, .slice none 0 0] ∧ Below w.heap.size w W9 by
        rw [hW9]
        refine ⟨((HQ7.out.1.other hne1 _).other hne1 _).alloc _, Rw.below (HQ7.out.2.1.of_block (fun g hg => (heap_set_ne (by have := (HQ7.out.2.1.lt g hg).2; simp; omega)).trans (heap_set_ne (by have := (HQ7.out.2.1.lt g hg).2; simp; omega)))) (belowSelf _ _), ((HQ7.out.2.2.1.set 0 (.string (str t2.1))).set 1 (.int .i64 t2.2)).alloc _, ((HQ7.out.2.2.2.1.other hne2 _).other hne2 _).alloc _, belowThen ((HQ7.out.2.2.2.2.setCell (by simp; omega) _).setCell (by simp; omega) _) (belowSelf _ _)⟩)
      have HS9 := Lib.hid (show W9.heap.size = w7.heap.size + 1 by rw [hW9]; simp)
      have HWW9 := Lib.hid hW9
      clear hW9
      have HQA := Lib.hid (show Rw (W9.alloc (.cells #[.string (str d), .int .i64 (n : Int)] Trp)) (nb + 1) Trp 2 (.slice va vm vp) ((rptS s2 k).map rpC) from HQ9.out.2.1.below (belowSelf _ _))
      have HBA := Lib.hid (belowThen HQ9.out.2.2.2.2 (belowSelf W9 (.cells #[.string (str d), .int .i64 (n : Int)] Trp)))
      have hb7s : bb < w7.heap.size := by omega
      have hn7s : nb < w7.heap.size := by omega
      go_wp2_with (first
        | (at_builtin
           rw [show ((w7.setCell ⟨bb, 0, none⟩ (.string (str t2.1))).setCell ⟨bb, 1, none⟩ (.int .i64 t2.2)).alloc (.cells #[.string (str t2.1), .int .i64 t2.2] Trb) = W9 from HWW9.out.symm]
           refine wp_append_row (w0 := w) HQA.out w.heap.size HBA.out (by omega) (rpC (d, (n : Int))) (by decide) rfl (by simp [rpC, Value.oneCell']) (.tmp 48) (.tmp 52) 29 ip _ 24 rfl rfl Tryd.underlying29 HIP.out HIZ.out HISZ.out HIBY.out rfl (by decide) rfl (g := w7.heap.size + 1) (c := 1) rfl (fun j u hu => ((Mem.newAt W9 Trp (rpC (d, (n : Int))) HS9.out.symm).cell j).trans hu) HLK.out (by have := HS9.out; simp; omega) ?_
           intro vA wA hrA hbA hsA hgA hatA
           rw [← HRX.out] at hrA
           obtain ⟨ax, mx, px, rfl⟩ := hrA.shape
           have hlt9 := HQA.out.lt
           have HQB := Lib.hid (show Mem wA nb Trn [.int .i64 lv, .slice va vm vp] ∧ Mem wA bb Trb (rC t2) ∧ Mem wA w.heap.size Trn [.int .i64 0, .slice none 0 0] from ⟨(HQ9.out.1.alloc _).grown hgA (fun e => by have := (hlt9 _ e.symm).2; omega), (HQ9.out.2.2.1.alloc _).grown hgA (fun e => by have := (hlt9 _ e.symm).2; omega), (HQ9.out.2.2.2.1.alloc _).grown hgA (fun e => by have := (hlt9 _ e.symm).2; omega)⟩)
           have HRA := Lib.hid hrA
           have HBB := Lib.hid hbA
           have hszA : nb + 1 ≤ wA.heap.size := by have := HS9.out; simp at hsA; omega
           have nA : wA.cell? ⟨nb, 1, none⟩ = some (.slice va vm vp) := HQB.out.1.cell 1
           have fA : wA.frozen? ⟨nb, 1, none⟩ = false := HQB.out.1.frozen 1
           clear hrA hbA hsA hgA hatA hlt9 c0 c1 f0 f1 n1)
        | fail)
      have HFIN := Lib.hid (show RPW w bb nb lv s2 (k + 1) (.slice ax mx px) (wA.setCell ⟨nb, 1, none⟩ (.slice ax mx px)) from ⟨HQB.out.1.set 1 (.slice ax mx px), HRA.out.of_block (fun g hg => heap_set_ne (by have := (HRA.out.lt g hg).2; simp; omega)), by rw [HNX.out]; exact HQB.out.2.1.other (by simp; omega) _, HQB.out.2.2.other (by simp; omega) _, HBB.out.setCell (by simp; omega) _, hq6⟩)
      have hs10 : nb + 1 ≤ (wA.setCell ⟨nb, 1, none⟩ (.slice ax mx px)).heap.size := by simpa using hszA
      go_roundw
      case rel => exact ⟨k + 1, by omega, by go_num, hs10, _, HFIN⟩
      case measure => simp [intOf]; omega
    · have HEND := Lib.hid (show (ptsS s2 cnt).1 = (ptsS s2 k).1 by
        by_cases hlt : k < cnt
        · have herr : (ptsS s2 k).1.2 ≠ 0 := fun h => hgo ⟨hlt, h⟩
          have := ptsS_stay HOK2.out herr (cnt - k)
          rwa [show k + (cnt - k) = cnt from by omega] at this
        · rw [show k = cnt from by omega])
      have HOKE := Lib.hid (show (closeS (ptsS s2 k).1).2 = 0 → k = cnt ∧ rptS s2 k = (ptsS s2 k).2 by
        intro h0
        have hz : (ptsS s2 k).1.2 = 0 := by
          unfold closeS at h0
          split at h0
          · exact h0
          · unfold failS at h0
            split at h0
            · exact h0
            · simp at h0
        have hk' : k = cnt := by
          by_cases hlt : k < cnt
          · exact absurd ⟨hlt, hz⟩ hgo
          · omega
        have hs0 : s2.2 = 0 := by
          by_cases he : s2.2 = 0
          · exact he
          · have := ptsS_stay (k := 0) HOK2.out he k
            rw [Nat.zero_add] at this
            rw [this] at hz
            exact absurd hz he
        exact ⟨hk', rptS_eq hs0 k hz⟩)
      have HCL := Lib.hid (fun W => rbClose_any (ptsS s2 k).1 HOKK.out W)
      rw [HEND.out] at HPD
      unfold RPW at HP
      have HCS : k < cnt → (ptsS s2 k).1.2 ≠ 0 := fun h1 h2 => hgo ⟨h1, h2⟩
      obtain ⟨cl, hcl⟩ : ∃ c, c = (closeS (ptsS s2 k).1).2 := ⟨_, rfl⟩
      rw [← hcl] at HPD HOKE HCL
      obtain ⟨c, hc⟩ : ∃ c, c = (ptsS s2 k).1 := ⟨_, rfl⟩
      rw [← hc] at HP HCS HCL c0 c1
      clear hcl hc HEND HOKK hgo
      by_cases hlt : k < cnt
      · have hdk : decide (k < cnt) = true := by simpa using hlt
        have hde : ((c.2 : Int) == 0) = false := by rw [beq_eq_false_iff_ne]; exact HCS hlt
        clear HCS
        by_cases hcl : cl = 0
        · exact absurd (HOKE.out hcl).1 (by omega)
        · have hd : ((cl : Int) != 0) = true := by simpa using hcl
          rw [if_pos (by simpa using hcl)] at HPD
          go_wp2_with fail
          refine (HCL.out _).mono ?_
          rintro e w5 ⟨rfl, hb5⟩
          have HQ5 := Lib.hid (show Mem w5 bb Trb (rC c) ∧ Mem w5 w.heap.size Trn [.int .i64 0, .slice none 0 0] ∧ Below w.heap.size w w5 from ⟨HP.out.2.2.1.below hb5 HP.out.2.2.1.lt, HP.out.2.2.2.1.below hb5 HP.out.2.2.2.1.lt, belowThen HP.out.2.2.2.2.1 hb5⟩)
          clear hb5 c0 c1 HP
          obtain ⟨c0, c1, -, -⟩ := memTwo HQ5.out.1
          go_wp2_with fail
          refine (HCL.out _).mono ?_
          rintro e w6 ⟨rfl, hb6⟩
          have HQ6 := Lib.hid (show Mem w6 w.heap.size Trn [.int .i64 0, .slice none 0 0] ∧ Below w.heap.size w w6 from ⟨HQ5.out.2.1.below hb6 HQ5.out.2.1.lt, belowThen HQ5.out.2.2 hb6⟩)
          clear hb6 c0 c1 HQ5 HCL
          have d0 : w6.cell? ⟨w.heap.size, 0, none⟩ = some (.int .i64 0) := HQ6.out.1.cell 0
          have d1 : w6.cell? ⟨w.heap.size, 1, none⟩ = some (.slice none 0 0) := HQ6.out.1.cell 1
          have g0 := HQ6.out.1.frozen 0
          have g1 := HQ6.out.1.frozen 1
          go_wp2_with fail
          have hm := (HQ6.out.1.set 0 (.int .i64 (0 : Int))).set 1 (.slice none 0 0)
          refine bodyPost_ret (resultsCellTmp hm rfl _ _ rfl Tryd.underlying31 rfl (by kernel_rfl)) rfl ⟨_, by rw [HPD.out]; rfl, ?_, (HQ6.out.2.setCell (Nat.le_refl _) _).setCell (Nat.le_refl _) _⟩
          rw [HPD.out]
          exact Rd.nil _ _
      · have hdk : decide (k < cnt) = false := by simpa using hlt
        clear HCS
        by_cases hcl : cl = 0
        · have hd : ((cl : Int) != 0) = false := by simp [hcl]
          rw [if_neg (by simpa using hcl)] at HPD
          obtain ⟨hkc, hpe⟩ := HOKE.out hcl
          subst hkc
          have HRP := Lib.hid (show Rw wr (nb + 1) Trp 2 (.slice va vm vp) ((ptsS s2 k).2.map rpC) by rw [← hpe]; exact HP.out.2.1)
          have HLEN := Lib.hid (length_ptsS s2 k)
          obtain ⟨ps, hps⟩ : ∃ q, q = (ptsS s2 k).2 := ⟨_, rfl⟩
          rw [← hps] at HRP HPD HLEN
          clear hps hpe
          have HCK := Lib.hid (fun W (h : RPts W (.slice va vm vp) ps) => rchk_any lv (.slice va vm vp) ps W h (by rw [HLEN.out]; omega))
          obtain ⟨ck, hck⟩ : ∃ c, c = chkN lv ps := ⟨_, rfl⟩
          rw [← hck] at HCK HPD
          clear hck
          go_wp2_with fail
          refine (HCL.out _).mono ?_
          rintro e w5 ⟨rfl, hb5⟩
          have HQ5 := Lib.hid (show Mem w5 nb Trn [.int .i64 lv, .slice va vm vp] ∧ Rw w5 (nb + 1) Trp 2 (.slice va vm vp) (ps.map rpC) ∧ Mem w5 w.heap.size Trn [.int .i64 0, .slice none 0 0] ∧ Below w.heap.size w w5 from ⟨HP.out.1.below hb5 HP.out.1.lt, HRP.out.below hb5, HP.out.2.2.2.1.below hb5 HP.out.2.2.2.1.lt, belowThen HP.out.2.2.2.2.1 hb5⟩)
          have n0 : w5.cell? ⟨nb, 0, none⟩ = some (.int .i64 lv) := HQ5.out.1.cell 0
          have n1 : w5.cell? ⟨nb, 1, none⟩ = some (.slice va vm vp) := HQ5.out.1.cell 1
          have HCK5 := Lib.hid (HCK.out w5 HQ5.out.2.1.rd)
          clear hb5 HCL c0 c1 HRP HP
          by_cases hck : ck = 0
          · have hd2 : ((ck : Int) != 0) = false := by simp [hck]
            rw [if_neg (by simpa using hck)] at HPD
            go_wp2_with fail
            refine HCK5.out.mono ?_
            rintro e w6 ⟨rfl, hb6⟩
            have HQ6 := Lib.hid (show Mem w6 nb Trn [.int .i64 lv, .slice va vm vp] ∧ Rw w6 (nb + 1) Trp 2 (.slice va vm vp) (ps.map rpC) ∧ Mem w6 w.heap.size Trn [.int .i64 0, .slice none 0 0] ∧ Below w.heap.size w w6 from ⟨HQ5.out.1.below hb6 HQ5.out.1.lt, HQ5.out.2.1.below hb6, HQ5.out.2.2.1.below hb6 HQ5.out.2.2.1.lt, belowThen HQ5.out.2.2.2 hb6⟩)
            clear hb6 HCK5 n0 n1
            have d0 : w6.cell? ⟨w.heap.size, 0, none⟩ = some (.int .i64 0) := HQ6.out.2.2.1.cell 0
            have d1 : w6.cell? ⟨w.heap.size, 1, none⟩ = some (.slice none 0 0) := HQ6.out.2.2.1.cell 1
            have g0 := HQ6.out.2.2.1.frozen 0
            have g1 := HQ6.out.2.2.1.frozen 1
            have n0 : w6.cell? ⟨nb, 0, none⟩ = some (.int .i64 lv) := HQ6.out.1.cell 0
            have n1 : w6.cell? ⟨nb, 1, none⟩ = some (.slice va vm vp) := HQ6.out.1.cell 1
            go_wp2_with fail
            have hm := (HQ6.out.2.2.1.set 0 (.int .i64 (lv : Int))).set 1 (.slice va vm vp)
            refine bodyPost_ret (resultsCellTmp hm rfl _ _ rfl Tryd.underlying31 rfl (by kernel_rfl)) rfl ⟨_, by rw [HPD.out]; rfl, ?_, (HQ6.out.2.2.2.setCell (Nat.le_refl _) _).setCell (Nat.le_refl _) _⟩
            rw [HPD.out]
            exact (HQ6.out.2.1.of_block (fun g hg => (heap_set_ne (by have := (HQ6.out.2.1.lt g hg).2; simp; omega)).trans (heap_set_ne (by have := (HQ6.out.2.1.lt g hg).2; simp; omega)))).rd
          · have hd2 : ((ck : Int) != 0) = true := by simpa using hck
            rw [if_pos (by simpa using hck)] at HPD
            go_wp2_with fail
            refine HCK5.out.mono ?_
            rintro e w6 ⟨rfl, hb6⟩
            have HQ6 := Lib.hid (show Mem w6 nb Trn [.int .i64 lv, .slice va vm vp] ∧ Rw w6 (nb + 1) Trp 2 (.slice va vm vp) (ps.map rpC) ∧ Mem w6 w.heap.size Trn [.int .i64 0, .slice none 0 0] ∧ Below w.heap.size w w6 from ⟨HQ5.out.1.below hb6 HQ5.out.1.lt, HQ5.out.2.1.below hb6, HQ5.out.2.2.1.below hb6 HQ5.out.2.2.1.lt, belowThen HQ5.out.2.2.2 hb6⟩)
            have HCK6 := Lib.hid (HCK.out w6 HQ6.out.2.1.rd)
            clear hb6 HCK5 n0 n1
            have n0 : w6.cell? ⟨nb, 0, none⟩ = some (.int .i64 lv) := HQ6.out.1.cell 0
            have n1 : w6.cell? ⟨nb, 1, none⟩ = some (.slice va vm vp) := HQ6.out.1.cell 1
            go_wp2_with fail
            refine HCK6.out.mono ?_
            rintro e w7 ⟨rfl, hb7⟩
            have HQ7 := Lib.hid (show Mem w7 w.heap.size Trn [.int .i64 0, .slice none 0 0] ∧ Below w.heap.size w w7 from ⟨HQ6.out.2.2.1.below hb7 HQ6.out.2.2.1.lt, belowThen HQ6.out.2.2.2 hb7⟩)
            clear hb7 HCK6 n0 n1
            have d0 : w7.cell? ⟨w.heap.size, 0, none⟩ = some (.int .i64 0) := HQ7.out.1.cell 0
            have d1 : w7.cell? ⟨w.heap.size, 1, none⟩ = some (.slice none 0 0) := HQ7.out.1.cell 1
            have g0 := HQ7.out.1.frozen 0
            have g1 := HQ7.out.1.frozen 1
            go_wp2_with fail
            have hm := (HQ7.out.1.set 0 (.int .i64 (0 : Int))).set 1 (.slice none 0 0)
            refine bodyPost_ret (resultsCellTmp hm rfl _ _ rfl Tryd.underlying31 rfl (by kernel_rfl)) rfl ⟨_, by rw [HPD.out]; rfl, ?_, (HQ7.out.2.setCell (Nat.le_refl _) _).setCell (Nat.le_refl _) _⟩
            rw [HPD.out]
            exact Rd.nil _ _
        · have hd : ((cl : Int) != 0) = true := by simpa using hcl
          rw [if_pos (by simpa using hcl)] at HPD
          go_wp2_with fail
          refine (HCL.out _).mono ?_
          rintro e w5 ⟨rfl, hb5⟩
          have HQ5 := Lib.hid (show Mem w5 bb Trb (rC c) ∧ Mem w5 w.heap.size Trn [.int .i64 0, .slice none 0 0] ∧ Below w.heap.size w w5 from ⟨HP.out.2.2.1.below hb5 HP.out.2.2.1.lt, HP.out.2.2.2.1.below hb5 HP.out.2.2.2.1.lt, belowThen HP.out.2.2.2.2.1 hb5⟩)
          clear hb5 c0 c1 HP
          obtain ⟨c0, c1, -, -⟩ := memTwo HQ5.out.1
          go_wp2_with fail
          refine (HCL.out _).mono ?_
          rintro e w6 ⟨rfl, hb6⟩
          have HQ6 := Lib.hid (show Mem w6 w.heap.size Trn [.int .i64 0, .slice none 0 0] ∧ Below w.heap.size w w6 from ⟨HQ5.out.2.1.below hb6 HQ5.out.2.1.lt, belowThen HQ5.out.2.2 hb6⟩)
          clear hb6 c0 c1 HQ5 HCL
          have d0 : w6.cell? ⟨w.heap.size, 0, none⟩ = some (.int .i64 0) := HQ6.out.1.cell 0
          have d1 : w6.cell? ⟨w.heap.size, 1, none⟩ = some (.slice none 0 0) := HQ6.out.1.cell 1
          have g0 := HQ6.out.1.frozen 0
          have g1 := HQ6.out.1.frozen 1
          go_wp2_with fail
          have hm := (HQ6.out.1.set 0 (.int .i64 (0 : Int))).set 1 (.slice none 0 0)
          refine bodyPost_ret (resultsCellTmp hm rfl _ _ rfl Tryd.underlying31 rfl (by kernel_rfl)) rfl ⟨_, by rw [HPD.out]; rfl, ?_, (HQ6.out.2.setCell (Nat.le_refl _) _).setCell (Nat.le_refl _) _⟩
          rw [HPD.out]
          exact Rd.nil _ _
end Go.Proofs.YtjdhcanblpifcaaDoor

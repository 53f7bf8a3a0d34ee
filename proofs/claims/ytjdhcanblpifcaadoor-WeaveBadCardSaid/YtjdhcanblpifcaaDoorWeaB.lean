/-
  Several texts in one: their sentences stand at their heads.
-/
import Derived.Test.YtjdhcanblpifcaaDoorWea7
import Derived.Test.YtjdhcanblpifcaaDoorWea7b
import Derived.Test.YtjdhcanblpifcaaDoorOfT
import Derived.Test.YtjdhcanblpifcaaDoorMAw
import Derived.Test.YtjdhcanblpifcaaDoorMDep0
/-
  Package weave: giveNode and giveChunk, whatever is given.
-/
namespace Go.Proofs.YtjdhcanblpifcaaDoor
open Go.RowKit Crv
theorem giveChunk_any (W : World) (wb base g cap : Nat) (vt : Value) (s : Stp) (rest : List Stp) (out : List UInt8) (got : Nat) (t : List UInt8) (hgot : got ≤ 1000000) (hl : rest.length ≤ 1000000) (hol : out.length ≤ 1000000000) (htl : t.length ≤ 1000000) (h32 : s.1.1.length = 32) (hbs : base ≤ W.heap.size) (h : Wv W wb base (.slice (some ⟨g, 0, none⟩) (rest.length + 1) cap) vt (s :: rest, out, got)) (hn : oidOf (kindS s) t = s.1.1) (h0 : s.2 = 0) :
    Calls Tryd.prog 52 #[ptr wb, .agg (pdC s).toArray, .string (str t)] W fun e w' => e = .returned (.int .i64 (giveW (s :: rest, out, got) t).2) ∧ ∃ vp' vt', Wv w' wb base vp' vt' (giveW (s :: rest, out, got) t).1 ∧ Fr base wb (.slice (some ⟨g, 0, none⟩) (rest.length + 1) cap) vt W w' := by
  by_cases he : (t.length : Int) = s.1.2
  · have hg : giveW (s :: rest, out, got) t = ((rest, out ++ t, got + 1), 0) := by
      unfold giveW
      dsimp only
      rw [if_neg (Decidable.not_not.2 hn), if_pos h0, if_neg (Decidable.not_not.2 he)]
    rw [hg]
    exact (giveChunk_ok W wb base g cap vt s rest out got t hgot hl hol htl h32 hbs h he).mono fun e w' ⟨h1, vt', h2, h3⟩ => ⟨h1, _, vt', h2, h3⟩
  · have hg : giveW (s :: rest, out, got) t = ((s :: rest, out, got), 2) := by
      unfold giveW
      dsimp only
      rw [if_neg (Decidable.not_not.2 hn), if_pos h0, if_pos he]
    rw [hg]
    exact (giveChunk_bad W wb base g cap vt s rest out got t h32 hbs h he).mono fun e w' ⟨h1, h2, h3⟩ => ⟨h1, _, _, h2, h3⟩
theorem giveNode_any (W : World) (wb base g cap : Nat) (vt : Value) (s : Stp) (rest : List Stp) (out : List UInt8) (got : Nat) (t : List UInt8) (hgot : got ≤ 1000000) (hl : rest.length ≤ 1000000) (h32 : s.1.1.length = 32) (hbs : base ≤ W.heap.size) (h : Wv W wb base (.slice (some ⟨g, 0, none⟩) (rest.length + 1) cap) vt (s :: rest, out, got)) (hn : oidOf (kindS s) t = s.1.1) (h0 : s.2 ≠ 0) :
    Calls Tryd.prog 51 #[ptr wb, .agg (pdC s).toArray, .string (str t)] W fun e w' => e = .returned (.int .i64 (giveW (s :: rest, out, got) t).2) ∧ ∃ vp' vt', Wv w' wb base vp' vt' (giveW (s :: rest, out, got) t).1 ∧ Fr base wb (.slice (some ⟨g, 0, none⟩) (rest.length + 1) cap) vt W w' := by
  by_cases he : (parseN t).2.2 = 0
  · by_cases hbad : (0 < s.2 ∧ (parseN t).1 ≠ s.2) ∨ sumP (parseN t).2.1 ≠ s.1.2
    · have hg : giveW (s :: rest, out, got) t = ((s :: rest, out, got), 2) := by
        unfold giveW
        dsimp only
        rw [if_neg (Decidable.not_not.2 hn), if_neg h0, if_neg (Decidable.not_not.2 he), if_pos hbad]
      rw [hg]
      by_cases hpos : 0 < s.2
      · have hm : max s.2 0 = s.2 := by omega
        by_cases hlv : (parseN t).1 = s.2
        · have hsum : sumP (parseN t).2.1 ≠ s.1.2 := hbad.elim (fun hh => absurd hlv hh.2) id
          exact (giveNode_badB W wb base g cap vt s rest out got t h32 hbs h he (by omega) (by rw [hm]; exact hlv) hsum).mono fun e w' ⟨h1, h2, h3⟩ => ⟨h1, _, _, h2, h3⟩
        · exact (giveNode_badA W wb base g cap vt s rest out got t h32 hbs h he (by omega) (by rw [hm]; exact hlv)).mono fun e w' ⟨h1, h2, h3⟩ => ⟨h1, _, _, h2, h3⟩
      · have hsum : sumP (parseN t).2.1 ≠ s.1.2 := hbad.elim (fun hh => absurd hh.1 hpos) id
        exact (giveNode_badC W wb base g cap vt s rest out got t h32 hbs h he (by omega) hsum).mono fun e w' ⟨h1, h2, h3⟩ => ⟨h1, _, _, h2, h3⟩
    · have hg : giveW (s :: rest, out, got) t = (((parseN t).2.1.map (fun p => (p, (parseN t).1 - 1)) ++ rest, out, got + 1), 0) := by
        unfold giveW
        dsimp only
        rw [if_neg (Decidable.not_not.2 hn), if_neg h0, if_neg (Decidable.not_not.2 he), if_neg hbad]
      rw [hg]
      have hsum : sumP (parseN t).2.1 = s.1.2 := Decidable.not_not.1 fun hh => hbad (.inr hh)
      by_cases hpos : 0 < s.2
      · have hlv : (parseN t).1 = s.2 := Decidable.not_not.1 fun hh => hbad (.inl ⟨hpos, hh⟩)
        exact (giveNode_okB W wb base g cap vt s rest out got t h32 hbs h he (by omega) (by omega) hsum hgot hl).mono fun e w' ⟨h1, vp', h2, h3⟩ => ⟨h1, vp', _, h2, h3⟩
      · exact (giveNode_okC W wb base g cap vt s rest out got t h32 hbs h he (by omega) hsum hgot hl).mono fun e w' ⟨h1, vp', h2, h3⟩ => ⟨h1, vp', _, h2, h3⟩
  · have hg : giveW (s :: rest, out, got) t = ((s :: rest, out, got), (parseN t).2.2) := by
      unfold giveW
      dsimp only
      rw [if_neg (Decidable.not_not.2 hn), if_neg h0, if_pos he]
    rw [hg]
    exact (giveNode_err W wb base g cap vt s rest out got t hbs h he).mono fun e w' ⟨h1, h2, h3⟩ => ⟨h1, _, _, h2, h3⟩
end Go.Proofs.YtjdhcanblpifcaaDoor

/-
  Package weave: Give.
-/
namespace Go.Proofs.YtjdhcanblpifcaaDoor
open Go.RowKit Crv
theorem Wv.at {W : World} {wb base g cap : Nat} {vt : Value} {s : Stp} {rest : List Stp} {out : List UInt8} {got : Nat} (h : Wv W wb base (.slice (some ⟨g, 0, none⟩) (rest.length + 1) cap) vt (s :: rest, out, got)) : W.rangeAt g (rest.length * 35) (pdC s) := by
  obtain ⟨g', cap', hv, _, _, _, _, hr, _⟩ := h.cons
  injection hv with hv _ _
  injection hv with hv
  injection hv with hv
  rw [hv]
  exact hr
theorem Fr.after {base wb : Nat} {vp vt : Value} {W W1 W2 : World} (h : Fr base wb vp vt W1 W2) (hs : base ≤ W.heap.size) (hb : Below W.heap.size W W1) : Fr base wb vp vt W W2 :=
  ⟨(hb.mono hs).trans h.bel, fun b hl h1 h2 h3 => (h.keep b (Nat.lt_of_lt_of_le hl hb.size) h1 h2 h3).trans (hb.block b hl)⟩
set_option maxRecDepth 100000 in
set_option maxHeartbeats 400000 in
theorem give_idle (W : World) (wb base : Nat) (vp vt : Value) (out : List UInt8) (got : Nat) (t : List UInt8) (hbs : base ≤ W.heap.size) (h : Wv W wb base vp vt ([], out, got)) :
    Calls Tryd.prog 25 #[ptr wb, .string (str t)] W fun e w' => e = .returned (.int .i64 15) ∧ Wv w' wb base vp vt ([], out, got) ∧ Fr base wb vp vt W w' := by
  have HOV := Lib.hid (over_any W wb base vp vt _ h)
  have HW := Lib.hid h
  clear h
  go_enter Tryd.func25, Tryd.ntmps25
  go_wp2_with fail
  refine HOV.out.mono ?_
  rintro e w1 ⟨rfl, rfl⟩
  go_wp2_with fail
  go_ret
  exact ⟨rfl, HW.out, Fr.of_below hbs (Below.refl _ _)⟩
set_option maxRecDepth 100000 in
set_option maxHeartbeats 600000 in
theorem give_sum (W : World) (wb base g cap : Nat) (vt : Value) (s : Stp) (rest : List Stp) (out : List UInt8) (got : Nat) (t : List UInt8) (hc : Consts W) (_hgot : got ≤ 1000000) (hl : rest.length ≤ 1000000) (_hol : out.length ≤ 1000000000) (htl : t.length ≤ 1000000) (h32 : s.1.1.length = 32) (hbs : base ≤ W.heap.size) (h : Wv W wb base (.slice (some ⟨g, 0, none⟩) (rest.length + 1) cap) vt (s :: rest, out, got)) (hn : oidOf (kindS s) t ≠ s.1.1) :
    Calls Tryd.prog 25 #[ptr wb, .string (str t)] W fun e w' => e = .returned (.int .i64 (giveW (s :: rest, out, got) t).2) ∧ ∃ vp' vt', Wv w' wb base vp' vt' (giveW (s :: rest, out, got) t).1 ∧ Fr base wb (.slice (some ⟨g, 0, none⟩) (rest.length + 1) cap) vt W w' := by
  have HC := Lib.hid hc
  have HOV := Lib.hid (over_any W wb base _ vt _ h)
  have HW := Lib.hid h
  have hcap : rest.length + 1 ≤ cap := by
    obtain ⟨g', cap', hv, hcp, _⟩ := h.cons
    injection hv with _ _ hv
    rw [hv]
    exact hcp
  have HOF := Lib.hid (fun (W2 : World) hc => ofTxt (kindS s) (by unfold kindS; split <;> omega) t htl W2 hc)
  have HNL := Lib.hid (length_oidOf (kindS s) t)
  have H0 := Lib.hid (show (pdC s)[0]? = some (.int .i64 ((kindS s : Nat) : Int)) from rfl)
  have H1 := Lib.hid (show ∀ j u, (s.1.1.map byteV)[j]? = some u → (pdC s)[1 + j]? = some u from fun j u hu => by
    unfold pdC pdC3 wtC ptC
    rw [Nat.add_comm 1 j, List.cons_append, List.getElem?_cons_succ, List.append_assoc, List.getElem?_append_left (List.getElem?_eq_some_iff.1 hu).1]
    exact hu)
  have SZD := Lib.hid (show (Tryd.prog.info? Tpd).map (·.size) = some (pdC s).length from sz_pd _ s.1 _ h32)
  have SZX := Lib.hid (sz_id s.1.1 h32)
  have ONE := Lib.hid (show ∀ u ∈ pdC s, u.oneCell' = true from one_pdC3 _ _ _)
  have HLN := Lib.hid (show zPd.length = (pdC s).length from by rw [show (pdC s).length = 35 from length_pdC3 _ s.1 _ h32]; rfl)
  have HG := Lib.hid (show giveW (s :: rest, out, got) t = ((s :: rest, out, got), 3) by unfold giveW; dsimp only; rw [if_pos hn])
  obtain ⟨nm, hnm⟩ : ∃ c, c = oidOf (kindS s) t := ⟨_, rfl⟩
  rw [← hnm] at HOF HNL hn
  obtain ⟨kd, hkde⟩ : ∃ c, c = kindS s := ⟨_, rfl⟩
  simp only [← hkde] at H0 HOF
  obtain ⟨⟨x, z⟩, lv⟩ := s
  simp only at h32 H1 SZX hn
  have heq : ∀ W, (binOp .neq TI (.agg (nm.map byteV).toArray) (.agg (x.map byteV).toArray)).run Tryd.prog W = .ok (.bool true) W := fun W => by
    rw [run_neq_bytes (P := Tryd.prog) TI 5 32 Tryd.underlying41 Tryd.underlying5 (by kernel_rfl) nm x HNL.out h32 W]; simp [hn]
  obtain ⟨P0, hP0⟩ : ∃ c, c = pdC ((x, z), lv) := ⟨_, rfl⟩
  rw [← hP0] at H0 H1 SZD ONE HLN
  have HP0 := Lib.hid hP0
  have hwr : IntKind.i64.wrap (rest.length : Int) = (rest.length : Int) := IntWalk.i64_in _ (by omega)
  have HS0 := Lib.hid (HW.out.below (below_drewN (Below.refl _ _) 1))
  clear h hc hnm hkde hP0 hn
  go_enter Tryd.func25, Tryd.ntmps25
  go_wp2_with fail
  refine HOV.out.mono ?_
  rintro e w1 ⟨rfl, rfl⟩
  go_wp2_with fail
  refine wp_region_held_drew (S := fun w2 => Wv w2 wb base (.slice (some ⟨g, 0, none⟩) (rest.length + 1) cap) vt (((x, z), lv) :: rest, out, got)) (by kernel_rfl) HS0.out (fun hHeld => ?_)
  refine wpAnyH_take (i := 0) (oi := { dst := some 8, op := Op.move (Operand.tmp 0), type := 63, pos := "weave.go:58", after := #[], guard := none }) (v := .pointer (some ⟨wb, 0, none⟩)) rfl (by kernel_rfl) (by kernel_rfl) (by kernel_rfl) (fun _ _ _ h => h) (Or.inl ⟨by rfl, ?_⟩) hHeld ?_
  · intro w' hSw
    have y0 : w'.cell? ⟨wb, 0, none⟩ = some (.slice (some ⟨g, 0, none⟩) (rest.length + 1) cap) := hSw.1.cell 0
    clear hSw
    go_simp
  simp only [Act.put, List.setIfInBounds_toArray, List.set_cons_zero, List.set_cons_succ]
  refine wpAnyH_take (i := 1) (oi := { dst := some 9, op := Op.nilCheck (Operand.tmp 8), type := 0, pos := "weave.go:58", after := #[{ on := 0, ground := Ground.data }], guard := none }) (v := .pointer (some ⟨wb, 0, none⟩)) rfl (by kernel_rfl) (by kernel_rfl) (by kernel_rfl) (fun _ _ _ h => h) (Or.inl ⟨by rfl, ?_⟩) hHeld ?_
  · intro w' hSw
    have y0 : w'.cell? ⟨wb, 0, none⟩ = some (.slice (some ⟨g, 0, none⟩) (rest.length + 1) cap) := hSw.1.cell 0
    clear hSw
    go_simp
  simp only [Act.put, List.setIfInBounds_toArray, List.set_cons_zero, List.set_cons_succ]
  refine wpAnyH_take (i := 2) (oi := { dst := some 10, op := Op.fieldAddr 120 (Operand.tmp 9) 0, type := 0, pos := "weave.go:58", after := #[{ on := 1, ground := Ground.data }], guard := none }) (v := .pointer (some ⟨wb, 0, none⟩)) rfl (by kernel_rfl) (by kernel_rfl) (by kernel_rfl) (fun _ _ _ h => h) (Or.inl ⟨by rfl, ?_⟩) hHeld ?_
  · intro w' hSw
    have y0 : w'.cell? ⟨wb, 0, none⟩ = some (.slice (some ⟨g, 0, none⟩) (rest.length + 1) cap) := hSw.1.cell 0
    clear hSw
    go_simp
  simp only [Act.put, List.setIfInBounds_toArray, List.set_cons_zero, List.set_cons_succ]
  refine wpAnyH_take (i := 3) (oi := { dst := some 11, op := Op.load 118 (Operand.tmp 10), type := 118, pos := "weave.go:58", after := #[{ on := 2, ground := Ground.data }], guard := none }) (v := .slice (some ⟨g, 0, none⟩) (rest.length + 1) cap) rfl (by kernel_rfl) (by kernel_rfl) (by kernel_rfl) (fun _ _ _ h => h) (Or.inl ⟨by rfl, ?_⟩) hHeld ?_
  · intro w' hSw
    have y0 : w'.cell? ⟨wb, 0, none⟩ = some (.slice (some ⟨g, 0, none⟩) (rest.length + 1) cap) := hSw.1.cell 0
    clear hSw
    go_simp
  simp only [Act.put, List.setIfInBounds_toArray, List.set_cons_zero, List.set_cons_succ]
  refine wpAnyH_take (i := 4) (oi := { dst := some 12, op := Op.move (Operand.tmp 0), type := 63, pos := "weave.go:58", after := #[], guard := none }) (v := .pointer (some ⟨wb, 0, none⟩)) rfl (by kernel_rfl) (by kernel_rfl) (by kernel_rfl) (fun _ _ _ h => h) (Or.inl ⟨by rfl, ?_⟩) hHeld ?_
  · intro w' hSw
    have y0 : w'.cell? ⟨wb, 0, none⟩ = some (.slice (some ⟨g, 0, none⟩) (rest.length + 1) cap) := hSw.1.cell 0
    clear hSw
    go_simp
  simp only [Act.put, List.setIfInBounds_toArray, List.set_cons_zero, List.set_cons_succ]
  refine wpAnyH_take (i := 5) (oi := { dst := some 13, op := Op.nilCheck (Operand.tmp 12), type := 0, pos := "weave.go:58", after := #[{ on := 4, ground := Ground.data }], guard := none }) (v := .pointer (some ⟨wb, 0, none⟩)) rfl (by kernel_rfl) (by kernel_rfl) (by kernel_rfl) (fun _ _ _ h => h) (Or.inl ⟨by rfl, ?_⟩) hHeld ?_
  · intro w' hSw
    have y0 : w'.cell? ⟨wb, 0, none⟩ = some (.slice (some ⟨g, 0, none⟩) (rest.length + 1) cap) := hSw.1.cell 0
    clear hSw
    go_simp
  simp only [Act.put, List.setIfInBounds_toArray, List.set_cons_zero, List.set_cons_succ]
  refine wpAnyH_take (i := 6) (oi := { dst := some 14, op := Op.fieldAddr 120 (Operand.tmp 13) 0, type := 0, pos := "weave.go:58", after := #[{ on := 5, ground := Ground.data }], guard := none }) (v := .pointer (some ⟨wb, 0, none⟩)) rfl (by kernel_rfl) (by kernel_rfl) (by kernel_rfl) (fun _ _ _ h => h) (Or.inl ⟨by rfl, ?_⟩) hHeld ?_
  · intro w' hSw
    have y0 : w'.cell? ⟨wb, 0, none⟩ = some (.slice (some ⟨g, 0, none⟩) (rest.length + 1) cap) := hSw.1.cell 0
    clear hSw
    go_simp
  simp only [Act.put, List.setIfInBounds_toArray, List.set_cons_zero, List.set_cons_succ]
  refine wpAnyH_take (i := 7) (oi := { dst := some 15, op := Op.load 118 (Operand.tmp 14), type := 118, pos := "weave.go:58", after := #[{ on := 6, ground := Ground.data }], guard := none }) (v := .slice (some ⟨g, 0, none⟩) (rest.length + 1) cap) rfl (by kernel_rfl) (by kernel_rfl) (by kernel_rfl) (fun _ _ _ h => h) (Or.inl ⟨by rfl, ?_⟩) hHeld ?_
  · intro w' hSw
    have y0 : w'.cell? ⟨wb, 0, none⟩ = some (.slice (some ⟨g, 0, none⟩) (rest.length + 1) cap) := hSw.1.cell 0
    clear hSw
    go_simp
  simp only [Act.put, List.setIfInBounds_toArray, List.set_cons_zero, List.set_cons_succ]
  refine wpAnyH_take (i := 8) (oi := { dst := some 16, op := Op.call { callee := Callee.builtin Builtin.len, args := #[Operand.tmp 15], argTypes := #[118] }, type := 3, pos := "weave.go:58", after := #[{ on := 7, ground := Ground.data }], guard := none }) (v := .int .i64 ((rest.length : Int) + 1)) rfl (by kernel_rfl) (by kernel_rfl) (by kernel_rfl) (fun _ _ _ h => h) (Or.inl ⟨by rfl, ?_⟩) hHeld ?_
  · intro w' hSw
    have y0 : w'.cell? ⟨wb, 0, none⟩ = some (.slice (some ⟨g, 0, none⟩) (rest.length + 1) cap) := hSw.1.cell 0
    clear hSw
    go_simp
  simp only [Act.put, List.setIfInBounds_toArray, List.set_cons_zero, List.set_cons_succ]
  refine wpAnyH_take (i := 9) (oi := { dst := some 17, op := Op.binOp BinOp.sub 3 (Operand.tmp 16) (Operand.const (Value.int IntKind.i64 1)) 3, type := 3, pos := "weave.go:58", after := #[{ on := 8, ground := Ground.data }], guard := none }) (v := .int .i64 (rest.length : Int)) rfl (by kernel_rfl) (by kernel_rfl) (by kernel_rfl) (fun _ _ _ h => h) (Or.inl ⟨by rfl, ?_⟩) hHeld ?_
  · intro w' hSw
    have y0 : w'.cell? ⟨wb, 0, none⟩ = some (.slice (some ⟨g, 0, none⟩) (rest.length + 1) cap) := hSw.1.cell 0
    clear hSw
    go_simp <;> omega
  simp only [Act.put, List.setIfInBounds_toArray, List.set_cons_zero, List.set_cons_succ]
  refine wpAnyH_take (i := 10) (oi := { dst := some 18, op := Op.indexAddr 118 (Operand.tmp 11) (Operand.tmp 17), type := 0, pos := "weave.go:58", after := #[{ on := 3, ground := Ground.data }, { on := 9, ground := Ground.data }], guard := none }) (v := .pointer (some ⟨g, rest.length * 35, none⟩)) rfl (by kernel_rfl) (by kernel_rfl) (by kernel_rfl) (fun _ _ _ h => h) (Or.inl ⟨by rfl, ?_⟩) hHeld ?_
  · intro w' hSw
    have y0 : w'.cell? ⟨wb, 0, none⟩ = some (.slice (some ⟨g, 0, none⟩) (rest.length + 1) cap) := hSw.1.cell 0
    clear hSw
    go_simp <;> omega
  simp only [Act.put, List.setIfInBounds_toArray, List.set_cons_zero, List.set_cons_succ]
  refine wpAnyH_take (i := 11) (oi := { dst := some 19, op := Op.load 117 (Operand.tmp 18), type := 117, pos := "weave.go:58", after := #[{ on := 10, ground := Ground.data }], guard := none }) (v := _) rfl (by kernel_rfl) (by kernel_rfl) (by kernel_rfl) (fun _ _ _ h => h) (yieldsIf_load_mid (by rfl) Tpd (.tmp 18) rfl g (rest.length * 35) rfl (P0) (_) (fun w hS => HP0.out ▸ hS.at) Tryd.underlying117 rfl SZD.out) hHeld ?_
  simp only [Act.put, List.setIfInBounds_toArray, List.set_cons_zero, List.set_cons_succ]
  refine wpAnyH_ready (rs := [12]) (by kernel_rfl) (by simp) (AllReadyH.cons rfl (fun K hK => ?_) AllReadyH.nil)
  go_simp
  have HS1 := Lib.hid (HS0.out.below (belowSelf W.drew (.cells zPd.toArray Tpd)))
  refine hK.out _ _ HS1.out (fun hH1 => ?_)
  clear hK K
  refine wpAnyH_ready (rs := [13]) (by kernel_rfl) (by simp) (AllReadyH.cons rfl (fun K hK => ?_) AllReadyH.nil)
  refine step_store_mem (Mem.new W.drew Tpd zPd) P0 Tpd (.tmp 5) (.tmp 19) rfl rfl rfl rfl SZD.out HLN.out ONE.out ?_
  intro W4 hm4 hg4
  simp only [List.getElem_toArray, List.getElem_cons_succ, List.getElem_cons_zero, Act.put]
  have HBd := Lib.hid (belowNew (belowSelf W.drew (.cells zPd.toArray Tpd)) hg4 (Nat.le_refl _))
  have HB4 := Lib.hid (belowThen (below_drewN (Below.refl W.heap.size W) 1) HBd.out)
  have HS4 := Lib.hid (HS0.out.below HBd.out)
  have HM4 := Lib.hid (show Mem W4 W.heap.size Tpd P0 from hm4)
  refine hK.out _ _ HS4.out (fun hH9 => ?_)
  clear hK K hm4 hg4
  refine wpAnyH_done (by kernel_rfl) ?_ _
  clear hHeld hH1 hH9 HS1
  rename_i Kz hKz
  refine hKz _ _ ?_
  go_wp2_with fail
  have HT0 := Lib.hid (show (fun w2 => Wv w2 wb base (.slice (some ⟨g, 0, none⟩) (rest.length + 1) cap) vt (((x, z), lv) :: rest, out, got) ∧ Mem w2 W.heap.size Tpd P0) W4.drew from ⟨HS4.out.below (below_drewN (Below.refl _ _) 1), HM4.out.drew⟩)
  refine wp_region_held_drew (S := fun w2 => Wv w2 wb base (.slice (some ⟨g, 0, none⟩) (rest.length + 1) cap) vt (((x, z), lv) :: rest, out, got) ∧ Mem w2 W.heap.size Tpd P0) (by kernel_rfl) HT0.out (fun hHeld => ?_)
  refine wpAnyH_take (i := 0) (oi := { dst := some 20, op := Op.fieldAddr 117 (Operand.tmp 5) 0, type := 0, pos := "weave.go:59", after := #[], guard := none }) (v := .pointer (some ⟨W.heap.size, 0, none⟩)) rfl (by kernel_rfl) (by kernel_rfl) (by kernel_rfl) (fun _ _ _ h => h) (Or.inl ⟨by rfl, ?_⟩) hHeld ?_
  · intro w' hSw
    obtain ⟨-, z2⟩ := hSw
    have y0 : w'.cell? ⟨W.heap.size, 0, none⟩ = some (.int .i64 (kd : Int)) := (z2.cell 0).trans H0.out
    clear z2
    go_simp
  simp only [Act.put, List.setIfInBounds_toArray, List.set_cons_zero, List.set_cons_succ]
  refine wpAnyH_take (i := 1) (oi := { dst := some 21, op := Op.fieldAddr 113 (Operand.tmp 20) 0, type := 0, pos := "weave.go:59", after := #[{ on := 0, ground := Ground.data }], guard := none }) (v := .pointer (some ⟨W.heap.size, 0, none⟩)) rfl (by kernel_rfl) (by kernel_rfl) (by kernel_rfl) (fun _ _ _ h => h) (Or.inl ⟨by rfl, ?_⟩) hHeld ?_
  · intro w' hSw
    obtain ⟨-, z2⟩ := hSw
    have y0 : w'.cell? ⟨W.heap.size, 0, none⟩ = some (.int .i64 (kd : Int)) := (z2.cell 0).trans H0.out
    clear z2
    go_simp
  simp only [Act.put, List.setIfInBounds_toArray, List.set_cons_zero, List.set_cons_succ]
  refine wpAnyH_take (i := 2) (oi := { dst := some 22, op := Op.load 3 (Operand.tmp 21), type := 3, pos := "weave.go:59", after := #[{ on := 1, ground := Ground.data }], guard := none }) (v := .int .i64 (kd : Int)) rfl (by kernel_rfl) (by kernel_rfl) (by kernel_rfl) (fun _ _ _ h => h) (Or.inl ⟨by rfl, ?_⟩) hHeld ?_
  · intro w' hSw
    obtain ⟨-, z2⟩ := hSw
    have y0 : w'.cell? ⟨W.heap.size, 0, none⟩ = some (.int .i64 (kd : Int)) := (z2.cell 0).trans H0.out
    clear z2
    go_simp
  simp only [Act.put, List.setIfInBounds_toArray, List.set_cons_zero, List.set_cons_succ]
  refine wpAnyH_take (i := 3) (oi := { dst := some 23, op := Op.move (Operand.tmp 1), type := 9, pos := "weave.go:59", after := #[], guard := none }) (v := .string (str t)) rfl (by kernel_rfl) (by kernel_rfl) (by kernel_rfl) (fun _ _ _ h => h) (Or.inl ⟨by rfl, ?_⟩) hHeld ?_
  · intro w' hSw
    obtain ⟨-, z2⟩ := hSw
    have y0 : w'.cell? ⟨W.heap.size, 0, none⟩ = some (.int .i64 (kd : Int)) := (z2.cell 0).trans H0.out
    clear z2
    go_simp
  simp only [Act.put, List.setIfInBounds_toArray, List.set_cons_zero, List.set_cons_succ]
  refine wpAnyH_take (i := 6) (oi := { dst := some 26, op := Op.fieldAddr 117 (Operand.tmp 5) 0, type := 0, pos := "weave.go:59", after := #[], guard := none }) (v := .pointer (some ⟨W.heap.size, 0, none⟩)) rfl (by kernel_rfl) (by kernel_rfl) (by kernel_rfl) (fun _ _ _ h => h) (Or.inl ⟨by rfl, ?_⟩) hHeld ?_
  · intro w' hSw
    obtain ⟨-, z2⟩ := hSw
    have y0 : w'.cell? ⟨W.heap.size, 0, none⟩ = some (.int .i64 (kd : Int)) := (z2.cell 0).trans H0.out
    clear z2
    go_simp
  simp only [Act.put, List.setIfInBounds_toArray, List.set_cons_zero, List.set_cons_succ]
  refine wpAnyH_take (i := 7) (oi := { dst := some 27, op := Op.fieldAddr 113 (Operand.tmp 26) 1, type := 0, pos := "weave.go:59", after := #[{ on := 6, ground := Ground.data }], guard := none }) (v := .pointer (some ⟨W.heap.size, 1, none⟩)) rfl (by kernel_rfl) (by kernel_rfl) (by kernel_rfl) (fun _ _ _ h => h) (Or.inl ⟨by rfl, ?_⟩) hHeld ?_
  · intro w' hSw
    obtain ⟨-, z2⟩ := hSw
    have y0 : w'.cell? ⟨W.heap.size, 0, none⟩ = some (.int .i64 (kd : Int)) := (z2.cell 0).trans H0.out
    clear z2
    go_simp
  simp only [Act.put, List.setIfInBounds_toArray, List.set_cons_zero, List.set_cons_succ]
  refine wpAnyH_take (i := 8) (oi := { dst := some 28, op := Op.fieldAddr 43 (Operand.tmp 27) 0, type := 0, pos := "weave.go:59", after := #[{ on := 7, ground := Ground.data }], guard := none }) (v := .pointer (some ⟨W.heap.size, 1, none⟩)) rfl (by kernel_rfl) (by kernel_rfl) (by kernel_rfl) (fun _ _ _ h => h) (Or.inl ⟨by rfl, ?_⟩) hHeld ?_
  · intro w' hSw
    obtain ⟨-, z2⟩ := hSw
    have y0 : w'.cell? ⟨W.heap.size, 0, none⟩ = some (.int .i64 (kd : Int)) := (z2.cell 0).trans H0.out
    clear z2
    go_simp
  simp only [Act.put, List.setIfInBounds_toArray, List.set_cons_zero, List.set_cons_succ]
  refine wpAnyH_take (i := 9) (oi := { dst := some 29, op := Op.load 41 (Operand.tmp 28), type := 41, pos := "weave.go:59", after := #[{ on := 8, ground := Ground.data }], guard := none }) (v := _) rfl (by kernel_rfl) (by kernel_rfl) (by kernel_rfl) (fun _ _ _ h => h) (yieldsIf_load_mid (by rfl) TI (.tmp 28) rfl W.heap.size (1) rfl (x.map byteV) (.array 32 5) (fun w hS => fun j u hu => (hS.2.cell (1 + j)).trans (H1.out j u hu)) Tryd.underlying41 rfl SZX.out) hHeld ?_
  simp only [Act.put, List.setIfInBounds_toArray, List.set_cons_zero, List.set_cons_succ]
  refine wpAnyH_ready (rs := [4]) (by kernel_rfl) (by simp) (AllReadyH.cons rfl (fun K hK => ?_) AllReadyH.nil)
  go_simp
  have HT1 := Lib.hid (show (fun w2 => Wv w2 wb base (.slice (some ⟨g, 0, none⟩) (rest.length + 1) cap) vt (((x, z), lv) :: rest, out, got) ∧ Mem w2 W.heap.size Tpd P0) (W4.drew.alloc (.cells #[tx t] 9)) from ⟨HT0.out.1.below (belowSelf _ _), HT0.out.2.alloc _⟩)
  refine hK.out _ _ HT1.out (fun hH1 => ?_)
  clear hK K
  refine wpAnyH_ready (rs := [5]) (by kernel_rfl) (by simp) (AllReadyH.cons rfl (fun K hK => ?_) AllReadyH.nil)
  go_simp
  refine (HOF.out W4.drew (HC.out.below (belowThen (below_drewN HB4.out 1) (belowSelf _ _)))).mono ?_
  rintro e w6 ⟨rfl, hb6⟩
  dsimp only
  have HT2 := Lib.hid (show (fun w2 => Wv w2 wb base (.slice (some ⟨g, 0, none⟩) (rest.length + 1) cap) vt (((x, z), lv) :: rest, out, got) ∧ Mem w2 W.heap.size Tpd P0) w6 from ⟨HT1.out.1.below hb6, HT1.out.2.below hb6 HT1.out.2.lt⟩)
  have HB6 := Lib.hid (belowThen (belowThen (below_drewN HB4.out 1) (belowSelf _ _)) hb6)
  refine hK.out _ _ HT2.out (fun hH2 => ?_)
  clear hK K hb6
  refine wpAnyH_take (i := 10) (oi := { dst := some 30, op := Op.binOp BinOp.neq 41 (Operand.tmp 25) (Operand.tmp 29) 41, type := 4, pos := "weave.go:59", after := #[{ on := 5, ground := Ground.data }, { on := 9, ground := Ground.data }], guard := none }) (v := .bool true) rfl (by kernel_rfl) (by kernel_rfl) (by kernel_rfl) (fun _ _ _ h => h) (Or.inl ⟨by rfl, ?_⟩) hH2 ?_
  · intro w' hSw
    obtain ⟨-, z2⟩ := hSw
    have y0 : w'.cell? ⟨W.heap.size, 0, none⟩ = some (.int .i64 (kd : Int)) := (z2.cell 0).trans H0.out
    clear z2
    go_simp
  simp only [Act.put, List.setIfInBounds_toArray, List.set_cons_zero, List.set_cons_succ]
  refine wpAnyH_done (by kernel_rfl) ?_ _
  clear hHeld hH1 hH2 HT0 HT1
  rename_i Kz hKz
  refine hKz _ _ ?_
  go_wp2_with fail
  go_ret
  have hf := Fr.of_below (wb := wb) (vp := .slice (some ⟨g, 0, none⟩) (rest.length + 1) cap) (vt := vt) hbs HB6.out
  have hw := HT2.out.1
  rw [HG.out]
  first | exact ⟨rfl, _, _, hw, hf⟩ | exact ⟨rfl, ⟨_, _, hw⟩, hf⟩
set_option maxRecDepth 100000 in
set_option maxHeartbeats 600000 in
theorem give_chunk (W : World) (wb base g cap : Nat) (vt : Value) (s : Stp) (rest : List Stp) (out : List UInt8) (got : Nat) (t : List UInt8) (hc : Consts W) (hgot : got ≤ 1000000) (hl : rest.length ≤ 1000000) (hol : out.length ≤ 1000000000) (htl : t.length ≤ 1000000) (h32 : s.1.1.length = 32) (hbs : base ≤ W.heap.size) (h : Wv W wb base (.slice (some ⟨g, 0, none⟩) (rest.length + 1) cap) vt (s :: rest, out, got)) (hn : oidOf (kindS s) t = s.1.1) (h0 : s.2 = 0) :
    Calls Tryd.prog 25 #[ptr wb, .string (str t)] W fun e w' => e = .returned (.int .i64 (giveW (s :: rest, out, got) t).2) ∧ ∃ vp' vt', Wv w' wb base vp' vt' (giveW (s :: rest, out, got) t).1 ∧ Fr base wb (.slice (some ⟨g, 0, none⟩) (rest.length + 1) cap) vt W w' := by
  have HC := Lib.hid hc
  have HOV := Lib.hid (over_any W wb base _ vt _ h)
  have HW := Lib.hid h
  have hcap : rest.length + 1 ≤ cap := by
    obtain ⟨g', cap', hv, hcp, _⟩ := h.cons
    injection hv with _ _ hv
    rw [hv]
    exact hcp
  have HOF := Lib.hid (fun (W2 : World) hc => ofTxt (kindS s) (by unfold kindS; split <;> omega) t htl W2 hc)
  have HNL := Lib.hid (length_oidOf (kindS s) t)
  have H0 := Lib.hid (show (pdC s)[0]? = some (.int .i64 ((kindS s : Nat) : Int)) from rfl)
  have H1 := Lib.hid (show ∀ j u, (s.1.1.map byteV)[j]? = some u → (pdC s)[1 + j]? = some u from fun j u hu => by
    unfold pdC pdC3 wtC ptC
    rw [Nat.add_comm 1 j, List.cons_append, List.getElem?_cons_succ, List.append_assoc, List.getElem?_append_left (List.getElem?_eq_some_iff.1 hu).1]
    exact hu)
  have SZD := Lib.hid (show (Tryd.prog.info? Tpd).map (·.size) = some (pdC s).length from sz_pd _ s.1 _ h32)
  have SZX := Lib.hid (sz_id s.1.1 h32)
  have ONE := Lib.hid (show ∀ u ∈ pdC s, u.oneCell' = true from one_pdC3 _ _ _)
  have HLN := Lib.hid (show zPd.length = (pdC s).length from by rw [show (pdC s).length = 35 from length_pdC3 _ s.1 _ h32]; rfl)
  have hkd : kindS s = 1 := by unfold kindS; rw [if_pos h0]
  have HGV := Lib.hid (fun (W2 : World) hb2 hw2 => giveChunk_any W2 wb base g cap vt s rest out got t hgot hl hol htl h32 hb2 hw2 hn h0)
  have hkb : ((kindS s : Nat) : Int) = 1 := by rw [hkd]; rfl
  obtain ⟨nm, hnm⟩ : ∃ c, c = oidOf (kindS s) t := ⟨_, rfl⟩
  rw [← hnm] at HOF HNL hn
  obtain ⟨kd, hkde⟩ : ∃ c, c = kindS s := ⟨_, rfl⟩
  simp only [← hkde] at H0 HOF hkb hkd
  have hk2 : ((kd : Int) == 2) = false := by rw [hkb]; rfl
  clear hkb hkd h0
  obtain ⟨⟨x, z⟩, lv⟩ := s
  simp only at h32 H1 SZX hn
  have heq : ∀ W, (binOp .neq TI (.agg (nm.map byteV).toArray) (.agg (x.map byteV).toArray)).run Tryd.prog W = .ok (.bool false) W := fun W => by
    rw [run_neq_bytes (P := Tryd.prog) TI 5 32 Tryd.underlying41 Tryd.underlying5 (by kernel_rfl) nm x HNL.out h32 W]; simp [hn]
  obtain ⟨P0, hP0⟩ : ∃ c, c = pdC ((x, z), lv) := ⟨_, rfl⟩
  rw [← hP0] at H0 H1 SZD ONE HLN
  have HP0 := Lib.hid hP0
  have hwr : IntKind.i64.wrap (rest.length : Int) = (rest.length : Int) := IntWalk.i64_in _ (by omega)
  have HS0 := Lib.hid (HW.out.below (below_drewN (Below.refl _ _) 1))
  clear h hc hnm hkde hP0 hn
  go_enter Tryd.func25, Tryd.ntmps25
  go_wp2_with fail
  refine HOV.out.mono ?_
  rintro e w1 ⟨rfl, rfl⟩
  go_wp2_with fail
  refine wp_region_held_drew (S := fun w2 => Wv w2 wb base (.slice (some ⟨g, 0, none⟩) (rest.length + 1) cap) vt (((x, z), lv) :: rest, out, got)) (by kernel_rfl) HS0.out (fun hHeld => ?_)
  refine wpAnyH_take (i := 0) (oi := { dst := some 8, op := Op.move (Operand.tmp 0), type := 63, pos := "weave.go:58", after := #[], guard := none }) (v := .pointer (some ⟨wb, 0, none⟩)) rfl (by kernel_rfl) (by kernel_rfl) (by kernel_rfl) (fun _ _ _ h => h) (Or.inl ⟨by rfl, ?_⟩) hHeld ?_
  · intro w' hSw
    have y0 : w'.cell? ⟨wb, 0, none⟩ = some (.slice (some ⟨g, 0, none⟩) (rest.length + 1) cap) := hSw.1.cell 0
    clear hSw
    go_simp
  simp only [Act.put, List.setIfInBounds_toArray, List.set_cons_zero, List.set_cons_succ]
  refine wpAnyH_take (i := 1) (oi := { dst := some 9, op := Op.nilCheck (Operand.tmp 8), type := 0, pos := "weave.go:58", after := #[{ on := 0, ground := Ground.data }], guard := none }) (v := .pointer (some ⟨wb, 0, none⟩)) rfl (by kernel_rfl) (by kernel_rfl) (by kernel_rfl) (fun _ _ _ h => h) (Or.inl ⟨by rfl, ?_⟩) hHeld ?_
  · intro w' hSw
    have y0 : w'.cell? ⟨wb, 0, none⟩ = some (.slice (some ⟨g, 0, none⟩) (rest.length + 1) cap) := hSw.1.cell 0
    clear hSw
    go_simp
  simp only [Act.put, List.setIfInBounds_toArray, List.set_cons_zero, List.set_cons_succ]
  refine wpAnyH_take (i := 2) (oi := { dst := some 10, op := Op.fieldAddr 120 (Operand.tmp 9) 0, type := 0, pos := "weave.go:58", after := #[{ on := 1, ground := Ground.data }], guard := none }) (v := .pointer (some ⟨wb, 0, none⟩)) rfl (by kernel_rfl) (by kernel_rfl) (by kernel_rfl) (fun _ _ _ h => h) (Or.inl ⟨by rfl, ?_⟩) hHeld ?_
  · intro w' hSw
    have y0 : w'.cell? ⟨wb, 0, none⟩ = some (.slice (some ⟨g, 0, none⟩) (rest.length + 1) cap) := hSw.1.cell 0
    clear hSw
    go_simp
  simp only [Act.put, List.setIfInBounds_toArray, List.set_cons_zero, List.set_cons_succ]
  refine wpAnyH_take (i := 3) (oi := { dst := some 11, op := Op.load 118 (Operand.tmp 10), type := 118, pos := "weave.go:58", after := #[{ on := 2, ground := Ground.data }], guard := none }) (v := .slice (some ⟨g, 0, none⟩) (rest.length + 1) cap) rfl (by kernel_rfl) (by kernel_rfl) (by kernel_rfl) (fun _ _ _ h => h) (Or.inl ⟨by rfl, ?_⟩) hHeld ?_
  · intro w' hSw
    have y0 : w'.cell? ⟨wb, 0, none⟩ = some (.slice (some ⟨g, 0, none⟩) (rest.length + 1) cap) := hSw.1.cell 0
    clear hSw
    go_simp
  simp only [Act.put, List.setIfInBounds_toArray, List.set_cons_zero, List.set_cons_succ]
  refine wpAnyH_take (i := 4) (oi := { dst := some 12, op := Op.move (Operand.tmp 0), type := 63, pos := "weave.go:58", after := #[], guard := none }) (v := .pointer (some ⟨wb, 0, none⟩)) rfl (by kernel_rfl) (by kernel_rfl) (by kernel_rfl) (fun _ _ _ h => h) (Or.inl ⟨by rfl, ?_⟩) hHeld ?_
  · intro w' hSw
    have y0 : w'.cell? ⟨wb, 0, none⟩ = some (.slice (some ⟨g, 0, none⟩) (rest.length + 1) cap) := hSw.1.cell 0
    clear hSw
    go_simp
  simp only [Act.put, List.setIfInBounds_toArray, List.set_cons_zero, List.set_cons_succ]
  refine wpAnyH_take (i := 5) (oi := { dst := some 13, op := Op.nilCheck (Operand.tmp 12), type := 0, pos := "weave.go:58", after := #[{ on := 4, ground := Ground.data }], guard := none }) (v := .pointer (some ⟨wb, 0, none⟩)) rfl (by kernel_rfl) (by kernel_rfl) (by kernel_rfl) (fun _ _ _ h => h) (Or.inl ⟨by rfl, ?_⟩) hHeld ?_
  · intro w' hSw
    have y0 : w'.cell? ⟨wb, 0, none⟩ = some (.slice (some ⟨g, 0, none⟩) (rest.length + 1) cap) := hSw.1.cell 0
    clear hSw
    go_simp
  simp only [Act.put, List.setIfInBounds_toArray, List.set_cons_zero, List.set_cons_succ]
  refine wpAnyH_take (i := 6) (oi := { dst := some 14, op := Op.fieldAddr 120 (Operand.tmp 13) 0, type := 0, pos := "weave.go:58", after := #[{ on := 5, ground := Ground.data }], guard := none }) (v := .pointer (some ⟨wb, 0, none⟩)) rfl (by kernel_rfl) (by kernel_rfl) (by kernel_rfl) (fun _ _ _ h => h) (Or.inl ⟨by rfl, ?_⟩) hHeld ?_
  · intro w' hSw
    have y0 : w'.cell? ⟨wb, 0, none⟩ = some (.slice (some ⟨g, 0, none⟩) (rest.length + 1) cap) := hSw.1.cell 0
    clear hSw
    go_simp
  simp only [Act.put, List.setIfInBounds_toArray, List.set_cons_zero, List.set_cons_succ]
  refine wpAnyH_take (i := 7) (oi := { dst := some 15, op := Op.load 118 (Operand.tmp 14), type := 118, pos := "weave.go:58", after := #[{ on := 6, ground := Ground.data }], guard := none }) (v := .slice (some ⟨g, 0, none⟩) (rest.length + 1) cap) rfl (by kernel_rfl) (by kernel_rfl) (by kernel_rfl) (fun _ _ _ h => h) (Or.inl ⟨by rfl, ?_⟩) hHeld ?_
  · intro w' hSw
    have y0 : w'.cell? ⟨wb, 0, none⟩ = some (.slice (some ⟨g, 0, none⟩) (rest.length + 1) cap) := hSw.1.cell 0
    clear hSw
    go_simp
  simp only [Act.put, List.setIfInBounds_toArray, List.set_cons_zero, List.set_cons_succ]
  refine wpAnyH_take (i := 8) (oi := { dst := some 16, op := Op.call { callee := Callee.builtin Builtin.len, args := #[Operand.tmp 15], argTypes := #[118] }, type := 3, pos := "weave.go:58", after := #[{ on := 7, ground := Ground.data }], guard := none }) (v := .int .i64 ((rest.length : Int) + 1)) rfl (by kernel_rfl) (by kernel_rfl) (by kernel_rfl) (fun _ _ _ h => h) (Or.inl ⟨by rfl, ?_⟩) hHeld ?_
  · intro w' hSw
    have y0 : w'.cell? ⟨wb, 0, none⟩ = some (.slice (some ⟨g, 0, none⟩) (rest.length + 1) cap) := hSw.1.cell 0
    clear hSw
    go_simp
  simp only [Act.put, List.setIfInBounds_toArray, List.set_cons_zero, List.set_cons_succ]
  refine wpAnyH_take (i := 9) (oi := { dst := some 17, op := Op.binOp BinOp.sub 3 (Operand.tmp 16) (Operand.const (Value.int IntKind.i64 1)) 3, type := 3, pos := "weave.go:58", after := #[{ on := 8, ground := Ground.data }], guard := none }) (v := .int .i64 (rest.length : Int)) rfl (by kernel_rfl) (by kernel_rfl) (by kernel_rfl) (fun _ _ _ h => h) (Or.inl ⟨by rfl, ?_⟩) hHeld ?_
  · intro w' hSw
    have y0 : w'.cell? ⟨wb, 0, none⟩ = some (.slice (some ⟨g, 0, none⟩) (rest.length + 1) cap) := hSw.1.cell 0
    clear hSw
    go_simp <;> omega
  simp only [Act.put, List.setIfInBounds_toArray, List.set_cons_zero, List.set_cons_succ]
  refine wpAnyH_take (i := 10) (oi := { dst := some 18, op := Op.indexAddr 118 (Operand.tmp 11) (Operand.tmp 17), type := 0, pos := "weave.go:58", after := #[{ on := 3, ground := Ground.data }, { on := 9, ground := Ground.data }], guard := none }) (v := .pointer (some ⟨g, rest.length * 35, none⟩)) rfl (by kernel_rfl) (by kernel_rfl) (by kernel_rfl) (fun _ _ _ h => h) (Or.inl ⟨by rfl, ?_⟩) hHeld ?_
  · intro w' hSw
    have y0 : w'.cell? ⟨wb, 0, none⟩ = some (.slice (some ⟨g, 0, none⟩) (rest.length + 1) cap) := hSw.1.cell 0
    clear hSw
    go_simp <;> omega
  simp only [Act.put, List.setIfInBounds_toArray, List.set_cons_zero, List.set_cons_succ]
  refine wpAnyH_take (i := 11) (oi := { dst := some 19, op := Op.load 117 (Operand.tmp 18), type := 117, pos := "weave.go:58", after := #[{ on := 10, ground := Ground.data }], guard := none }) (v := _) rfl (by kernel_rfl) (by kernel_rfl) (by kernel_rfl) (fun _ _ _ h => h) (yieldsIf_load_mid (by rfl) Tpd (.tmp 18) rfl g (rest.length * 35) rfl (P0) (_) (fun w hS => HP0.out ▸ hS.at) Tryd.underlying117 rfl SZD.out) hHeld ?_
  simp only [Act.put, List.setIfInBounds_toArray, List.set_cons_zero, List.set_cons_succ]
  refine wpAnyH_ready (rs := [12]) (by kernel_rfl) (by simp) (AllReadyH.cons rfl (fun K hK => ?_) AllReadyH.nil)
  go_simp
  have HS1 := Lib.hid (HS0.out.below (belowSelf W.drew (.cells zPd.toArray Tpd)))
  refine hK.out _ _ HS1.out (fun hH1 => ?_)
  clear hK K
  refine wpAnyH_ready (rs := [13]) (by kernel_rfl) (by simp) (AllReadyH.cons rfl (fun K hK => ?_) AllReadyH.nil)
  refine step_store_mem (Mem.new W.drew Tpd zPd) P0 Tpd (.tmp 5) (.tmp 19) rfl rfl rfl rfl SZD.out HLN.out ONE.out ?_
  intro W4 hm4 hg4
  simp only [List.getElem_toArray, List.getElem_cons_succ, List.getElem_cons_zero, Act.put]
  have HBd := Lib.hid (belowNew (belowSelf W.drew (.cells zPd.toArray Tpd)) hg4 (Nat.le_refl _))
  have HB4 := Lib.hid (belowThen (below_drewN (Below.refl W.heap.size W) 1) HBd.out)
  have HS4 := Lib.hid (HS0.out.below HBd.out)
  have HM4 := Lib.hid (show Mem W4 W.heap.size Tpd P0 from hm4)
  refine hK.out _ _ HS4.out (fun hH9 => ?_)
  clear hK K hm4 hg4
  refine wpAnyH_done (by kernel_rfl) ?_ _
  clear hHeld hH1 hH9 HS1
  rename_i Kz hKz
  refine hKz _ _ ?_
  go_wp2_with fail
  have HT0 := Lib.hid (show (fun w2 => Wv w2 wb base (.slice (some ⟨g, 0, none⟩) (rest.length + 1) cap) vt (((x, z), lv) :: rest, out, got) ∧ Mem w2 W.heap.size Tpd P0) W4.drew from ⟨HS4.out.below (below_drewN (Below.refl _ _) 1), HM4.out.drew⟩)
  refine wp_region_held_drew (S := fun w2 => Wv w2 wb base (.slice (some ⟨g, 0, none⟩) (rest.length + 1) cap) vt (((x, z), lv) :: rest, out, got) ∧ Mem w2 W.heap.size Tpd P0) (by kernel_rfl) HT0.out (fun hHeld => ?_)
  refine wpAnyH_take (i := 0) (oi := { dst := some 20, op := Op.fieldAddr 117 (Operand.tmp 5) 0, type := 0, pos := "weave.go:59", after := #[], guard := none }) (v := .pointer (some ⟨W.heap.size, 0, none⟩)) rfl (by kernel_rfl) (by kernel_rfl) (by kernel_rfl) (fun _ _ _ h => h) (Or.inl ⟨by rfl, ?_⟩) hHeld ?_
  · intro w' hSw
    obtain ⟨-, z2⟩ := hSw
    have y0 : w'.cell? ⟨W.heap.size, 0, none⟩ = some (.int .i64 (kd : Int)) := (z2.cell 0).trans H0.out
    clear z2
    go_simp
  simp only [Act.put, List.setIfInBounds_toArray, List.set_cons_zero, List.set_cons_succ]
  refine wpAnyH_take (i := 1) (oi := { dst := some 21, op := Op.fieldAddr 113 (Operand.tmp 20) 0, type := 0, pos := "weave.go:59", after := #[{ on := 0, ground := Ground.data }], guard := none }) (v := .pointer (some ⟨W.heap.size, 0, none⟩)) rfl (by kernel_rfl) (by kernel_rfl) (by kernel_rfl) (fun _ _ _ h => h) (Or.inl ⟨by rfl, ?_⟩) hHeld ?_
  · intro w' hSw
    obtain ⟨-, z2⟩ := hSw
    have y0 : w'.cell? ⟨W.heap.size, 0, none⟩ = some (.int .i64 (kd : Int)) := (z2.cell 0).trans H0.out
    clear z2
    go_simp
  simp only [Act.put, List.setIfInBounds_toArray, List.set_cons_zero, List.set_cons_succ]
  refine wpAnyH_take (i := 2) (oi := { dst := some 22, op := Op.load 3 (Operand.tmp 21), type := 3, pos := "weave.go:59", after := #[{ on := 1, ground := Ground.data }], guard := none }) (v := .int .i64 (kd : Int)) rfl (by kernel_rfl) (by kernel_rfl) (by kernel_rfl) (fun _ _ _ h => h) (Or.inl ⟨by rfl, ?_⟩) hHeld ?_
  · intro w' hSw
    obtain ⟨-, z2⟩ := hSw
    have y0 : w'.cell? ⟨W.heap.size, 0, none⟩ = some (.int .i64 (kd : Int)) := (z2.cell 0).trans H0.out
    clear z2
    go_simp
  simp only [Act.put, List.setIfInBounds_toArray, List.set_cons_zero, List.set_cons_succ]
  refine wpAnyH_take (i := 3) (oi := { dst := some 23, op := Op.move (Operand.tmp 1), type := 9, pos := "weave.go:59", after := #[], guard := none }) (v := .string (str t)) rfl (by kernel_rfl) (by kernel_rfl) (by kernel_rfl) (fun _ _ _ h => h) (Or.inl ⟨by rfl, ?_⟩) hHeld ?_
  · intro w' hSw
    obtain ⟨-, z2⟩ := hSw
    have y0 : w'.cell? ⟨W.heap.size, 0, none⟩ = some (.int .i64 (kd : Int)) := (z2.cell 0).trans H0.out
    clear z2
    go_simp
  simp only [Act.put, List.setIfInBounds_toArray, List.set_cons_zero, List.set_cons_succ]
  refine wpAnyH_take (i := 6) (oi := { dst := some 26, op := Op.fieldAddr 117 (Operand.tmp 5) 0, type := 0, pos := "weave.go:59", after := #[], guard := none }) (v := .pointer (some ⟨W.heap.size, 0, none⟩)) rfl (by kernel_rfl) (by kernel_rfl) (by kernel_rfl) (fun _ _ _ h => h) (Or.inl ⟨by rfl, ?_⟩) hHeld ?_
  · intro w' hSw
    obtain ⟨-, z2⟩ := hSw
    have y0 : w'.cell? ⟨W.heap.size, 0, none⟩ = some (.int .i64 (kd : Int)) := (z2.cell 0).trans H0.out
    clear z2
    go_simp
  simp only [Act.put, List.setIfInBounds_toArray, List.set_cons_zero, List.set_cons_succ]
  refine wpAnyH_take (i := 7) (oi := { dst := some 27, op := Op.fieldAddr 113 (Operand.tmp 26) 1, type := 0, pos := "weave.go:59", after := #[{ on := 6, ground := Ground.data }], guard := none }) (v := .pointer (some ⟨W.heap.size, 1, none⟩)) rfl (by kernel_rfl) (by kernel_rfl) (by kernel_rfl) (fun _ _ _ h => h) (Or.inl ⟨by rfl, ?_⟩) hHeld ?_
  · intro w' hSw
    obtain ⟨-, z2⟩ := hSw
    have y0 : w'.cell? ⟨W.heap.size, 0, none⟩ = some (.int .i64 (kd : Int)) := (z2.cell 0).trans H0.out
    clear z2
    go_simp
  simp only [Act.put, List.setIfInBounds_toArray, List.set_cons_zero, List.set_cons_succ]
  refine wpAnyH_take (i := 8) (oi := { dst := some 28, op := Op.fieldAddr 43 (Operand.tmp 27) 0, type := 0, pos := "weave.go:59", after := #[{ on := 7, ground := Ground.data }], guard := none }) (v := .pointer (some ⟨W.heap.size, 1, none⟩)) rfl (by kernel_rfl) (by kernel_rfl) (by kernel_rfl) (fun _ _ _ h => h) (Or.inl ⟨by rfl, ?_⟩) hHeld ?_
  · intro w' hSw
    obtain ⟨-, z2⟩ := hSw
    have y0 : w'.cell? ⟨W.heap.size, 0, none⟩ = some (.int .i64 (kd : Int)) := (z2.cell 0).trans H0.out
    clear z2
    go_simp
  simp only [Act.put, List.setIfInBounds_toArray, List.set_cons_zero, List.set_cons_succ]
  refine wpAnyH_take (i := 9) (oi := { dst := some 29, op := Op.load 41 (Operand.tmp 28), type := 41, pos := "weave.go:59", after := #[{ on := 8, ground := Ground.data }], guard := none }) (v := _) rfl (by kernel_rfl) (by kernel_rfl) (by kernel_rfl) (fun _ _ _ h => h) (yieldsIf_load_mid (by rfl) TI (.tmp 28) rfl W.heap.size (1) rfl (x.map byteV) (.array 32 5) (fun w hS => fun j u hu => (hS.2.cell (1 + j)).trans (H1.out j u hu)) Tryd.underlying41 rfl SZX.out) hHeld ?_
  simp only [Act.put, List.setIfInBounds_toArray, List.set_cons_zero, List.set_cons_succ]
  refine wpAnyH_ready (rs := [4]) (by kernel_rfl) (by simp) (AllReadyH.cons rfl (fun K hK => ?_) AllReadyH.nil)
  go_simp
  have HT1 := Lib.hid (show (fun w2 => Wv w2 wb base (.slice (some ⟨g, 0, none⟩) (rest.length + 1) cap) vt (((x, z), lv) :: rest, out, got) ∧ Mem w2 W.heap.size Tpd P0) (W4.drew.alloc (.cells #[tx t] 9)) from ⟨HT0.out.1.below (belowSelf _ _), HT0.out.2.alloc _⟩)
  refine hK.out _ _ HT1.out (fun hH1 => ?_)
  clear hK K
  refine wpAnyH_ready (rs := [5]) (by kernel_rfl) (by simp) (AllReadyH.cons rfl (fun K hK => ?_) AllReadyH.nil)
  go_simp
  refine (HOF.out W4.drew (HC.out.below (belowThen (below_drewN HB4.out 1) (belowSelf _ _)))).mono ?_
  rintro e w6 ⟨rfl, hb6⟩
  dsimp only
  have HT2 := Lib.hid (show (fun w2 => Wv w2 wb base (.slice (some ⟨g, 0, none⟩) (rest.length + 1) cap) vt (((x, z), lv) :: rest, out, got) ∧ Mem w2 W.heap.size Tpd P0) w6 from ⟨HT1.out.1.below hb6, HT1.out.2.below hb6 HT1.out.2.lt⟩)
  have HB6 := Lib.hid (belowThen (belowThen (below_drewN HB4.out 1) (belowSelf _ _)) hb6)
  refine hK.out _ _ HT2.out (fun hH2 => ?_)
  clear hK K hb6
  refine wpAnyH_take (i := 10) (oi := { dst := some 30, op := Op.binOp BinOp.neq 41 (Operand.tmp 25) (Operand.tmp 29) 41, type := 4, pos := "weave.go:59", after := #[{ on := 5, ground := Ground.data }, { on := 9, ground := Ground.data }], guard := none }) (v := .bool false) rfl (by kernel_rfl) (by kernel_rfl) (by kernel_rfl) (fun _ _ _ h => h) (Or.inl ⟨by rfl, ?_⟩) hH2 ?_
  · intro w' hSw
    obtain ⟨-, z2⟩ := hSw
    have y0 : w'.cell? ⟨W.heap.size, 0, none⟩ = some (.int .i64 (kd : Int)) := (z2.cell 0).trans H0.out
    clear z2
    go_simp
  simp only [Act.put, List.setIfInBounds_toArray, List.set_cons_zero, List.set_cons_succ]
  refine wpAnyH_done (by kernel_rfl) ?_ _
  clear hHeld hH1 hH2 HT0 HT1
  rename_i Kz hKz
  refine hKz _ _ ?_
  have y6 : w6.cell? ⟨W.heap.size, 0, none⟩ = some (.int .i64 (kd : Int)) := (HT2.out.2.cell 0).trans H0.out
  have HGG := Lib.hid (HGV.out w6 (by have := HB6.out.size; omega) HT2.out.1)
  rw [← HP0.out] at HGG
  go_wp2_with (first
    | (refine wp_load_mem HT2.out.2 Tpd (.tmp 5) _ rfl rfl rfl Tryd.underlying117 rfl SZD.out ?_)
    | fail)
  refine HGG.out.mono ?_
  rintro e w7 ⟨rfl, vp', vt', h8, h9⟩
  go_wp2_with fail
  go_ret
  have hf := h9.after hbs HB6.out
  first | exact ⟨rfl, vp', vt', h8, hf⟩ | exact ⟨rfl, ⟨vp', vt', h8⟩, hf⟩
set_option maxRecDepth 100000 in
set_option maxHeartbeats 600000 in
theorem give_node (W : World) (wb base g cap : Nat) (vt : Value) (s : Stp) (rest : List Stp) (out : List UInt8) (got : Nat) (t : List UInt8) (hc : Consts W) (hgot : got ≤ 1000000) (hl : rest.length ≤ 1000000) (_hol : out.length ≤ 1000000000) (htl : t.length ≤ 1000000) (h32 : s.1.1.length = 32) (hbs : base ≤ W.heap.size) (h : Wv W wb base (.slice (some ⟨g, 0, none⟩) (rest.length + 1) cap) vt (s :: rest, out, got)) (hn : oidOf (kindS s) t = s.1.1) (h0 : s.2 ≠ 0) :
    Calls Tryd.prog 25 #[ptr wb, .string (str t)] W fun e w' => e = .returned (.int .i64 (giveW (s :: rest, out, got) t).2) ∧ ∃ vp' vt', Wv w' wb base vp' vt' (giveW (s :: rest, out, got) t).1 ∧ Fr base wb (.slice (some ⟨g, 0, none⟩) (rest.length + 1) cap) vt W w' := by
  have HC := Lib.hid hc
  have HOV := Lib.hid (over_any W wb base _ vt _ h)
  have HW := Lib.hid h
  have hcap : rest.length + 1 ≤ cap := by
    obtain ⟨g', cap', hv, hcp, _⟩ := h.cons
    injection hv with _ _ hv
    rw [hv]
    exact hcp
  have HOF := Lib.hid (fun (W2 : World) hc => ofTxt (kindS s) (by unfold kindS; split <;> omega) t htl W2 hc)
  have HNL := Lib.hid (length_oidOf (kindS s) t)
  have H0 := Lib.hid (show (pdC s)[0]? = some (.int .i64 ((kindS s : Nat) : Int)) from rfl)
  have H1 := Lib.hid (show ∀ j u, (s.1.1.map byteV)[j]? = some u → (pdC s)[1 + j]? = some u from fun j u hu => by
    unfold pdC pdC3 wtC ptC
    rw [Nat.add_comm 1 j, List.cons_append, List.getElem?_cons_succ, List.append_assoc, List.getElem?_append_left (List.getElem?_eq_some_iff.1 hu).1]
    exact hu)
  have SZD := Lib.hid (show (Tryd.prog.info? Tpd).map (·.size) = some (pdC s).length from sz_pd _ s.1 _ h32)
  have SZX := Lib.hid (sz_id s.1.1 h32)
  have ONE := Lib.hid (show ∀ u ∈ pdC s, u.oneCell' = true from one_pdC3 _ _ _)
  have HLN := Lib.hid (show zPd.length = (pdC s).length from by rw [show (pdC s).length = 35 from length_pdC3 _ s.1 _ h32]; rfl)
  have hkd : kindS s = 2 := by unfold kindS; rw [if_neg h0]
  have HGV := Lib.hid (fun (W2 : World) hb2 hw2 => giveNode_any W2 wb base g cap vt s rest out got t hgot hl h32 hb2 hw2 hn h0)
  have hkb : ((kindS s : Nat) : Int) = 2 := by rw [hkd]; rfl
  obtain ⟨nm, hnm⟩ : ∃ c, c = oidOf (kindS s) t := ⟨_, rfl⟩
  rw [← hnm] at HOF HNL hn
  obtain ⟨kd, hkde⟩ : ∃ c, c = kindS s := ⟨_, rfl⟩
  simp only [← hkde] at H0 HOF hkb hkd
  have hk2 : ((kd : Int) == 2) = true := by rw [hkb]; rfl
  clear hkb hkd h0
  obtain ⟨⟨x, z⟩, lv⟩ := s
  simp only at h32 H1 SZX hn
  have heq : ∀ W, (binOp .neq TI (.agg (nm.map byteV).toArray) (.agg (x.map byteV).toArray)).run Tryd.prog W = .ok (.bool false) W := fun W => by
    rw [run_neq_bytes (P := Tryd.prog) TI 5 32 Tryd.underlying41 Tryd.underlying5 (by kernel_rfl) nm x HNL.out h32 W]; simp [hn]
  obtain ⟨P0, hP0⟩ : ∃ c, c = pdC ((x, z), lv) := ⟨_, rfl⟩
  rw [← hP0] at H0 H1 SZD ONE HLN
  have HP0 := Lib.hid hP0
  have hwr : IntKind.i64.wrap (rest.length : Int) = (rest.length : Int) := IntWalk.i64_in _ (by omega)
  have HS0 := Lib.hid (HW.out.below (below_drewN (Below.refl _ _) 1))
  clear h hc hnm hkde hP0 hn
  go_enter Tryd.func25, Tryd.ntmps25
  go_wp2_with fail
  refine HOV.out.mono ?_
  rintro e w1 ⟨rfl, rfl⟩
  go_wp2_with fail
  refine wp_region_held_drew (S := fun w2 => Wv w2 wb base (.slice (some ⟨g, 0, none⟩) (rest.length + 1) cap) vt (((x, z), lv) :: rest, out, got)) (by kernel_rfl) HS0.out (fun hHeld => ?_)
  refine wpAnyH_take (i := 0) (oi := { dst := some 8, op := Op.move (Operand.tmp 0), type := 63, pos := "weave.go:58", after := #[], guard := none }) (v := .pointer (some ⟨wb, 0, none⟩)) rfl (by kernel_rfl) (by kernel_rfl) (by kernel_rfl) (fun _ _ _ h => h) (Or.inl ⟨by rfl, ?_⟩) hHeld ?_
  · intro w' hSw
    have y0 : w'.cell? ⟨wb, 0, none⟩ = some (.slice (some ⟨g, 0, none⟩) (rest.length + 1) cap) := hSw.1.cell 0
    clear hSw
    go_simp
  simp only [Act.put, List.setIfInBounds_toArray, List.set_cons_zero, List.set_cons_succ]
  refine wpAnyH_take (i := 1) (oi := { dst := some 9, op := Op.nilCheck (Operand.tmp 8), type := 0, pos := "weave.go:58", after := #[{ on := 0, ground := Ground.data }], guard := none }) (v := .pointer (some ⟨wb, 0, none⟩)) rfl (by kernel_rfl) (by kernel_rfl) (by kernel_rfl) (fun _ _ _ h => h) (Or.inl ⟨by rfl, ?_⟩) hHeld ?_
  · intro w' hSw
    have y0 : w'.cell? ⟨wb, 0, none⟩ = some (.slice (some ⟨g, 0, none⟩) (rest.length + 1) cap) := hSw.1.cell 0
    clear hSw
    go_simp
  simp only [Act.put, List.setIfInBounds_toArray, List.set_cons_zero, List.set_cons_succ]
  refine wpAnyH_take (i := 2) (oi := { dst := some 10, op := Op.fieldAddr 120 (Operand.tmp 9) 0, type := 0, pos := "weave.go:58", after := #[{ on := 1, ground := Ground.data }], guard := none }) (v := .pointer (some ⟨wb, 0, none⟩)) rfl (by kernel_rfl) (by kernel_rfl) (by kernel_rfl) (fun _ _ _ h => h) (Or.inl ⟨by rfl, ?_⟩) hHeld ?_
  · intro w' hSw
    have y0 : w'.cell? ⟨wb, 0, none⟩ = some (.slice (some ⟨g, 0, none⟩) (rest.length + 1) cap) := hSw.1.cell 0
    clear hSw
    go_simp
  simp only [Act.put, List.setIfInBounds_toArray, List.set_cons_zero, List.set_cons_succ]
  refine wpAnyH_take (i := 3) (oi := { dst := some 11, op := Op.load 118 (Operand.tmp 10), type := 118, pos := "weave.go:58", after := #[{ on := 2, ground := Ground.data }], guard := none }) (v := .slice (some ⟨g, 0, none⟩) (rest.length + 1) cap) rfl (by kernel_rfl) (by kernel_rfl) (by kernel_rfl) (fun _ _ _ h => h) (Or.inl ⟨by rfl, ?_⟩) hHeld ?_
  · intro w' hSw
    have y0 : w'.cell? ⟨wb, 0, none⟩ = some (.slice (some ⟨g, 0, none⟩) (rest.length + 1) cap) := hSw.1.cell 0
    clear hSw
    go_simp
  simp only [Act.put, List.setIfInBounds_toArray, List.set_cons_zero, List.set_cons_succ]
  refine wpAnyH_take (i := 4) (oi := { dst := some 12, op := Op.move (Operand.tmp 0), type := 63, pos := "weave.go:58", after := #[], guard := none }) (v := .pointer (some ⟨wb, 0, none⟩)) rfl (by kernel_rfl) (by kernel_rfl) (by kernel_rfl) (fun _ _ _ h => h) (Or.inl ⟨by rfl, ?_⟩) hHeld ?_
  · intro w' hSw
    have y0 : w'.cell? ⟨wb, 0, none⟩ = some (.slice (some ⟨g, 0, none⟩) (rest.length + 1) cap) := hSw.1.cell 0
    clear hSw
    go_simp
  simp only [Act.put, List.setIfInBounds_toArray, List.set_cons_zero, List.set_cons_succ]
  refine wpAnyH_take (i := 5) (oi := { dst := some 13, op := Op.nilCheck (Operand.tmp 12), type := 0, pos := "weave.go:58", after := #[{ on := 4, ground := Ground.data }], guard := none }) (v := .pointer (some ⟨wb, 0, none⟩)) rfl (by kernel_rfl) (by kernel_rfl) (by kernel_rfl) (fun _ _ _ h => h) (Or.inl ⟨by rfl, ?_⟩) hHeld ?_
  · intro w' hSw
    have y0 : w'.cell? ⟨wb, 0, none⟩ = some (.slice (some ⟨g, 0, none⟩) (rest.length + 1) cap) := hSw.1.cell 0
    clear hSw
    go_simp
  simp only [Act.put, List.setIfInBounds_toArray, List.set_cons_zero, List.set_cons_succ]
  refine wpAnyH_take (i := 6) (oi := { dst := some 14, op := Op.fieldAddr 120 (Operand.tmp 13) 0, type := 0, pos := "weave.go:58", after := #[{ on := 5, ground := Ground.data }], guard := none }) (v := .pointer (some ⟨wb, 0, none⟩)) rfl (by kernel_rfl) (by kernel_rfl) (by kernel_rfl) (fun _ _ _ h => h) (Or.inl ⟨by rfl, ?_⟩) hHeld ?_
  · intro w' hSw
    have y0 : w'.cell? ⟨wb, 0, none⟩ = some (.slice (some ⟨g, 0, none⟩) (rest.length + 1) cap) := hSw.1.cell 0
    clear hSw
    go_simp
  simp only [Act.put, List.setIfInBounds_toArray, List.set_cons_zero, List.set_cons_succ]
  refine wpAnyH_take (i := 7) (oi := { dst := some 15, op := Op.load 118 (Operand.tmp 14), type := 118, pos := "weave.go:58", after := #[{ on := 6, ground := Ground.data }], guard := none }) (v := .slice (some ⟨g, 0, none⟩) (rest.length + 1) cap) rfl (by kernel_rfl) (by kernel_rfl) (by kernel_rfl) (fun _ _ _ h => h) (Or.inl ⟨by rfl, ?_⟩) hHeld ?_
  · intro w' hSw
    have y0 : w'.cell? ⟨wb, 0, none⟩ = some (.slice (some ⟨g, 0, none⟩) (rest.length + 1) cap) := hSw.1.cell 0
    clear hSw
    go_simp
  simp only [Act.put, List.setIfInBounds_toArray, List.set_cons_zero, List.set_cons_succ]
  refine wpAnyH_take (i := 8) (oi := { dst := some 16, op := Op.call { callee := Callee.builtin Builtin.len, args := #[Operand.tmp 15], argTypes := #[118] }, type := 3, pos := "weave.go:58", after := #[{ on := 7, ground := Ground.data }], guard := none }) (v := .int .i64 ((rest.length : Int) + 1)) rfl (by kernel_rfl) (by kernel_rfl) (by kernel_rfl) (fun _ _ _ h => h) (Or.inl ⟨by rfl, ?_⟩) hHeld ?_
  · intro w' hSw
    have y0 : w'.cell? ⟨wb, 0, none⟩ = some (.slice (some ⟨g, 0, none⟩) (rest.length + 1) cap) := hSw.1.cell 0
    clear hSw
    go_simp
  simp only [Act.put, List.setIfInBounds_toArray, List.set_cons_zero, List.set_cons_succ]
  refine wpAnyH_take (i := 9) (oi := { dst := some 17, op := Op.binOp BinOp.sub 3 (Operand.tmp 16) (Operand.const (Value.int IntKind.i64 1)) 3, type := 3, pos := "weave.go:58", after := #[{ on := 8, ground := Ground.data }], guard := none }) (v := .int .i64 (rest.length : Int)) rfl (by kernel_rfl) (by kernel_rfl) (by kernel_rfl) (fun _ _ _ h => h) (Or.inl ⟨by rfl, ?_⟩) hHeld ?_
  · intro w' hSw
    have y0 : w'.cell? ⟨wb, 0, none⟩ = some (.slice (some ⟨g, 0, none⟩) (rest.length + 1) cap) := hSw.1.cell 0
    clear hSw
    go_simp <;> omega
  simp only [Act.put, List.setIfInBounds_toArray, List.set_cons_zero, List.set_cons_succ]
  refine wpAnyH_take (i := 10) (oi := { dst := some 18, op := Op.indexAddr 118 (Operand.tmp 11) (Operand.tmp 17), type := 0, pos := "weave.go:58", after := #[{ on := 3, ground := Ground.data }, { on := 9, ground := Ground.data }], guard := none }) (v := .pointer (some ⟨g, rest.length * 35, none⟩)) rfl (by kernel_rfl) (by kernel_rfl) (by kernel_rfl) (fun _ _ _ h => h) (Or.inl ⟨by rfl, ?_⟩) hHeld ?_
  · intro w' hSw
    have y0 : w'.cell? ⟨wb, 0, none⟩ = some (.slice (some ⟨g, 0, none⟩) (rest.length + 1) cap) := hSw.1.cell 0
    clear hSw
    go_simp <;> omega
  simp only [Act.put, List.setIfInBounds_toArray, List.set_cons_zero, List.set_cons_succ]
  refine wpAnyH_take (i := 11) (oi := { dst := some 19, op := Op.load 117 (Operand.tmp 18), type := 117, pos := "weave.go:58", after := #[{ on := 10, ground := Ground.data }], guard := none }) (v := _) rfl (by kernel_rfl) (by kernel_rfl) (by kernel_rfl) (fun _ _ _ h => h) (yieldsIf_load_mid (by rfl) Tpd (.tmp 18) rfl g (rest.length * 35) rfl (P0) (_) (fun w hS => HP0.out ▸ hS.at) Tryd.underlying117 rfl SZD.out) hHeld ?_
  simp only [Act.put, List.setIfInBounds_toArray, List.set_cons_zero, List.set_cons_succ]
  refine wpAnyH_ready (rs := [12]) (by kernel_rfl) (by simp) (AllReadyH.cons rfl (fun K hK => ?_) AllReadyH.nil)
  go_simp
  have HS1 := Lib.hid (HS0.out.below (belowSelf W.drew (.cells zPd.toArray Tpd)))
  refine hK.out _ _ HS1.out (fun hH1 => ?_)
  clear hK K
  refine wpAnyH_ready (rs := [13]) (by kernel_rfl) (by simp) (AllReadyH.cons rfl (fun K hK => ?_) AllReadyH.nil)
  refine step_store_mem (Mem.new W.drew Tpd zPd) P0 Tpd (.tmp 5) (.tmp 19) rfl rfl rfl rfl SZD.out HLN.out ONE.out ?_
  intro W4 hm4 hg4
  simp only [List.getElem_toArray, List.getElem_cons_succ, List.getElem_cons_zero, Act.put]
  have HBd := Lib.hid (belowNew (belowSelf W.drew (.cells zPd.toArray Tpd)) hg4 (Nat.le_refl _))
  have HB4 := Lib.hid (belowThen (below_drewN (Below.refl W.heap.size W) 1) HBd.out)
  have HS4 := Lib.hid (HS0.out.below HBd.out)
  have HM4 := Lib.hid (show Mem W4 W.heap.size Tpd P0 from hm4)
  refine hK.out _ _ HS4.out (fun hH9 => ?_)
  clear hK K hm4 hg4
  refine wpAnyH_done (by kernel_rfl) ?_ _
  clear hHeld hH1 hH9 HS1
  rename_i Kz hKz
  refine hKz _ _ ?_
  go_wp2_with fail
  have HT0 := Lib.hid (show (fun w2 => Wv w2 wb base (.slice (some ⟨g, 0, none⟩) (rest.length + 1) cap) vt (((x, z), lv) :: rest, out, got) ∧ Mem w2 W.heap.size Tpd P0) W4.drew from ⟨HS4.out.below (below_drewN (Below.refl _ _) 1), HM4.out.drew⟩)
  refine wp_region_held_drew (S := fun w2 => Wv w2 wb base (.slice (some ⟨g, 0, none⟩) (rest.length + 1) cap) vt (((x, z), lv) :: rest, out, got) ∧ Mem w2 W.heap.size Tpd P0) (by kernel_rfl) HT0.out (fun hHeld => ?_)
  refine wpAnyH_take (i := 0) (oi := { dst := some 20, op := Op.fieldAddr 117 (Operand.tmp 5) 0, type := 0, pos := "weave.go:59", after := #[], guard := none }) (v := .pointer (some ⟨W.heap.size, 0, none⟩)) rfl (by kernel_rfl) (by kernel_rfl) (by kernel_rfl) (fun _ _ _ h => h) (Or.inl ⟨by rfl, ?_⟩) hHeld ?_
  · intro w' hSw
    obtain ⟨-, z2⟩ := hSw
    have y0 : w'.cell? ⟨W.heap.size, 0, none⟩ = some (.int .i64 (kd : Int)) := (z2.cell 0).trans H0.out
    clear z2
    go_simp
  simp only [Act.put, List.setIfInBounds_toArray, List.set_cons_zero, List.set_cons_succ]
  refine wpAnyH_take (i := 1) (oi := { dst := some 21, op := Op.fieldAddr 113 (Operand.tmp 20) 0, type := 0, pos := "weave.go:59", after := #[{ on := 0, ground := Ground.data }], guard := none }) (v := .pointer (some ⟨W.heap.size, 0, none⟩)) rfl (by kernel_rfl) (by kernel_rfl) (by kernel_rfl) (fun _ _ _ h => h) (Or.inl ⟨by rfl, ?_⟩) hHeld ?_
  · intro w' hSw
    obtain ⟨-, z2⟩ := hSw
    have y0 : w'.cell? ⟨W.heap.size, 0, none⟩ = some (.int .i64 (kd : Int)) := (z2.cell 0).trans H0.out
    clear z2
    go_simp
  simp only [Act.put, List.setIfInBounds_toArray, List.set_cons_zero, List.set_cons_succ]
  refine wpAnyH_take (i := 2) (oi := { dst := some 22, op := Op.load 3 (Operand.tmp 21), type := 3, pos := "weave.go:59", after := #[{ on := 1, ground := Ground.data }], guard := none }) (v := .int .i64 (kd : Int)) rfl (by kernel_rfl) (by kernel_rfl) (by kernel_rfl) (fun _ _ _ h => h) (Or.inl ⟨by rfl, ?_⟩) hHeld ?_
  · intro w' hSw
    obtain ⟨-, z2⟩ := hSw
    have y0 : w'.cell? ⟨W.heap.size, 0, none⟩ = some (.int .i64 (kd : Int)) := (z2.cell 0).trans H0.out
    clear z2
    go_simp
  simp only [Act.put, List.setIfInBounds_toArray, List.set_cons_zero, List.set_cons_succ]
  refine wpAnyH_take (i := 3) (oi := { dst := some 23, op := Op.move (Operand.tmp 1), type := 9, pos := "weave.go:59", after := #[], guard := none }) (v := .string (str t)) rfl (by kernel_rfl) (by kernel_rfl) (by kernel_rfl) (fun _ _ _ h => h) (Or.inl ⟨by rfl, ?_⟩) hHeld ?_
  · intro w' hSw
    obtain ⟨-, z2⟩ := hSw
    have y0 : w'.cell? ⟨W.heap.size, 0, none⟩ = some (.int .i64 (kd : Int)) := (z2.cell 0).trans H0.out
    clear z2
    go_simp
  simp only [Act.put, List.setIfInBounds_toArray, List.set_cons_zero, List.set_cons_succ]
  refine wpAnyH_take (i := 6) (oi := { dst := some 26, op := Op.fieldAddr 117 (Operand.tmp 5) 0, type := 0, pos := "weave.go:59", after := #[], guard := none }) (v := .pointer (some ⟨W.heap.size, 0, none⟩)) rfl (by kernel_rfl) (by kernel_rfl) (by kernel_rfl) (fun _ _ _ h => h) (Or.inl ⟨by rfl, ?_⟩) hHeld ?_
  · intro w' hSw
    obtain ⟨-, z2⟩ := hSw
    have y0 : w'.cell? ⟨W.heap.size, 0, none⟩ = some (.int .i64 (kd : Int)) := (z2.cell 0).trans H0.out
    clear z2
    go_simp
  simp only [Act.put, List.setIfInBounds_toArray, List.set_cons_zero, List.set_cons_succ]
  refine wpAnyH_take (i := 7) (oi := { dst := some 27, op := Op.fieldAddr 113 (Operand.tmp 26) 1, type := 0, pos := "weave.go:59", after := #[{ on := 6, ground := Ground.data }], guard := none }) (v := .pointer (some ⟨W.heap.size, 1, none⟩)) rfl (by kernel_rfl) (by kernel_rfl) (by kernel_rfl) (fun _ _ _ h => h) (Or.inl ⟨by rfl, ?_⟩) hHeld ?_
  · intro w' hSw
    obtain ⟨-, z2⟩ := hSw
    have y0 : w'.cell? ⟨W.heap.size, 0, none⟩ = some (.int .i64 (kd : Int)) := (z2.cell 0).trans H0.out
    clear z2
    go_simp
  simp only [Act.put, List.setIfInBounds_toArray, List.set_cons_zero, List.set_cons_succ]
  refine wpAnyH_take (i := 8) (oi := { dst := some 28, op := Op.fieldAddr 43 (Operand.tmp 27) 0, type := 0, pos := "weave.go:59", after := #[{ on := 7, ground := Ground.data }], guard := none }) (v := .pointer (some ⟨W.heap.size, 1, none⟩)) rfl (by kernel_rfl) (by kernel_rfl) (by kernel_rfl) (fun _ _ _ h => h) (Or.inl ⟨by rfl, ?_⟩) hHeld ?_
  · intro w' hSw
    obtain ⟨-, z2⟩ := hSw
    have y0 : w'.cell? ⟨W.heap.size, 0, none⟩ = some (.int .i64 (kd : Int)) := (z2.cell 0).trans H0.out
    clear z2
    go_simp
  simp only [Act.put, List.setIfInBounds_toArray, List.set_cons_zero, List.set_cons_succ]
  refine wpAnyH_take (i := 9) (oi := { dst := some 29, op := Op.load 41 (Operand.tmp 28), type := 41, pos := "weave.go:59", after := #[{ on := 8, ground := Ground.data }], guard := none }) (v := _) rfl (by kernel_rfl) (by kernel_rfl) (by kernel_rfl) (fun _ _ _ h => h) (yieldsIf_load_mid (by rfl) TI (.tmp 28) rfl W.heap.size (1) rfl (x.map byteV) (.array 32 5) (fun w hS => fun j u hu => (hS.2.cell (1 + j)).trans (H1.out j u hu)) Tryd.underlying41 rfl SZX.out) hHeld ?_
  simp only [Act.put, List.setIfInBounds_toArray, List.set_cons_zero, List.set_cons_succ]
  refine wpAnyH_ready (rs := [4]) (by kernel_rfl) (by simp) (AllReadyH.cons rfl (fun K hK => ?_) AllReadyH.nil)
  go_simp
  have HT1 := Lib.hid (show (fun w2 => Wv w2 wb base (.slice (some ⟨g, 0, none⟩) (rest.length + 1) cap) vt (((x, z), lv) :: rest, out, got) ∧ Mem w2 W.heap.size Tpd P0) (W4.drew.alloc (.cells #[tx t] 9)) from ⟨HT0.out.1.below (belowSelf _ _), HT0.out.2.alloc _⟩)
  refine hK.out _ _ HT1.out (fun hH1 => ?_)
  clear hK K
  refine wpAnyH_ready (rs := [5]) (by kernel_rfl) (by simp) (AllReadyH.cons rfl (fun K hK => ?_) AllReadyH.nil)
  go_simp
  refine (HOF.out W4.drew (HC.out.below (belowThen (below_drewN HB4.out 1) (belowSelf _ _)))).mono ?_
  rintro e w6 ⟨rfl, hb6⟩
  dsimp only
  have HT2 := Lib.hid (show (fun w2 => Wv w2 wb base (.slice (some ⟨g, 0, none⟩) (rest.length + 1) cap) vt (((x, z), lv) :: rest, out, got) ∧ Mem w2 W.heap.size Tpd P0) w6 from ⟨HT1.out.1.below hb6, HT1.out.2.below hb6 HT1.out.2.lt⟩)
  have HB6 := Lib.hid (belowThen (belowThen (below_drewN HB4.out 1) (belowSelf _ _)) hb6)
  refine hK.out _ _ HT2.out (fun hH2 => ?_)
  clear hK K hb6
  refine wpAnyH_take (i := 10) (oi := { dst := some 30, op := Op.binOp BinOp.neq 41 (Operand.tmp 25) (Operand.tmp 29) 41, type := 4, pos := "weave.go:59", after := #[{ on := 5, ground := Ground.data }, { on := 9, ground := Ground.data }], guard := none }) (v := .bool false) rfl (by kernel_rfl) (by kernel_rfl) (by kernel_rfl) (fun _ _ _ h => h) (Or.inl ⟨by rfl, ?_⟩) hH2 ?_
  · intro w' hSw
    obtain ⟨-, z2⟩ := hSw
    have y0 : w'.cell? ⟨W.heap.size, 0, none⟩ = some (.int .i64 (kd : Int)) := (z2.cell 0).trans H0.out
    clear z2
    go_simp
  simp only [Act.put, List.setIfInBounds_toArray, List.set_cons_zero, List.set_cons_succ]
  refine wpAnyH_done (by kernel_rfl) ?_ _
  clear hHeld hH1 hH2 HT0 HT1
  rename_i Kz hKz
  refine hKz _ _ ?_
  have y6 : w6.cell? ⟨W.heap.size, 0, none⟩ = some (.int .i64 (kd : Int)) := (HT2.out.2.cell 0).trans H0.out
  have HGG := Lib.hid (HGV.out w6 (by have := HB6.out.size; omega) HT2.out.1)
  rw [← HP0.out] at HGG
  go_wp2_with (first
    | (refine wp_load_mem HT2.out.2 Tpd (.tmp 5) _ rfl rfl rfl Tryd.underlying117 rfl SZD.out ?_)
    | fail)
  refine HGG.out.mono ?_
  rintro e w7 ⟨rfl, vp', vt', h8, h9⟩
  go_wp2_with fail
  go_ret
  have hf := h9.after hbs HB6.out
  first | exact ⟨rfl, vp', vt', h8, hf⟩ | exact ⟨rfl, ⟨vp', vt', h8⟩, hf⟩
end Go.Proofs.YtjdhcanblpifcaaDoor

/-
  Package weave: Give, whatever is given; names that differ.
-/
namespace Go.Proofs.YtjdhcanblpifcaaDoor
open Go.RowKit Crv
theorem give_any (W : World) (wb base : Nat) (vp vt : Value) (x : WSt) (t : List UInt8) (hc : Consts W) (hgot : x.2.2 ≤ 1000000) (hl : x.1.length ≤ 1000000) (hol : x.2.1.length ≤ 1000000000) (htl : t.length ≤ 1000000) (h32 : ∀ s ∈ x.1, s.1.1.length = 32) (hbs : base ≤ W.heap.size) (h : Wv W wb base vp vt x) :
    Calls Tryd.prog 25 #[ptr wb, .string (str t)] W fun e w' => e = .returned (.int .i64 (giveW x t).2) ∧ ∃ vp' vt', Wv w' wb base vp' vt' (giveW x t).1 ∧ Fr base wb vp vt W w' := by
  obtain ⟨left, out, got⟩ := x
  cases left with
  | nil => exact (give_idle W wb base vp vt out got t hbs h).mono fun e w' ⟨h1, h2, h3⟩ => ⟨h1, vp, vt, h2, h3⟩
  | cons s rest =>
    obtain ⟨g, cap, rfl, -⟩ := h.cons
    simp only [List.length_cons] at hl hgot hol
    have hs := h32 s (by simp)
    by_cases hn : oidOf (kindS s) t = s.1.1
    · by_cases h0 : s.2 = 0
      · exact give_chunk W wb base g cap vt s rest out got t hc hgot (by omega) hol htl hs hbs h hn h0
      · exact give_node W wb base g cap vt s rest out got t hc hgot (by omega) hol htl hs hbs h hn h0
    · exact give_sum W wb base g cap vt s rest out got t hc hgot (by omega) hol htl hs hbs h hn
end Go.Proofs.YtjdhcanblpifcaaDoor

/-
  Package weave: Next where something is pending.
-/
namespace Go.Proofs.YtjdhcanblpifcaaDoor
open Go.RowKit Crv
set_option maxRecDepth 100000 in
set_option maxHeartbeats 600000 in
theorem next_any (W : World) (wb base g cap : Nat) (vt : Value) (s : Stp) (rest : List Stp) (out : List UInt8) (got : Nat) (hl : rest.length ≤ 1000000) (h32 : s.1.1.length = 32) (h : Wv W wb base (.slice (some ⟨g, 0, none⟩) (rest.length + 1) cap) vt (s :: rest, out, got)) :
    Calls Tryd.prog 50 #[ptr wb] W fun e w' => e = .returned (.tuple #[.agg (wtC (kindS s) s.1).toArray, .bool true]) ∧ Below W.heap.size W w' := by
  have HW := Lib.hid h
  have HOV := Lib.hid (over_any _ wb base _ vt _ (h.below (belowSelf W (.cells zWt.toArray Twt))))
  have hcap : rest.length + 1 ≤ cap := by
    obtain ⟨g', cap', hv, hcp, _⟩ := h.cons
    injection hv with _ _ hv
    rw [hv]
    exact hcp
  have HC0 := Lib.hid (show ∀ j u, (wtC (kindS s) s.1)[j]? = some u → (pdC s)[j]? = some u from fun j u hu => by
    unfold pdC pdC3
    rw [List.getElem?_append_left (List.getElem?_eq_some_iff.1 hu).1]
    exact hu)
  have SZW := Lib.hid (sz_wt (kindS s) s.1 h32)
  have ONE := Lib.hid (one_wtC (kindS s) s.1)
  have HLN := Lib.hid (show zWt.length = (wtC (kindS s) s.1).length by rw [length_wtC _ s.1 h32]; rfl)
  have HMZ := Lib.hid ((Mem.new W Twt zWt).drew)
  have hwr : IntKind.i64.wrap (rest.length : Int) = (rest.length : Int) := IntWalk.i64_in _ (by omega)
  obtain ⟨C0, hC0⟩ : ∃ c, c = wtC (kindS s) s.1 := ⟨_, rfl⟩
  rw [← hC0] at HC0 SZW ONE HLN ⊢
  have HS0 := Lib.hid (show (fun w2 => Wv w2 wb base (.slice (some ⟨g, 0, none⟩) (rest.length + 1) cap) vt (s :: rest, out, got) ∧ ∃ cs, Mem w2 W.heap.size Twt cs) (W.alloc (.cells zWt.toArray Twt)).drew from ⟨(h.below (belowSelf W _)).below (below_drewN (Below.refl _ _) 1), _, HMZ.out⟩)
  clear h hC0
  go_enter Tryd.func50, Tryd.ntmps50
  go_wp2_with fail
  refine HOV.out.mono ?_
  rintro e w1 ⟨rfl, rfl⟩
  go_wp2_with fail
  refine wp_region_held_drew (S := fun w2 => Wv w2 wb base (.slice (some ⟨g, 0, none⟩) (rest.length + 1) cap) vt (s :: rest, out, got) ∧ ∃ cs, Mem w2 W.heap.size Twt cs) (by kernel_rfl) HS0.out (fun hHeld => ?_)
  refine wpAnyH_take (i := 0) (oi := { dst := some 7, op := Op.move (Operand.tmp 0), type := 63, pos := "weave.go:50", after := #[], guard := none }) (v := .pointer (some ⟨wb, 0, none⟩)) rfl (by kernel_rfl) (by kernel_rfl) (by kernel_rfl) (fun _ _ _ h => h) (Or.inl ⟨by rfl, ?_⟩) hHeld ?_
  · intro w' hSw
    have y0 : w'.cell? ⟨wb, 0, none⟩ = some (.slice (some ⟨g, 0, none⟩) (rest.length + 1) cap) := hSw.1.1.cell 0
    clear hSw
    go_simp
  simp only [Act.put, List.setIfInBounds_toArray, List.set_cons_zero, List.set_cons_succ]
  refine wpAnyH_take (i := 1) (oi := { dst := some 8, op := Op.nilCheck (Operand.tmp 7), type := 0, pos := "weave.go:50", after := #[{ on := 0, ground := Ground.data }], guard := none }) (v := .pointer (some ⟨wb, 0, none⟩)) rfl (by kernel_rfl) (by kernel_rfl) (by kernel_rfl) (fun _ _ _ h => h) (Or.inl ⟨by rfl, ?_⟩) hHeld ?_
  · intro w' hSw
    have y0 : w'.cell? ⟨wb, 0, none⟩ = some (.slice (some ⟨g, 0, none⟩) (rest.length + 1) cap) := hSw.1.1.cell 0
    clear hSw
    go_simp
  simp only [Act.put, List.setIfInBounds_toArray, List.set_cons_zero, List.set_cons_succ]
  refine wpAnyH_take (i := 2) (oi := { dst := some 9, op := Op.fieldAddr 120 (Operand.tmp 8) 0, type := 0, pos := "weave.go:50", after := #[{ on := 1, ground := Ground.data }], guard := none }) (v := .pointer (some ⟨wb, 0, none⟩)) rfl (by kernel_rfl) (by kernel_rfl) (by kernel_rfl) (fun _ _ _ h => h) (Or.inl ⟨by rfl, ?_⟩) hHeld ?_
  · intro w' hSw
    have y0 : w'.cell? ⟨wb, 0, none⟩ = some (.slice (some ⟨g, 0, none⟩) (rest.length + 1) cap) := hSw.1.1.cell 0
    clear hSw
    go_simp
  simp only [Act.put, List.setIfInBounds_toArray, List.set_cons_zero, List.set_cons_succ]
  refine wpAnyH_take (i := 3) (oi := { dst := some 10, op := Op.load 118 (Operand.tmp 9), type := 118, pos := "weave.go:50", after := #[{ on := 2, ground := Ground.data }], guard := none }) (v := .slice (some ⟨g, 0, none⟩) (rest.length + 1) cap) rfl (by kernel_rfl) (by kernel_rfl) (by kernel_rfl) (fun _ _ _ h => h) (Or.inl ⟨by rfl, ?_⟩) hHeld ?_
  · intro w' hSw
    have y0 : w'.cell? ⟨wb, 0, none⟩ = some (.slice (some ⟨g, 0, none⟩) (rest.length + 1) cap) := hSw.1.1.cell 0
    clear hSw
    go_simp
  simp only [Act.put, List.setIfInBounds_toArray, List.set_cons_zero, List.set_cons_succ]
  refine wpAnyH_take (i := 4) (oi := { dst := some 11, op := Op.move (Operand.tmp 0), type := 63, pos := "weave.go:50", after := #[], guard := none }) (v := .pointer (some ⟨wb, 0, none⟩)) rfl (by kernel_rfl) (by kernel_rfl) (by kernel_rfl) (fun _ _ _ h => h) (Or.inl ⟨by rfl, ?_⟩) hHeld ?_
  · intro w' hSw
    have y0 : w'.cell? ⟨wb, 0, none⟩ = some (.slice (some ⟨g, 0, none⟩) (rest.length + 1) cap) := hSw.1.1.cell 0
    clear hSw
    go_simp
  simp only [Act.put, List.setIfInBounds_toArray, List.set_cons_zero, List.set_cons_succ]
  refine wpAnyH_take (i := 5) (oi := { dst := some 12, op := Op.nilCheck (Operand.tmp 11), type := 0, pos := "weave.go:50", after := #[{ on := 4, ground := Ground.data }], guard := none }) (v := .pointer (some ⟨wb, 0, none⟩)) rfl (by kernel_rfl) (by kernel_rfl) (by kernel_rfl) (fun _ _ _ h => h) (Or.inl ⟨by rfl, ?_⟩) hHeld ?_
  · intro w' hSw
    have y0 : w'.cell? ⟨wb, 0, none⟩ = some (.slice (some ⟨g, 0, none⟩) (rest.length + 1) cap) := hSw.1.1.cell 0
    clear hSw
    go_simp
  simp only [Act.put, List.setIfInBounds_toArray, List.set_cons_zero, List.set_cons_succ]
  refine wpAnyH_take (i := 6) (oi := { dst := some 13, op := Op.fieldAddr 120 (Operand.tmp 12) 0, type := 0, pos := "weave.go:50", after := #[{ on := 5, ground := Ground.data }], guard := none }) (v := .pointer (some ⟨wb, 0, none⟩)) rfl (by kernel_rfl) (by kernel_rfl) (by kernel_rfl) (fun _ _ _ h => h) (Or.inl ⟨by rfl, ?_⟩) hHeld ?_
  · intro w' hSw
    have y0 : w'.cell? ⟨wb, 0, none⟩ = some (.slice (some ⟨g, 0, none⟩) (rest.length + 1) cap) := hSw.1.1.cell 0
    clear hSw
    go_simp
  simp only [Act.put, List.setIfInBounds_toArray, List.set_cons_zero, List.set_cons_succ]
  refine wpAnyH_take (i := 7) (oi := { dst := some 14, op := Op.load 118 (Operand.tmp 13), type := 118, pos := "weave.go:50", after := #[{ on := 6, ground := Ground.data }], guard := none }) (v := .slice (some ⟨g, 0, none⟩) (rest.length + 1) cap) rfl (by kernel_rfl) (by kernel_rfl) (by kernel_rfl) (fun _ _ _ h => h) (Or.inl ⟨by rfl, ?_⟩) hHeld ?_
  · intro w' hSw
    have y0 : w'.cell? ⟨wb, 0, none⟩ = some (.slice (some ⟨g, 0, none⟩) (rest.length + 1) cap) := hSw.1.1.cell 0
    clear hSw
    go_simp
  simp only [Act.put, List.setIfInBounds_toArray, List.set_cons_zero, List.set_cons_succ]
  refine wpAnyH_take (i := 8) (oi := { dst := some 15, op := Op.call { callee := Callee.builtin Builtin.len, args := #[Operand.tmp 14], argTypes := #[118] }, type := 3, pos := "weave.go:50", after := #[{ on := 7, ground := Ground.data }], guard := none }) (v := .int .i64 ((rest.length : Int) + 1)) rfl (by kernel_rfl) (by kernel_rfl) (by kernel_rfl) (fun _ _ _ h => h) (Or.inl ⟨by rfl, ?_⟩) hHeld ?_
  · intro w' hSw
    have y0 : w'.cell? ⟨wb, 0, none⟩ = some (.slice (some ⟨g, 0, none⟩) (rest.length + 1) cap) := hSw.1.1.cell 0
    clear hSw
    go_simp
  simp only [Act.put, List.setIfInBounds_toArray, List.set_cons_zero, List.set_cons_succ]
  refine wpAnyH_take (i := 9) (oi := { dst := some 16, op := Op.binOp BinOp.sub 3 (Operand.tmp 15) (Operand.const (Value.int IntKind.i64 1)) 3, type := 3, pos := "weave.go:50", after := #[{ on := 8, ground := Ground.data }], guard := none }) (v := .int .i64 (rest.length : Int)) rfl (by kernel_rfl) (by kernel_rfl) (by kernel_rfl) (fun _ _ _ h => h) (Or.inl ⟨by rfl, ?_⟩) hHeld ?_
  · intro w' hSw
    have y0 : w'.cell? ⟨wb, 0, none⟩ = some (.slice (some ⟨g, 0, none⟩) (rest.length + 1) cap) := hSw.1.1.cell 0
    clear hSw
    go_simp <;> omega
  simp only [Act.put, List.setIfInBounds_toArray, List.set_cons_zero, List.set_cons_succ]
  refine wpAnyH_take (i := 10) (oi := { dst := some 17, op := Op.indexAddr 118 (Operand.tmp 10) (Operand.tmp 16), type := 0, pos := "weave.go:50", after := #[{ on := 3, ground := Ground.data }, { on := 9, ground := Ground.data }], guard := none }) (v := .pointer (some ⟨g, rest.length * 35, none⟩)) rfl (by kernel_rfl) (by kernel_rfl) (by kernel_rfl) (fun _ _ _ h => h) (Or.inl ⟨by rfl, ?_⟩) hHeld ?_
  · intro w' hSw
    have y0 : w'.cell? ⟨wb, 0, none⟩ = some (.slice (some ⟨g, 0, none⟩) (rest.length + 1) cap) := hSw.1.1.cell 0
    clear hSw
    go_simp <;> omega
  simp only [Act.put, List.setIfInBounds_toArray, List.set_cons_zero, List.set_cons_succ]
  refine wpAnyH_take (i := 11) (oi := { dst := some 18, op := Op.fieldAddr 117 (Operand.tmp 17) 0, type := 0, pos := "weave.go:50", after := #[{ on := 10, ground := Ground.data }], guard := none }) (v := .pointer (some ⟨g, rest.length * 35, none⟩)) rfl (by kernel_rfl) (by kernel_rfl) (by kernel_rfl) (fun _ _ _ h => h) (Or.inl ⟨by rfl, ?_⟩) hHeld ?_
  · intro w' hSw
    have y0 : w'.cell? ⟨wb, 0, none⟩ = some (.slice (some ⟨g, 0, none⟩) (rest.length + 1) cap) := hSw.1.1.cell 0
    clear hSw
    go_simp
  simp only [Act.put, List.setIfInBounds_toArray, List.set_cons_zero, List.set_cons_succ]
  refine wpAnyH_take (i := 12) (oi := { dst := some 19, op := Op.load 113 (Operand.tmp 18), type := 113, pos := "weave.go:50", after := #[{ on := 11, ground := Ground.data }], guard := none }) (v := _) rfl (by kernel_rfl) (by kernel_rfl) (by kernel_rfl) (fun _ _ _ h => h) (yieldsIf_load_mid (by rfl) Twt (.tmp 18) rfl g (rest.length * 35) rfl (C0) (_) (fun w hS => fun j u hu => (hS.1.at) j u (HC0.out j u hu)) Tryd.underlying113 rfl SZW.out) hHeld ?_
  simp only [Act.put, List.setIfInBounds_toArray, List.set_cons_zero, List.set_cons_succ]
  refine wpAnyH_ready (rs := [13]) (by kernel_rfl) (by simp) (AllReadyH.cons rfl (fun K hK => ?_) AllReadyH.nil)
  refine step_store_mem HMZ.out C0 Twt (.tmp 2) (.tmp 19) rfl rfl rfl rfl SZW.out HLN.out ONE.out ?_
  intro W4 hm4 hg4
  simp only [List.getElem_toArray, List.getElem_cons_succ, List.getElem_cons_zero, Act.put]
  have HM4 := Lib.hid hm4
  have HB4 := Lib.hid (belowNew (below_drewN (belowSelf W (.cells zWt.toArray Twt)) 1) hg4 (Nat.le_refl _))
  refine hK.out _ _ ⟨HW.out.below HB4.out, _, hm4⟩ (fun hH8 => ?_)
  clear hK K hm4 hg4
  refine wpAnyH_ready (rs := [14]) (by kernel_rfl) (by simp) (AllReadyH.cons rfl (fun K hK => ?_) AllReadyH.nil)
  go_simp
  refine hK.out _ _ ⟨HW.out.below HB4.out, _, HM4.out⟩ (fun hH9 => ?_)
  clear hK K
  refine wpAnyH_done (by kernel_rfl) ?_ _
  clear hHeld hH8 hH9
  rename_i Kz hKz
  refine hKz _ _ ?_
  go_wp2_with fail
  exact bodyPost_ret (resultsCellTmp HM4.out rfl _ _ rfl Tryd.underlying113 rfl SZW.out) rfl ⟨rfl, HB4.out⟩
end Go.Proofs.YtjdhcanblpifcaaDoor

/-
  What layer 10's first look sees.
-/
namespace Go.Proofs.YtjdhcanblpifcaaDoor
open Go.RowKit Crv
abbrev cc : List UInt8 := [99]
def nodeAc : List UInt8 := txtN 1 [(oidOf 1 ab, 2), (oidOf 1 cc, 1)]
theorem names_differ : (oidOf 2 ab).head? ≠ (oidOf 2 nodeAc).head? := by decide +kernel
theorem chk_ac : chkC [ab, cc] = 0 := by decide
theorem top_ac : topTxt [ab, cc] = nodeAc ∧ topPts [ab, cc] = [(oidOf 1 ab, 2), (oidOf 1 cc, 1)] ∧ depthOf ([ab, cc] : List (List UInt8)).length = 1 := by
  have hd : depthOf ([ab, cc] : List (List UInt8)).length = 1 := depthOf_small (by decide)
  unfold topTxt topPts
  rw [hd]
  exact ⟨rfl, rfl, rfl⟩
theorem all_ac : allObs [ab, cc] = [mkOb 1 ab, mkOb 1 cc, mkOb 2 nodeAc] := by
  obtain ⟨_, h, _⟩ := root_is chk_ac (by decide)
  rw [h, top_ac.1, top_ac.2.2]
  rfl
theorem root_ac : rootPt [ab, cc] = (oidOf 2 nodeAc, 3) := by
  obtain ⟨h, _, _⟩ := root_is chk_ac (by decide)
  rw [h, top_ac.1]
  rfl
theorem parse_ac : parseN nodeAc = (1, [(oidOf 1 ab, 2), (oidOf 1 cc, 1)], 0) := by
  obtain ⟨_, _, h⟩ := root_is chk_ac (by decide)
  rw [top_ac.1, top_ac.2.1, top_ac.2.2] at h
  exact h
theorem give_0 (A : List UInt8) (h : A.head? ≠ (oidOf 2 ab).head?) : giveW ([((A, 3), -1)], [], 0) ab = (([((A, 3), -1)], [], 0), 3) := by
  unfold giveW
  dsimp only
  rw [if_pos]
  intro e
  exact h (by rw [← e]; rfl)
theorem give_1 (A C : List UInt8) (T : List UInt8) (hp : parseN T = (1, [(A, 2), (C, 1)], 0)) : giveW ([((oidOf 2 T, 3), -1)], [], 0) T = (([((A, 2), 0), ((C, 1), 0)], [], 1), 0) := by
  unfold giveW
  dsimp only
  rw [hp, if_neg (fun h => h rfl), if_neg (by decide), if_neg (fun h => h rfl), if_neg (by simp [sumP])]
  rfl
theorem give_2 (C : List UInt8) : giveW ([((oidOf 1 ab, 2), 0), ((C, 1), 0)], [], 1) ab = (([((C, 1), 0)], ab, 2), 0) := by
  unfold giveW
  dsimp only
  rw [if_neg (fun h => h rfl), if_pos rfl, if_neg (by simp)]
  rfl
theorem give_3 : giveW ([((oidOf 1 cc, 1), 0)], ab, 2) cc = (([], ab ++ cc, 3), 0) := by
  unfold giveW
  dsimp only
  rw [if_neg (fun h => h rfl), if_pos rfl, if_neg (by simp)]
end Go.Proofs.YtjdhcanblpifcaaDoor

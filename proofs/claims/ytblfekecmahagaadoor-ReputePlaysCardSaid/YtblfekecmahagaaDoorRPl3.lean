/-
  The reference of layer 23: Good, Silent, May.
-/
import Derived.Test.YtblfekecmahagaaDoorRPl2
namespace Go.Proofs.YtblfekecmahagaaDoor
open Go.RowKit Go.Maps Crv

section
variable {w : World} {v : Value} {l : List MI}
set_option maxHeartbeats 2000000 in
set_option maxRecDepth 100000 in
theorem rgood_any (h : RdM w v l) (hl : l.length ≤ 100000) (n : Int) (hs : -20 ≤ (atL l n).s ∧ (atL l n).s ≤ 20) : Calls Tryd.prog 11 #[v, iv n] w fun e w' => ∃ u, e = .returned u ∧ RdM w' u (setL l (goodX (atL l n))) ∧ Below w.heap.size w w' := by
  have HAT := Lib.hid (at_any h hl n)
  have HSET := Lib.hid (fun W (hb : Below w.heap.size w W) x => set_any (h.below hb) hl x)
  obtain ⟨X, hX⟩ : ∃ X, X = atL l n := ⟨_, rfl⟩
  rw [← hX] at HAT hs ⊢
  obtain ⟨xn, xs, xw, xu, xb, xk, xd, xt⟩ := X
  have hag : (Value.agg (miC ⟨xn, xs, xw, xu, xb, xk, xd, xt⟩).toArray) = .agg #[iv xn, iv xs, iv xw, iv xu, .bool xb, iv xk, tx xd, tx xt] := rfl
  rw [hag] at HAT
  simp only at hs
  obtain ⟨s1, hs1⟩ : ∃ t, xs + 1 = t := ⟨_, rfl⟩
  obtain ⟨ws, ws'⟩ := w64 hs1 (by omega)
  obtain ⟨y, hy⟩ : ∃ y, min s1 20 = y := ⟨_, rfl⟩
  have HY := Lib.hid hy
  have HG := Lib.hid (show goodX ⟨xn, xs, xw, xu, xb, xk, xd, xt⟩ = ⟨xn, y, 0, 0, xb, xk, xd, xt⟩ from by unfold goodX; simp only [hs1, hy])
  clear h hX hs hs1 hy hag
  go_enter Tryd.func11, Tryd.ntmps11
  go_wp2_with fail
  refine HAT.out.mono ?_
  rintro e w1 ⟨rfl, hb1⟩
  have HB1 := Lib.hid hb1
  clear hb1
  go_wp2_with (first
    | (refine wp_min0 (c := s1) (d := 20) (.tmp 11) (.const (.int .i64 20)) HY.out rfl rfl rfl rfl ?_)
    | fail)
  refine (HSET.out _ (belowThen HB1.out (belowSelf w1 _)) ⟨xn, y, 0, 0, xb, xk, xd, xt⟩).mono ?_
  rintro e w2 ⟨u, rfl, hr, hb2⟩
  have HR := Lib.hid hr
  have HB2 := Lib.hid (belowThen (belowThen HB1.out (belowSelf w1 _)) hb2)
  clear hr hb2
  go_wp2_with fail
  go_ret
  exact ⟨_, rfl, by rw [HG.out]; exact HR.out, HB2.out⟩
set_option maxHeartbeats 2000000 in
set_option maxRecDepth 100000 in
theorem rsilent_any (h : RdM w v l) (hl : l.length ≤ 100000) (n : Int) {now : Int} (hs : -20 ≤ (atL l n).s ∧ (atL l n).s ≤ 20 ∧ 0 ≤ (atL l n).wt ∧ (atL l n).wt ≤ 32) (hw : 0 ≤ now ∧ now ≤ 1099511627776) : Calls Tryd.prog 13 #[v, iv n, iv now] w fun e w' => ∃ u, e = .returned u ∧ RdM w' u (setL l (silX (atL l n) now)) ∧ Below w.heap.size w w' := by
  have HAT := Lib.hid (at_any h hl n)
  have HSET := Lib.hid (fun W (hb : Below w.heap.size w W) x => set_any (h.below hb) hl x)
  obtain ⟨X, hX⟩ : ∃ X, X = atL l n := ⟨_, rfl⟩
  rw [← hX] at HAT hs ⊢
  obtain ⟨xn, xs, xw, xu, xb, xk, xd, xt⟩ := X
  have hag : (Value.agg (miC ⟨xn, xs, xw, xu, xb, xk, xd, xt⟩).toArray) = .agg #[iv xn, iv xs, iv xw, iv xu, .bool xb, iv xk, tx xd, tx xt] := rfl
  rw [hag] at HAT
  simp only at hs
  obtain ⟨s1, hs1⟩ : ∃ t, xs - 1 = t := ⟨_, rfl⟩
  obtain ⟨ws, ws'⟩ := w64 hs1 (by omega)
  obtain ⟨m1, hm1⟩ : ∃ t, max s1 (-20) = t := ⟨_, rfl⟩
  obtain ⟨d, hd⟩ : ∃ t, xw * 2 = t := ⟨_, rfl⟩
  obtain ⟨wd, wd'⟩ := w64 hd (by omega)
  obtain ⟨m2, hm2⟩ : ∃ t, max d 2 = t := ⟨_, rfl⟩
  obtain ⟨q, hq⟩ : ∃ t, min m2 32 = t := ⟨_, rfl⟩
  obtain ⟨sm, hsm⟩ : ∃ t, now + q = t := ⟨_, rfl⟩
  obtain ⟨wm, wm'⟩ := w64 hsm (by omega)
  obtain ⟨m3, hm3⟩ : ∃ t, max xu sm = t := ⟨_, rfl⟩
  have HG := Lib.hid (show silX ⟨xn, xs, xw, xu, xb, xk, xd, xt⟩ now = ⟨xn, m1, q, m3, xb, xk, xd, xt⟩ from by unfold silX; simp only [hs1, hm1, hd, hm2, hq, hsm, hm3])
  have HM1 := Lib.hid (show min m1 m1 = m1 from Int.min_self _)
  have H1 := Lib.hid hm1
  have H2 := Lib.hid hm2
  have HQ := Lib.hid hq
  have H3 := Lib.hid hm3
  clear h hX hs hs1 hag hd hsm hm1 hm2 hq hm3
  go_enter Tryd.func13, Tryd.ntmps13
  go_wp2_with fail
  refine HAT.out.mono ?_
  rintro e w1 ⟨rfl, hb1⟩
  have HB1 := Lib.hid hb1
  clear hb1
  go_wp2_with (first
    | (refine wp_max0 (c := s1) (d := -20) (.tmp 13) (.const (.int .i64 (-20))) rfl rfl rfl rfl ?_; rw [H1.out])
    | (refine wp_max0 (c := d) (d := 2) (.tmp 18) (.const (.int .i64 2)) rfl rfl rfl rfl ?_; rw [H2.out])
    | (refine wp_min0 (c := m2) (d := 32) (.tmp 19) (.const (.int .i64 32)) HQ.out rfl rfl rfl rfl ?_)
    | (refine wp_max0 (c := xu) (d := sm) (.tmp 23) (.tmp 27) rfl rfl rfl rfl ?_; rw [H3.out])
    | fail)
  refine (HSET.out _ (belowThen HB1.out (belowSelf w1 _)) ⟨xn, m1, q, m3, xb, xk, xd, xt⟩).mono ?_
  rintro e w2 ⟨u, rfl, hr, hb2⟩
  have HR := Lib.hid hr
  have HB2 := Lib.hid (belowThen (belowThen HB1.out (belowSelf w1 _)) hb2)
  clear hr hb2
  go_wp2_with fail
  go_ret
  exact ⟨_, rfl, by rw [HG.out]; exact HR.out, HB2.out⟩
theorem fld1 (xn xs xw xu : Int) (xb : Bool) (xk : Int) (xd xt : List UInt8) (W : World) : (Instr.field Tmi (.agg #[iv xn, iv xs, iv xw, iv xu, .bool xb, iv xk, tx xd, tx xt]) 1).run Tryd.prog W = .ok (iv xs) W := by kernel_rfl
theorem fld3 (xn xs xw xu : Int) (xb : Bool) (xk : Int) (xd xt : List UInt8) (W : World) : (Instr.field Tmi (.agg #[iv xn, iv xs, iv xw, iv xu, .bool xb, iv xk, tx xd, tx xt]) 3).run Tryd.prog W = .ok (iv xu) W := by kernel_rfl
theorem fld4 (xn xs xw xu : Int) (xb : Bool) (xk : Int) (xd xt : List UInt8) (W : World) : (Instr.field Tmi (.agg #[iv xn, iv xs, iv xw, iv xu, .bool xb, iv xk, tx xd, tx xt]) 4).run Tryd.prog W = .ok (.bool xb) W := by kernel_rfl
set_option maxHeartbeats 2000000 in
set_option maxRecDepth 100000 in
theorem rmay_any (h : RdM w v l) (hl : l.length ≤ 100000) (n now : Int) : Calls Tryd.prog 24 #[v, iv n, iv now] w fun e w' => e = .returned (.bool (!(atL l n).b && decide ((atL l n).u ≤ now))) ∧ Below w.heap.size w w' := by
  have HAT := Lib.hid (fun W (hb : Below w.heap.size w W) => at_any (h.below hb) hl n)
  obtain ⟨X, hX⟩ : ∃ X, X = atL l n := ⟨_, rfl⟩
  rw [← hX] at HAT ⊢
  obtain ⟨xn, xs, xw, xu, xb, xk, xd, xt⟩ := X
  have hag : (Value.agg (miC ⟨xn, xs, xw, xu, xb, xk, xd, xt⟩).toArray) = .agg #[iv xn, iv xs, iv xw, iv xu, .bool xb, iv xk, tx xd, tx xt] := rfl
  rw [hag] at HAT
  simp only
  have hf3 := fun W => fld3 xn xs xw xu xb xk xd xt W
  have hf4 := fun W => fld4 xn xs xw xu xb xk xd xt W
  clear h hX hag
  cases xb with
  | true =>
    go_enter Tryd.func24, Tryd.ntmps24
    go_wp2_with fail
    refine (HAT.out _ (Below.refl _ _)).mono ?_
    rintro e w1 ⟨rfl, hb1⟩
    have HB1 := Lib.hid hb1
    clear hb1
    go_wp2_with fail
    go_ret
    exact ⟨rfl, HB1.out⟩
  | false =>
    by_cases hu : xu ≤ now
    · have hd : decide (now ≥ xu) = true := by simpa using hu
      have hd2 : now ≥ xu := hu
      have HD := Lib.hid (show decide (xu ≤ now) = true from by simpa using hu)
      clear hu
      go_enter Tryd.func24, Tryd.ntmps24
      go_wp2_with fail
      refine (HAT.out _ (Below.refl _ _)).mono ?_
      rintro e w1 ⟨rfl, hb1⟩
      have HB1 := Lib.hid hb1
      clear hb1
      go_wp2_with fail
      refine (HAT.out _ HB1.out).mono ?_
      rintro e w2 ⟨rfl, hb2⟩
      have HB2 := Lib.hid (belowThen HB1.out hb2)
      clear hb2
      go_wp2_with fail
      go_ret
      exact ⟨by rw [HD.out]; rfl, HB2.out⟩
    · have hd : decide (now ≥ xu) = false := by simp; omega
      have hd2 : ¬ now ≥ xu := hu
      have HD := Lib.hid (show decide (xu ≤ now) = false from by simp; omega)
      clear hu
      go_enter Tryd.func24, Tryd.ntmps24
      go_wp2_with fail
      refine (HAT.out _ (Below.refl _ _)).mono ?_
      rintro e w1 ⟨rfl, hb1⟩
      have HB1 := Lib.hid hb1
      clear hb1
      go_wp2_with fail
      refine (HAT.out _ HB1.out).mono ?_
      rintro e w2 ⟨rfl, hb2⟩
      have HB2 := Lib.hid (belowThen HB1.out hb2)
      clear hb2
      go_wp2_with fail
      go_ret
      exact ⟨by rw [HD.out]; rfl, HB2.out⟩
end
end Go.Proofs.YtblfekecmahagaaDoor

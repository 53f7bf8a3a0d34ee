/-
  The reference of layer 23: Holds, Ban.
-/
import Derived.Test.YtblfekecmahagaaDoorRPl3
namespace Go.Proofs.YtblfekecmahagaaDoor
open Go.RowKit Go.Maps Crv

set_option maxHeartbeats 2000000 in
set_option maxRecDepth 100000 in
theorem rholds_any (P : PF) (h1 : P.1 = 1) (ht : P.2.2.length ≤ 1000000) (w : World) : Calls Tryd.prog 18 #[.agg (rpC P).toArray] w fun e w' => e = .returned (.bool (holdsP P)) ∧ Below w.heap.size w w' := by
  obtain ⟨k, d, t⟩ := P
  simp only at h1 ht
  subst h1
  have HOF := Lib.hid (fun W => show Calls Tryd.prog 32 #[iv 1, tx t] W fun e w' => e = .returned (tx (nameP t)) ∧ Below W.heap.size W w' from refOfOid_any t W ht)
  have hag : (Value.agg (rpC (1, d, t)).toArray) = .agg #[iv 1, tx d, tx t] := rfl
  rw [hag]
  have hH : holdsP (1, d, t) = !decide (nameP t = d) := rfl
  rw [hH]
  obtain ⟨x, hx⟩ : ∃ x, x = nameP t := ⟨_, rfl⟩
  rw [← hx] at HOF ⊢
  have HM := Lib.hid (Mem.new w Trp [iv 1, tx d, tx t])
  have HC0 := Lib.hid (fun p : Bw (w.alloc (.cells #[iv 1, tx d, tx t] Trp)) => show p.W.cell? ⟨w.heap.size, 0, none⟩ = some (iv 1) from (HM.out.below p.h HM.out.lt).cell 0)
  have HC1 := Lib.hid (fun p : Bw (w.alloc (.cells #[iv 1, tx d, tx t] Trp)) => show p.W.cell? ⟨w.heap.size, 1, none⟩ = some (tx d) from (HM.out.below p.h HM.out.lt).cell 1)
  have HC2 := Lib.hid (fun p : Bw (w.alloc (.cells #[iv 1, tx d, tx t] Trp)) => show p.W.cell? ⟨w.heap.size, 2, none⟩ = some (tx t) from (HM.out.below p.h HM.out.lt).cell 2)
  have HBW := Lib.hid (belowSelf w (.cells #[iv 1, tx d, tx t] Trp))
  clear ht hag hH hx
  by_cases he : x = d
  · subst he
    go_enter Tryd.func18, Tryd.ntmps18
    go_wp2_with fail
    have hc0 := HC0.out
    have hc1 := HC1.out
    have hc2 := HC2.out
    refine wp_region_bw (by kernel_rfl) (by kernel_rfl) ?_
    repeat (quiet_step ((go_at_call 32; rename_i p; exact Bw.call (HOF.out p.W))))
    refine wpQuiet_nil ?_
    rintro _ ⟨p, rfl⟩
    have HP := Lib.hid (belowThen HBW.out p.h)
    clear hc0 hc1 hc2
    rename_i K hK
    refine hK _ _ ?_
    go_wp2_with fail
    go_ret
    exact ⟨by simp, HP.out⟩
  · go_enter Tryd.func18, Tryd.ntmps18
    go_wp2_with fail
    have hc0 := HC0.out
    have hc1 := HC1.out
    have hc2 := HC2.out
    refine wp_region_bw (by kernel_rfl) (by kernel_rfl) ?_
    repeat (quiet_step ((go_at_call 32; rename_i p; exact Bw.call (HOF.out p.W))))
    refine wpQuiet_nil ?_
    rintro _ ⟨p, rfl⟩
    have HP := Lib.hid (belowThen HBW.out p.h)
    clear hc0 hc1 hc2
    rename_i K hK
    refine hK _ _ ?_
    go_wp2_with fail
    go_ret
    exact ⟨by simp [he], HP.out⟩
section
variable {w : World} {v : Value} {l : List MI}
set_option maxHeartbeats 4000000 in
set_option maxRecDepth 100000 in
theorem rban_any (h : RdM w v l) (hl : l.length ≤ 100000) (n : Int) (P : PF) (h1 : P.1 = 1) (ht : P.2.2.length ≤ 1000000) : Calls Tryd.prog 16 #[v, iv n, .agg (rpC P).toArray] w fun e w' => ∃ u, e = .returned (.tuple #[u, .bool (holdsP P)]) ∧ RdM w' u (if holdsP P = true then setL l (banX (atL l n) P) else l) ∧ Below w.heap.size w w' := by
  have HHO := Lib.hid (fun W => rholds_any P h1 ht W)
  have H := Lib.hid h
  have HAT := Lib.hid (fun W (hb : Below w.heap.size w W) => at_any (h.below hb) hl n)
  have HSET := Lib.hid (fun W (hb : Below w.heap.size w W) x => set_any (h.below hb) hl x)
  obtain ⟨b, hb⟩ : ∃ b, b = holdsP P := ⟨_, rfl⟩
  simp only [← hb] at HHO ⊢
  obtain ⟨k, d, t⟩ := P
  have hag : (Value.agg (rpC (k, d, t)).toArray) = .agg #[iv k, tx d, tx t] := rfl
  rw [hag] at HHO ⊢
  have HM := Lib.hid (Mem.new w Trp [iv k, tx d, tx t])
  have HBW := Lib.hid (belowSelf w (.cells #[iv k, tx d, tx t] Trp))
  obtain ⟨X, hX⟩ : ∃ X, X = atL l n := ⟨_, rfl⟩
  rw [← hX] at HAT ⊢
  obtain ⟨xn, xs, xw, xu, xb, xk, xd, xt⟩ := X
  have hag2 : (Value.agg (miC ⟨xn, xs, xw, xu, xb, xk, xd, xt⟩).toArray) = .agg #[iv xn, iv xs, iv xw, iv xu, .bool xb, iv xk, tx xd, tx xt] := rfl
  rw [hag2] at HAT
  clear h h1 ht hb hag hag2 hX
  cases b with
  | false =>
    go_enter Tryd.func16, Tryd.ntmps16
    go_wp2_with fail
    refine (HHO.out _).mono ?_
    rintro e w1 ⟨rfl, hb1⟩
    have HB1 := Lib.hid (belowThen HBW.out hb1)
    clear hb1
    go_wp2_with fail
    exact bodyPost_ret (results_tmp2 rfl _ _ _) rfl ⟨_, rfl, H.out.below HB1.out, HB1.out⟩
  | true =>
    cases xb with
    | true =>
      go_enter Tryd.func16, Tryd.ntmps16
      go_wp2_with fail
      refine (HHO.out _).mono ?_
      rintro e w1 ⟨rfl, hb1⟩
      have HB1 := Lib.hid (belowThen HBW.out hb1)
      clear hb1
      go_wp2_with fail
      refine (HAT.out _ HB1.out).mono ?_
      rintro e w2 ⟨rfl, hb2⟩
      have HB2 := Lib.hid (belowThen HB1.out hb2)
      clear hb2
      go_wp2_with fail
      refine (HSET.out _ (belowThen HB2.out (belowSelf w2 _)) ⟨xn, xs, xw, xu, true, xk, xd, xt⟩).mono ?_
      rintro e w3 ⟨u, rfl, hr, hb3⟩
      have HR := Lib.hid hr
      have HB3 := Lib.hid (belowThen (belowThen HB2.out (belowSelf w2 _)) hb3)
      clear hr hb3
      go_wp2_with fail
      exact bodyPost_ret (results_tmp2 rfl _ _ _) rfl ⟨_, rfl, HR.out, HB3.out⟩
    | false =>
      go_enter Tryd.func16, Tryd.ntmps16
      go_wp2_with fail
      refine (HHO.out _).mono ?_
      rintro e w1 ⟨rfl, hb1⟩
      have HB1 := Lib.hid (belowThen HBW.out hb1)
      have HM1 := Lib.hid (HM.out.below hb1 HM.out.lt)
      clear hb1
      go_wp2_with fail
      refine (HAT.out _ HB1.out).mono ?_
      rintro e w2 ⟨rfl, hb2⟩
      have HB2 := Lib.hid (belowThen HB1.out hb2)
      have hm2 : Mem w2 w.heap.size Trp [iv k, tx d, tx t] := HM1.out.below hb2 HM1.out.lt
      have p0 : w2.cell? ⟨w.heap.size, 0, none⟩ = some (iv k) := hm2.cell 0
      have p1 : w2.cell? ⟨w.heap.size, 1, none⟩ = some (tx d) := hm2.cell 1
      have p2 : w2.cell? ⟨w.heap.size, 2, none⟩ = some (tx t) := hm2.cell 2
      have hlt : w.heap.size < w2.heap.size := hm2.lt
      clear hb2 hm2
      go_wp2_with fail
      refine (HSET.out _ (belowThen HB2.out (belowSelf w2 _)) ⟨xn, xs, xw, xu, true, k, d, t⟩).mono ?_
      rintro e w3 ⟨u, rfl, hr, hb3⟩
      have HR := Lib.hid hr
      have HB3 := Lib.hid (belowThen (belowThen HB2.out (belowSelf w2 _)) hb3)
      clear hr hb3
      go_wp2_with fail
      exact bodyPost_ret (results_tmp2 rfl _ _ _) rfl ⟨_, rfl, HR.out, HB3.out⟩
end
end Go.Proofs.YtblfekecmahagaaDoor

/-
  The reference of layer 23: minds in memory; At.
-/
import Derived.Test.YtblfekecmahagaaDoorRPl0
namespace Go.Proofs.YtblfekecmahagaaDoor
open Go.RowKit Go.Maps Crv

abbrev Tmi : TypeId := 48
abbrev Tmis : TypeId := 27
/-- A mind's cells. -/
def miC (x : MI) : List Value := [iv x.n, iv x.s, iv x.wt, iv x.u, .bool x.b, iv x.p.1, tx x.p.2.1, tx x.p.2.2]
def RdM (w : World) (v : Value) (l : List MI) : Prop := Rd w 8 v (l.map miC)
def RwM (w : World) (base : Nat) (v : Value) (l : List MI) : Prop := Rw w base Tmi 8 v (l.map miC)
theorem RwM.rd {w : World} {base : Nat} {v : Value} {l : List MI} (h : RwM w base v l) : RdM w v l := Rw.rd h
theorem RdM.below {w w' : World} {v : Value} {l : List MI} (h : RdM w v l) (hb : Below w.heap.size w w') : RdM w' v l := Rd.below h hb
theorem RdM.form {w : World} {v : Value} {l : List MI} (h : RdM w v l) : ∃ a cap, v = .slice a l.length cap ∧ l.length ≤ cap := by
  obtain ⟨a, cap, h1, h2, _⟩ := h
  rw [List.length_map] at h1 h2
  exact ⟨a, cap, h1, h2⟩
theorem RdM.at {w : World} {a : Option Addr} {n cap : Nat} {l : List MI} (h : RdM w (.slice a n cap) l) {i : Nat} (hi : i < l.length) :
    ∃ g off, a = some ⟨g, off, none⟩ ∧ w.cell? ⟨g, off + i * 8, none⟩ = some (iv l[i].n) ∧ w.cell? ⟨g, off + i * 8 + 1, none⟩ = some (iv l[i].s) ∧ w.cell? ⟨g, off + i * 8 + 2, none⟩ = some (iv l[i].wt) ∧ w.cell? ⟨g, off + i * 8 + 3, none⟩ = some (iv l[i].u) ∧ w.cell? ⟨g, off + i * 8 + 4, none⟩ = some (.bool l[i].b) ∧ w.cell? ⟨g, off + i * 8 + 5, none⟩ = some (iv l[i].p.1) ∧ w.cell? ⟨g, off + i * 8 + 6, none⟩ = some (tx l[i].p.2.1) ∧ w.cell? ⟨g, off + i * 8 + 7, none⟩ = some (tx l[i].p.2.2) := by
  obtain ⟨a', cap', h1, _, h3⟩ := h
  injection h1 with h1 _ _
  obtain ⟨g, off, ha, _, hr⟩ := h3 i (by simpa using hi)
  rw [List.getElem_map] at hr
  exact ⟨g, off, h1.trans ha, hr 0 _ rfl, hr 1 _ rfl, hr 2 _ rfl, hr 3 _ rfl, hr 4 _ rfl, hr 5 _ rfl, hr 6 _ rfl, hr 7 _ rfl⟩
theorem one_miC (x : MI) : ∀ u ∈ miC x, u.oneCell' = true := by
  intro u hu
  simp only [miC, List.mem_cons, List.not_mem_nil, or_false] at hu
  rcases hu with rfl | rfl | rfl | rfl | rfl | rfl | rfl | rfl <;> rfl
theorem sz_mi (x : MI) : (Tryd.prog.info? Tmi).map (·.size) = some (miC x).length := by
  show _ = some 8
  kernel_rfl
/-- None of the first i is this address's. -/
def NoM (n : Int) (l : List MI) (i : Nat) : Prop := atL l n = atL (l.drop i) n
theorem noM_step {n : Int} {l : List MI} {i : Nat} (h : NoM n l i) (hi : i < l.length) (hne : ¬ l[i].n = n) : NoM n l (i + 1) := by
  unfold NoM at *
  rw [h, List.drop_eq_getElem_cons hi]
  show (if l[i].n = n then l[i] else atL _ n) = _
  rw [if_neg hne]
theorem noM_hit {n : Int} {l : List MI} {i : Nat} (h : NoM n l i) (hi : i < l.length) (he : l[i].n = n) : atL l n = l[i] := by
  unfold NoM at h
  rw [h, List.drop_eq_getElem_cons hi]
  show (if l[i].n = n then l[i] else atL _ n) = _
  rw [if_pos he]
theorem noM_end {n : Int} {l : List MI} (h : NoM n l l.length) : atL l n = zeroMI n := by
  unfold NoM at h
  rw [h, List.drop_length]
  rfl
section
variable {w : World} {v : Value} {l : List MI}
set_option maxHeartbeats 4000000 in
set_option maxRecDepth 100000 in
theorem at_any (h : RdM w v l) (hl : l.length ≤ 100000) (n : Int) : Calls Tryd.prog 19 #[v, iv n] w fun e w' => e = .returned (.agg (miC (atL l n)).toArray) ∧ Below w.heap.size w w' := by
  obtain ⟨a, cap, rfl, -⟩ := h.form
  have H := Lib.hid h
  obtain ⟨N, hN⟩ : ∃ N, N = l.length := ⟨_, rfl⟩
  have HN := Lib.hid hN
  rw [← hN] at H hl ⊢
  have HZ := Lib.hid (show Mem (w.alloc (.cells (miC (zeroMI 0)).toArray Tmi)) w.heap.size Tmi (miC (zeroMI 0)) from Mem.new w Tmi _)
  have HB0 := Lib.hid (belowSelf w (.cells (miC (zeroMI 0)).toArray Tmi))
  clear h hN
  go_enter Tryd.func19, Tryd.ntmps19
  go_wp2_with fail
  go_loopw [9] (fun s wr => ∃ i : Nat, i ≤ N ∧ s = .int .i64 i ∧ Hid (NoM n l i) ∧ Hid (Below w.heap.size w wr) ∧ Hid (Mem wr w.heap.size Tmi (miC (zeroMI 0)))) (fun s _ => N - (intOf s).toNat)
  case atStart => exact ⟨0, by omega, rfl, Lib.hid rfl, HB0, HZ⟩
  case round =>
    obtain ⟨i, hi, rfl, HNO, HB, HM⟩ := hrel
    clear HB0 HZ
    by_cases hlt : i < N
    · have hd : decide ((i : Int) < (N : Int)) = true := by simp; omega
      have hd2 : (i : Int) < (N : Int) := by omega
      have hil : i < l.length := by rw [← HN.out]; exact hlt
      obtain ⟨g, off, rfl, c0, c1, c2, c3, c4, c5, c6, c7⟩ := (H.out.below HB.out).at hil
      have HHIT := Lib.hid (fun he => noM_hit HNO.out hil he)
      have HSTEP := Lib.hid (fun he => noM_step HNO.out hil he)
      obtain ⟨o, ho⟩ : ∃ o, o = l[i] := ⟨_, rfl⟩
      rw [← ho] at c0 c1 c2 c3 c4 c5 c6 c7 HHIT HSTEP
      obtain ⟨xn, xs, xw, xu, xb, xk, xd, xt⟩ := o
      simp only at c0 c1 c2 c3 c4 c5 c6 c7
      have HB1 := Lib.hid (show Below wr.heap.size wr (wr.alloc (.cells #[iv xn, iv xs, iv xw, iv xu, .bool xb, iv xk, tx xd, tx xt] Tmi)) from belowSelf wr _)
      have HM1 := Lib.hid (HM.out.below HB1.out HM.out.lt)
      have HB2 := Lib.hid (belowThen HB.out HB1.out)
      clear ho hil
      by_cases hm : xn = n
      · subst hm
        have HAT := Lib.hid (HHIT.out rfl)
        have HI := Lib.hid (sz_mi ⟨xn, xs, xw, xu, xb, xk, xd, xt⟩)
        have HON := Lib.hid (one_miC ⟨xn, xs, xw, xu, xb, xk, xd, xt⟩)
        clear HHIT HSTEP HNO HB HM HB1
        go_wp2_with (first
          | (refine wp_store_gen HB2.out (Nat.le_refl _) HM1.out (miC ⟨xn, xs, xw, xu, xb, xk, xd, xt⟩) Tmi (.tmp 4) (.tmp 17) rfl rfl rfl rfl HI.out rfl HON.out ?_
             intro _ hm4 hb4 hz4 ho4
             have HM4 := Lib.hid hm4
             have HB4 := Lib.hid hb4
             clear hm4 hb4 hz4 ho4)
          | fail)
        rw [HAT.out]
        exact bodyPost_ret (v := .agg (miC ⟨xn, xs, xw, xu, xb, xk, xd, xt⟩).toArray) (results_mem HM4.out rfl _ _ rfl Tryd.underlying48 rfl HI.out) rfl ⟨rfl, HB4.out⟩
      · have hmn : (xn == n) = false := by simpa using hm
        have HS := Lib.hid (HSTEP.out hm)
        clear HHIT HSTEP HNO hm HB HM HB1
        go_wp2_with fail
        go_roundw
        case rel => exact ⟨i + 1, by omega, by go_num, HS, HB2, HM1⟩
        case measure => simp [intOf]; omega
    · have hd : decide ((i : Int) < (N : Int)) = false := by simp; omega
      have hd2 : ¬ (i : Int) < (N : Int) := by omega
      have he : i = l.length := by rw [← HN.out]; omega
      have HAT := Lib.hid (noM_end (he ▸ HNO.out))
      have HI := Lib.hid (sz_mi (zeroMI n))
      have HON := Lib.hid (one_miC (zeroMI n))
      clear he HNO
      go_wp2_with (first
        | (refine wp_store_gen HB.out (Nat.le_refl _) HM.out (miC (zeroMI n)) Tmi (.tmp 4) (.tmp 20) rfl rfl rfl rfl HI.out rfl HON.out ?_
           intro _ hm4 hb4 hz4 ho4
           have HM4 := Lib.hid hm4
           have HB4 := Lib.hid hb4
           clear hm4 hb4 hz4 ho4)
        | fail)
      rw [HAT.out]
      exact bodyPost_ret (v := .agg (miC (zeroMI n)).toArray) (results_mem HM4.out rfl _ _ rfl Tryd.underlying48 rfl HI.out) rfl ⟨rfl, HB4.out⟩
end
end Go.Proofs.YtblfekecmahagaaDoor

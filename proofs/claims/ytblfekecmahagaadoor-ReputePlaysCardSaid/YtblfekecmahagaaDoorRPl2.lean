/-
  The reference of layer 23: set.
-/
import Derived.Test.YtblfekecmahagaaDoorRPl1
namespace Go.Proofs.YtblfekecmahagaaDoor
open Go.RowKit Go.Maps Crv

section
variable {P : Program} {ops : Array Oper} {rest : List Oper} {o : Oper} {a : Act} {w0 w : World} {Q : Exit → Act → World → Prop}
/-- append(l, x) of one element that takes up to 128 bytes. -/
theorem wp_append_rowW {base : Nat} {e : TypeId} {m : Nat} {v : Value} {xs : List (List Value)} (hown : Rw w base e m v xs) (B : Nat) (hB : Below B w0 w) (hBb : B ≤ base)
    (x : List Value) (hm0 : 0 < m) (hm1 : m ≤ 64) (hxl : x.length = m) (hx1 : ∀ u ∈ x, u.oneCell' = true) (s y : Operand) (t : TypeId) (i : TypeInfo) (z : Value) (by_ : Nat) (hgd : o.guard = none) (ho : o.op = .call { callee := .builtin .append, args := #[s, y], argTypes := #[t, t] })
    (ht : P.underlying t = some (.slice e)) (hi : P.info? e = some i) (hz : i.zero = some z) (hsize : i.size = m) (hby : i.bytes = by_) (hzs : z.cells.size = m) (hb64 : by_ ≤ 128)
    (hs : a.eval s = v) {g c : Nat} (hx : a.eval y = .slice (some ⟨g, 0, none⟩) 1 c) (hnews : ∀ j u, x[j]? = some u → w.cell? ⟨g, j, none⟩ = some u)
    (hlen : xs.length ≤ 900000) (hbase : base ≤ w.heap.size)
    (h : ∀ v' w', Rw w' base e m v' (xs ++ [x]) → Below B w0 w' → wpList P ops Q rest (a.put o.dst v') w') : wpList P ops Q (o :: rest) a w := by
  have hml : (xs.length + 1) * by_ ≤ 900001 * 128 := Nat.mul_le_mul (by omega) hb64
  have hmm : (xs.length + 1) * m ≤ 900001 * 64 := Nat.mul_le_mul (by omega) hm1
  refine wpList_append_own_at (P := P) w hgd s y t ho base e i z m by_ ht hi hz hsize hby hzs hm0 v xs.length xs.flatten hs hown.2 ⟨g, 0, none⟩ 1 c x hx (by rw [hxl, Nat.one_mul]) (fun j u hu => by rw [add_plain]; exact hnews j u hu) (fun u hu => hx1 u hu) (by simp only [maxLen]; omega) (by omega) hbase ?_
  intro v' w' ho' hg _ hat
  have hlt := hown.lt
  refine h v' w' ⟨fun q hq => ?_, ?_⟩ (hB.trans ⟨hg.os, hg.tape, hg.output, hg.size, fun k hk => hg.block k (by omega) (fun e => by have := (hlt k e.symm).2; omega)⟩)
  · rcases List.mem_append.1 hq with h1 | h1
    · exact hown.1 q h1
    · rw [List.mem_singleton.1 h1]
      exact hxl
  · rw [List.length_append, List.length_singleton, List.flatten_append, List.flatten_singleton]
    exact ho'
end
theorem mi_inf : ∃ i, Tryd.prog.info? Tmi = some i ∧ i.zero = some (.agg (miC (zeroMI 0)).toArray) ∧ i.size = 8 ∧ i.bytes = 80 := info_of (by kernel_rfl)
theorem run_bslice_mi (x : MI) (W : World) : (Instr.buildSlice Tmis 1 #[(0, .agg (miC x).toArray)]).run Tryd.prog W = .ok (.slice (some ⟨W.heap.size, 0, none⟩) 1 1) (W.alloc (.cells (miC x).toArray Tmi)) := by
  simp [go_sem, Instr.buildSlice, miC]
theorem wp_build_mi {ops : Array Oper} {rest : List Oper} {o : Oper} {a : Act} {w : World} {Q : Exit → Act → World → Prop} (x : MI) (y : Operand) (hgd : o.guard = none) (ho : o.op = .buildSlice Tmis 1 #[(0, y)]) (hy : a.eval y = .agg (miC x).toArray)
    (h : wpList Tryd.prog ops Q rest (a.put o.dst (.slice (some ⟨w.heap.size, 0, none⟩) 1 1)) (w.alloc (.cells (miC x).toArray Tmi))) : wpList Tryd.prog ops Q (o :: rest) a w := by
  refine wpList_plain hgd fun K hK => ?_
  have hr := run_bslice_mi x w
  unfold Oper.wp execOp
  simp only [ho, List.map_toArray, List.map_cons, List.map_nil, hy, hr, Sem.run_bind, Sem.run_pure, Result.andThen_ok]
  exact hK _ _ h
theorem setL_step {l : List MI} {i : Nat} (hi : i < l.length) (n : Int) : (l.take (i + 1)).filter (fun m => m.n != n) = (l.take i).filter (fun m => m.n != n) ++ (if l[i].n = n then [] else [l[i]]) := by
  rw [List.take_succ_eq_append_getElem hi, List.filter_append]
  congr 1
  by_cases h : l[i].n = n <;> simp [h]
section
variable {w : World} {v : Value} {l : List MI}
set_option maxHeartbeats 4000000 in
set_option maxRecDepth 100000 in
theorem set_any (h : RdM w v l) (hl : l.length ≤ 100000) (x : MI) : Calls Tryd.prog 29 #[v, .agg (miC x).toArray] w fun e w' => ∃ u, e = .returned u ∧ RdM w' u (setL l x) ∧ Below w.heap.size w w' := by
  obtain ⟨a, cap, rfl, -⟩ := h.form
  have H := Lib.hid h
  obtain ⟨N, hN⟩ : ∃ N, N = l.length := ⟨_, rfl⟩
  have HN := Lib.hid hN
  rw [← hN] at H hl ⊢
  obtain ⟨yn, ys, yw, yu, yb, yk, yd, yt⟩ := x
  obtain ⟨X, hX⟩ : ∃ X : MI, X = ⟨yn, ys, yw, yu, yb, yk, yd, yt⟩ := ⟨_, rfl⟩
  have HX := Lib.hid hX
  have HXN := Lib.hid (show X.n = yn from by rw [hX])
  have HLS := Lib.hid (fun i => (length_setL (l.take i) X))
  obtain ⟨w0, hw0⟩ : ∃ w0, w0 = w.alloc (.cells (miC X).toArray Tmi) := ⟨_, rfl⟩
  have HS0 := Lib.hid (show w0.heap.size = w.heap.size + 1 from by rw [hw0]; simp)
  have HM0 := Lib.hid (show Mem w0 w.heap.size Tmi (miC X) from hw0 ▸ Mem.new w Tmi _)
  have HBW := Lib.hid (show Below w.heap.size w w0 from hw0 ▸ belowSelf w _)
  have HB0 := Lib.hid (show Below w0.heap.size w0 ((w.alloc (.cells #[iv yn, iv ys, iv yw, iv yu, .bool yb, iv yk, tx yd, tx yt] Tmi)).alloc (.cells #[] Tmi)) from by rw [hw0, hX]; exact belowSelf _ _)
  have HR0 := Lib.hid (show RwM ((w.alloc (.cells #[iv yn, iv ys, iv yw, iv yu, .bool yb, iv yk, tx yd, tx yt] Tmi)).alloc (.cells #[] Tmi)) w0.heap.size (.slice (some ⟨w.heap.size + 1, 0, none⟩) 0 0) ((l.take 0).filter (fun m => m.n != yn)) from by
    have := Rw.new (w := w.alloc (.cells #[iv yn, iv ys, iv yw, iv yu, .bool yb, iv yk, tx yd, tx yt] Tmi)) (base := w0.heap.size) Tmi 8 (by rw [hw0]; simp)
    unfold RwM
    simpa using this)
  obtain ⟨ti, hti, hz, hs3, hby⟩ := mi_inf
  have HTI := Lib.hid hti
  have HZZ := Lib.hid hz
  have HS3 := Lib.hid hs3
  have HBY := Lib.hid hby
  have hag : (Value.agg (miC ⟨yn, ys, yw, yu, yb, yk, yd, yt⟩).toArray) = .agg #[iv yn, iv ys, iv yw, iv yu, .bool yb, iv yk, tx yd, tx yt] := rfl
  rw [hag, ← hX]
  clear h hN hX hw0 hti hz hs3 hby hag
  go_enter Tryd.func29, Tryd.ntmps29
  go_wp2_with fail
  go_loopw [5, 11] (fun v s wr => ∃ i : Nat, i ≤ N ∧ s = .int .i64 i ∧ Hid (RwM wr w0.heap.size v ((l.take i).filter (fun m => m.n != yn))) ∧ Hid (Below w0.heap.size w0 wr)) (fun _ s _ => N - (intOf s).toNat)
  case atStart => exact ⟨0, by omega, rfl, HR0, HB0⟩
  case round =>
    obtain ⟨i, hi, rfl, HR, HB⟩ := hrel
    clear HR0 HB0
    have HMX := Lib.hid (show Mem wr w.heap.size Tmi (miC X) from HM0.out.below HB.out HM0.out.lt)
    have hszw : w.heap.size < wr.heap.size := HMX.out.lt
    by_cases hlt : i < N
    · have hd : decide ((i : Int) < (N : Int)) = true := by simp; omega
      have hd2 : (i : Int) < (N : Int) := by omega
      have hil : i < l.length := by rw [← HN.out]; exact hlt
      obtain ⟨g, off, rfl, c0, c1, c2, c3, c4, c5, c6, c7⟩ := (H.out.below (belowThen HBW.out (show Below w0.heap.size w0 wr from HB.out))).at hil
      have HST := Lib.hid (setL_step hil yn)
      have HLE := Lib.hid (show (((l.take i).filter (fun m => m.n != yn)).map miC).length ≤ 900000 from by
        have : ((l.take i).filter (fun m => m.n != yn)).length ≤ (l.take i).length := List.length_filter_le _ _
        rw [List.length_take] at this
        rw [List.length_map]
        omega)
      obtain ⟨o, ho⟩ : ∃ o, o = l[i] := ⟨_, rfl⟩
      rw [← ho] at c0 c1 c2 c3 c4 c5 c6 c7 HST
      obtain ⟨xn, xs, xw, xu, xb, xk, xd, xt⟩ := o
      simp only at c0 c1 c2 c3 c4 c5 c6 c7 HST
      have hy0 : wr.cell? ⟨w.heap.size, 0, none⟩ = some (iv yn) := by
        have := HMX.out.cell 0
        rw [show (miC X)[0]? = some (iv X.n) from rfl, HXN.out] at this
        exact this
      have HB1 := Lib.hid (show Below wr.heap.size wr (wr.alloc (.cells #[iv xn, iv xs, iv xw, iv xu, .bool xb, iv xk, tx xd, tx xt] Tmi)) from belowSelf wr _)
      have HB2 := Lib.hid (show Below w0.heap.size w0 (wr.alloc (.cells #[iv xn, iv xs, iv xw, iv xu, .bool xb, iv xk, tx xd, tx xt] Tmi)) from belowThen HB.out HB1.out)
      have HR2 := Lib.hid (show RwM (wr.alloc (.cells #[iv xn, iv xs, iv xw, iv xu, .bool xb, iv xk, tx xd, tx xt] Tmi)) w0.heap.size u5 ((l.take i).filter (fun m => m.n != yn)) from Rw.below HR.out HB1.out)
      clear ho hil HR HB HB1
      by_cases hm : xn = yn
      · subst hm
        have HR3 := Lib.hid (show RwM (wr.alloc (.cells #[iv xn, iv xs, iv xw, iv xu, .bool xb, iv xk, tx xd, tx xt] Tmi)) w0.heap.size u5 ((l.take (i + 1)).filter (fun m => m.n != xn)) from by rw [HST.out, if_pos rfl, List.append_nil]; exact HR2.out)
        go_wp2_with fail
        go_roundw
        case rel => exact ⟨i + 1, by omega, by go_num, HR3, HB2⟩
        case measure => simp [intOf]; omega
      · have hmn : (xn != yn) = true := by simpa using hm
        have HO := Lib.hid (one_miC ⟨xn, xs, xw, xu, xb, xk, xd, xt⟩)
        have HST2 := Lib.hid (show (l.take (i + 1)).filter (fun m => m.n != yn) = (l.take i).filter (fun m => m.n != yn) ++ [⟨xn, xs, xw, xu, xb, xk, xd, xt⟩] from by rw [HST.out, if_neg hm])
        have HSZ := Lib.hid (show w0.heap.size ≤ (wr.alloc (.cells #[iv xn, iv xs, iv xw, iv xu, .bool xb, iv xk, tx xd, tx xt] Tmi)).heap.size from HB2.out.size)
        clear hm HST
        go_wp2_with (first
          | (refine wp_build_mi ⟨xn, xs, xw, xu, xb, xk, xd, xt⟩ (.tmp 21) rfl rfl rfl ?_)
          | (at_builtin
             refine wp_append_rowW (Rw.below HR2.out (belowSelf _ _)) w0.heap.size (belowThen HB2.out (belowSelf _ _)) (Nat.le_refl _) (miC ⟨xn, xs, xw, xu, xb, xk, xd, xt⟩) (by omega) (by omega) rfl HO.out (.tmp 20) (.tmp 22) Tmis ti _ 80 rfl rfl Tryd.underlying27 HTI.out HZZ.out HS3.out HBY.out rfl (by omega) rfl rfl (fun j y hy => by
               have := (Mem.new (wr.alloc (.cells #[iv xn, iv xs, iv xw, iv xu, .bool xb, iv xk, tx xd, tx xt] Tmi)) Tmi (miC ⟨xn, xs, xw, xu, xb, xk, xd, xt⟩)).cell j
               rw [hy] at this
               exact this) HLE.out (by have := HSZ.out; simp at this ⊢; omega) ?_
             intro v3 w3 hr3 hb3
             have HR3 := Lib.hid (show RwM w3 w0.heap.size v3 ((l.take (i + 1)).filter (fun m => m.n != yn)) from by
               unfold RwM
               rw [HST2.out, List.map_append]
               exact hr3)
             have HB3 := Lib.hid hb3
             clear hr3 hb3)
          | fail)
        go_roundw
        case rel => exact ⟨i + 1, by omega, by go_num, HR3, HB3⟩
        case measure => simp [intOf]; omega
    · have hd : decide ((i : Int) < (N : Int)) = false := by simp; omega
      have hd2 : ¬ (i : Int) < (N : Int) := by omega
      have hE : l.take i = l := List.take_of_length_le (by rw [← HN.out]; omega)
      rw [hE] at HR
      have HO := Lib.hid (one_miC X)
      have HLE := Lib.hid (show ((l.filter (fun m => m.n != yn)).map miC).length ≤ 900000 from by
        have : (l.filter (fun m => m.n != yn)).length ≤ l.length := List.length_filter_le _ _
        rw [List.length_map]
        have := HN.out
        omega)
      have HSE := Lib.hid (show setL l X = l.filter (fun m => m.n != yn) ++ [X] from by unfold setL; rw [HXN.out])
      have HSZ := Lib.hid (show w0.heap.size ≤ wr.heap.size from HB.out.size)
      clear hE
      have hx := HMX.out
      rw [HX.out] at hx
      have x0 : wr.cell? ⟨w.heap.size, 0, none⟩ = some (iv yn) := hx.cell 0
      have x1 : wr.cell? ⟨w.heap.size, 1, none⟩ = some (iv ys) := hx.cell 1
      have x2 : wr.cell? ⟨w.heap.size, 2, none⟩ = some (iv yw) := hx.cell 2
      have x3 : wr.cell? ⟨w.heap.size, 3, none⟩ = some (iv yu) := hx.cell 3
      have x4 : wr.cell? ⟨w.heap.size, 4, none⟩ = some (.bool yb) := hx.cell 4
      have x5 : wr.cell? ⟨w.heap.size, 5, none⟩ = some (iv yk) := hx.cell 5
      have x6 : wr.cell? ⟨w.heap.size, 6, none⟩ = some (tx yd) := hx.cell 6
      have x7 : wr.cell? ⟨w.heap.size, 7, none⟩ = some (tx yt) := hx.cell 7
      clear hx HMX
      go_wp2_with (first
        | (refine wp_build_mi ⟨yn, ys, yw, yu, yb, yk, yd, yt⟩ (.tmp 26) rfl rfl rfl ?_)
        | (at_builtin
           refine wp_append_rowW (Rw.below HR.out (belowSelf wr _)) w0.heap.size (belowThen HB.out (belowSelf wr _)) (Nat.le_refl _) (miC ⟨yn, ys, yw, yu, yb, yk, yd, yt⟩) (by omega) (by omega) rfl (HX.out ▸ HO.out) (.tmp 25) (.tmp 27) Tmis ti _ 80 rfl rfl Tryd.underlying27 HTI.out HZZ.out HS3.out HBY.out rfl (by omega) rfl rfl (fun j u hu => by
             have := (Mem.new wr Tmi (miC ⟨yn, ys, yw, yu, yb, yk, yd, yt⟩)).cell j
             rw [hu] at this
             exact this) HLE.out (by have := HSZ.out; simp at this ⊢; omega) ?_
           intro v3 w3 hr3 hb3
           have HR3 := Lib.hid (show RwM w3 w0.heap.size v3 (setL l X) from by
             unfold RwM
             rw [HSE.out, List.map_append, HX.out]
             exact hr3)
           have HB3 := Lib.hid (show Below w.heap.size w w3 from belowThen HBW.out hb3)
           clear hr3 hb3)
        | fail)
      go_ret
      exact ⟨_, rfl, HR3.out.rd, HB3.out⟩
end
end Go.Proofs.YtblfekecmahagaaDoor

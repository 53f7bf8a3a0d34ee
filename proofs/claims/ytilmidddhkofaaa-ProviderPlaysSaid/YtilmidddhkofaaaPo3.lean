/-
  The reference of layer 21: Drop, Expire.
-/
import Derived.Test.YtilmidddhkofaaaPo2
namespace Go.Proofs.Ytilmidddhkofaaa
open Go.RowKit Go.Maps Crv

theorem one_oC (o : OV) : ∀ u ∈ oC o, u.oneCell' = true := by
  intro u hu
  simp only [oC, List.mem_cons, List.not_mem_nil, or_false] at hu
  rcases hu with rfl | rfl | rfl <;> rfl
theorem on_inf : ∃ i, Try.prog.info? Ton = some i ∧ i.zero = some (.agg #[.string ⟨#[]⟩, iv 0, iv 0]) ∧ i.size = 3 ∧ i.bytes = 32 := info_of (by kernel_rfl)
/-- A list that a call has made. -/
def RwO (w : World) (base : Nat) (v : Value) (l : List OV) : Prop := Rw w base Ton 3 v (l.map oC)
theorem RwO.rd {w : World} {base : Nat} {v : Value} {l : List OV} (h : RwO w base v l) : RdO w v l := Rw.rd h
theorem run_bslice_on (o : OV) (W : World) : (Instr.buildSlice Tons 1 #[(0, .agg #[tx o.1, iv o.2.1, iv o.2.2])]).run Try.prog W = .ok (.slice (some ⟨W.heap.size, 0, none⟩) 1 1) (W.alloc (.cells (oC o).toArray Ton)) := by
  simp [go_sem, Instr.buildSlice, oC]
theorem wp_build_on {ops : Array Oper} {rest : List Oper} {o : Oper} {a : Act} {w : World} {Q : Exit → Act → World → Prop} (q : OV) (y : Operand) (hgd : o.guard = none) (ho : o.op = .buildSlice Tons 1 #[(0, y)]) (hy : a.eval y = .agg #[tx q.1, iv q.2.1, iv q.2.2])
    (h : wpList Try.prog ops Q rest (a.put o.dst (.slice (some ⟨w.heap.size, 0, none⟩) 1 1)) (w.alloc (.cells (oC q).toArray Ton))) : wpList Try.prog ops Q (o :: rest) a w := by
  refine wpList_plain hgd fun K hK => ?_
  have hr := run_bslice_on q w
  unfold Oper.wp execOp
  simp only [ho, List.map_toArray, List.map_cons, List.map_nil, hy, hr, Sem.run_bind, Sem.run_pure, Result.andThen_ok]
  exact hK _ _ h
section
variable {w : World} {v : Value} {l : List OV}
set_option maxHeartbeats 2000000 in
set_option maxRecDepth 100000 in
theorem rexp_any (now : Int) (h : RdO w v l) (hl : l.length ≤ 1000000) : Calls Try.prog 16 #[v, iv now] w fun e w' => ∃ v', e = .returned v' ∧ RwO w' w.heap.size v' (expO now l) ∧ Below w.heap.size w w' := by
  obtain ⟨a, cap, rfl, -⟩ := h.form
  have H := Lib.hid h
  obtain ⟨N, hN⟩ : ∃ N, N = l.length := ⟨_, rfl⟩
  have HN := Lib.hid hN
  rw [← hN] at H hl ⊢
  obtain ⟨ti, hti, hz, hs3, hby⟩ := on_inf
  have HTI := Lib.hid hti
  have HZZ := Lib.hid hz
  have HS3 := Lib.hid hs3
  have HBY := Lib.hid hby
  have HR0 := Lib.hid (show RwO (w.alloc (.cells #[] Ton)) w.heap.size (.slice (some ⟨w.heap.size, 0, none⟩) 0 0) [] from Rw.new Ton 3 (Nat.le_refl _))
  have HB0 := Lib.hid (belowSelf w (.cells #[] Ton))
  clear h hN hti hz hs3 hby
  go_enter Try.func16, Try.ntmps16
  go_wp2_with fail
  go_loopw [5, 11] (fun v s wr => ∃ i : Nat, i ≤ N ∧ s = .int .i64 i ∧ Hid (RwO wr w.heap.size v (expO now (l.take i))) ∧ Hid (Below w.heap.size w wr)) (fun _ s _ => N - (intOf s).toNat)
  case atStart => exact ⟨0, by omega, rfl, HR0, HB0⟩
  case round =>
    obtain ⟨i, hi, rfl, HR, HB⟩ := hrel
    clear HR0 HB0
    by_cases hlt : i < N
    · have hd : decide ((i : Int) < (N : Int)) = true := by simp; omega
      have hd2 : (i : Int) < (N : Int) := by omega
      have hil : i < l.length := by rw [← HN.out]; exact hlt
      obtain ⟨g, off, rfl, c0, c1, c2⟩ := (H.out.below HB.out).at hil
      obtain ⟨o, ho⟩ : ∃ o, o = l[i] := ⟨_, rfl⟩
      rw [← ho] at c0 c1 c2
      have HT := Lib.hid (show expO now (l.take (i + 1)) = expO now (l.take i) ++ (if now < o.2.2 then [o] else []) from by
        rw [List.take_succ_eq_append_getElem hil, ← ho]
        unfold expO
        rw [List.filter_append]
        congr 1
        by_cases h : now < o.2.2 <;> simp [h])
      have HLE := Lib.hid (show ((expO now (l.take i)).map oC).length ≤ 900000000 from by
        have := List.length_filter_le (fun o : OV => decide (now < o.2.2)) (l.take i)
        rw [List.length_take] at this
        rw [List.length_map]
        unfold expO
        omega)
      have HO := Lib.hid (one_oC o)
      obtain ⟨x, n, u⟩ := o
      simp only at c0 c1 c2 HT
      have HB2 := Lib.hid (belowThen HB.out (belowSelf wr (.cells #[tx x, iv n, iv u] Ton)))
      have HR2 := Lib.hid (show RwO (wr.alloc (.cells #[tx x, iv n, iv u] Ton)) w.heap.size u5 (expO now (l.take i)) from Rw.below HR.out (belowSelf wr _))
      clear ho hil HR HB
      by_cases hc : u > now
      · have hdc : decide (u > now) = true := by simpa using hc
        have HC := Lib.hid (show now < u from hc)
        clear hc
        go_wp2_with (first
          | (refine wp_build_on (x, n, u) (.tmp 20) rfl rfl rfl ?_)
          | (at_builtin
             refine wp_append_row (Rw.below HR2.out (belowSelf _ _)) w.heap.size (belowThen HB2.out (belowSelf _ _)) (Nat.le_refl _) (oC (x, n, u)) (by omega) rfl HO.out (.tmp 19) (.tmp 21) Tons ti (.agg #[.string ⟨#[]⟩, iv 0, iv 0]) 32 rfl rfl Try.underlying26 HTI.out HZZ.out HS3.out HBY.out rfl (by omega) rfl rfl (fun j y hy => by
               have := (Mem.new (wr.alloc (.cells #[tx x, iv n, iv u] Ton)) Ton (oC (x, n, u))).cell j
               rw [hy] at this
               exact this) HLE.out (by have := HB2.out.size; simp at this ⊢; omega) ?_
             intro v3 w3 hr3 hb3 hs3 hg3 hat3
             have HR3 := Lib.hid (show RwO w3 w.heap.size v3 (expO now (l.take (i + 1))) from by
               unfold RwO
               rw [HT.out, if_pos HC.out, List.map_append]
               exact hr3)
             have HB3 := Lib.hid hb3
             clear hr3 hb3 hs3 hg3 hat3)
          | fail)
        go_roundw
        case rel => exact ⟨i + 1, by omega, by go_num, HR3, HB3⟩
        case measure => simp [intOf]; omega
      · have hdc : decide (u > now) = false := by simpa using hc
        have HC := Lib.hid (show ¬ now < u from hc)
        have HR3 := Lib.hid (show RwO (wr.alloc (.cells #[tx x, iv n, iv u] Ton)) w.heap.size u5 (expO now (l.take (i + 1))) from by
          rw [HT.out, if_neg HC.out, List.append_nil]
          exact HR2.out)
        go_wp2_with fail
        go_roundw
        case rel => exact ⟨i + 1, by omega, by go_num, HR3, HB2⟩
        case measure => simp [intOf]; omega
    · have hd : decide ((i : Int) < (N : Int)) = false := by simp; omega
      have hd2 : ¬ (i : Int) < (N : Int) := by omega
      have HE := Lib.hid (show l.take i = l from List.take_of_length_le (by rw [← HN.out]; omega))
      have HR2 := Lib.hid (show RwO wr w.heap.size u5 (expO now l) from by have := HR.out; rwa [HE.out] at this)
      clear HR
      go_wp2_with fail
      go_ret
      exact ⟨_, rfl, HR2.out, HB.out⟩
set_option maxHeartbeats 2000000 in
set_option maxRecDepth 100000 in
theorem rdrop_any (id : List UInt8) (nn : Int) (h : RdO w v l) (hl : l.length ≤ 1000000) : Calls Try.prog 14 #[v, tx id, iv nn] w fun e w' => ∃ v', e = .returned v' ∧ RwO w' w.heap.size v' (dropO id nn l) ∧ Below w.heap.size w w' := by
  obtain ⟨a, cap, rfl, -⟩ := h.form
  have H := Lib.hid h
  obtain ⟨N, hN⟩ : ∃ N, N = l.length := ⟨_, rfl⟩
  have HN := Lib.hid hN
  rw [← hN] at H hl ⊢
  obtain ⟨ti, hti, hz, hs3, hby⟩ := on_inf
  have HTI := Lib.hid hti
  have HZZ := Lib.hid hz
  have HS3 := Lib.hid hs3
  have HBY := Lib.hid hby
  have HR0 := Lib.hid (show RwO (w.alloc (.cells #[] Ton)) w.heap.size (.slice (some ⟨w.heap.size, 0, none⟩) 0 0) [] from Rw.new Ton 3 (Nat.le_refl _))
  have HB0 := Lib.hid (belowSelf w (.cells #[] Ton))
  clear h hN hti hz hs3 hby
  go_enter Try.func14, Try.ntmps14
  go_wp2_with fail
  go_loopw [7, 13] (fun v s wr => ∃ i : Nat, i ≤ N ∧ s = .int .i64 i ∧ Hid (RwO wr w.heap.size v (dropO id nn (l.take i))) ∧ Hid (Below w.heap.size w wr)) (fun _ s _ => N - (intOf s).toNat)
  case atStart => exact ⟨0, by omega, rfl, HR0, HB0⟩
  case round =>
    obtain ⟨i, hi, rfl, HR, HB⟩ := hrel
    clear HR0 HB0
    by_cases hlt : i < N
    · have hd : decide ((i : Int) < (N : Int)) = true := by simp; omega
      have hd2 : (i : Int) < (N : Int) := by omega
      have hil : i < l.length := by rw [← HN.out]; exact hlt
      obtain ⟨g, off, rfl, c0, c1, c2⟩ := (H.out.below HB.out).at hil
      obtain ⟨o, ho⟩ : ∃ o, o = l[i] := ⟨_, rfl⟩
      rw [← ho] at c0 c1 c2
      have HT := Lib.hid (show dropO id nn (l.take (i + 1)) = dropO id nn (l.take i) ++ (if o.1 = id ∧ o.2.1 = nn then [] else [o]) from by
        rw [List.take_succ_eq_append_getElem hil, ← ho]
        unfold dropO
        rw [List.filter_append]
        congr 1
        by_cases h : o.1 = id <;> by_cases h' : o.2.1 = nn <;> simp [h, h'])
      have HLE := Lib.hid (show ((dropO id nn (l.take i)).map oC).length ≤ 900000000 from by
        have := List.length_filter_le (fun o : OV => !decide (o.1 = id) || !decide (o.2.1 = nn)) (l.take i)
        rw [List.length_take] at this
        rw [List.length_map]
        unfold dropO
        omega)
      have HO := Lib.hid (one_oC o)
      obtain ⟨x, n, u⟩ := o
      simp only at c0 c1 c2 HT
      have HB2 := Lib.hid (belowThen HB.out (belowSelf wr (.cells #[tx x, iv n, iv u] Ton)))
      have HR2 := Lib.hid (show RwO (wr.alloc (.cells #[tx x, iv n, iv u] Ton)) w.heap.size u7 (dropO id nn (l.take i)) from Rw.below HR.out (belowSelf wr _))
      clear ho hil HR HB
      by_cases he : x = id
      · subst he
        by_cases hc : n = nn
        · subst hc
          have hdc : (n != n) = false := by simp
          have HR3 := Lib.hid (show RwO (wr.alloc (.cells #[tx x, iv n, iv u] Ton)) w.heap.size u7 (dropO x n (l.take (i + 1))) from by
            rw [HT.out, if_pos ⟨rfl, rfl⟩, List.append_nil]
            exact HR2.out)
          go_wp2_with fail
          go_roundw
          case rel => exact ⟨i + 1, by omega, by go_num, HR3, HB2⟩
          case measure => simp [intOf]; omega
        · have hdc : (n != nn) = true := by simpa using hc
          have HC := Lib.hid (show ¬ (x = x ∧ n = nn) from fun q => hc q.2)
          go_wp2_with (first
            | (refine wp_build_on (x, n, u) (.tmp 28) rfl rfl rfl ?_)
            | (at_builtin
               refine wp_append_row (Rw.below HR2.out (belowSelf _ _)) w.heap.size (belowThen HB2.out (belowSelf _ _)) (Nat.le_refl _) (oC (x, n, u)) (by omega) rfl HO.out (.tmp 27) (.tmp 29) Tons ti (.agg #[.string ⟨#[]⟩, iv 0, iv 0]) 32 rfl rfl Try.underlying26 HTI.out HZZ.out HS3.out HBY.out rfl (by omega) rfl rfl (fun j y hy => by
                 have := (Mem.new (wr.alloc (.cells #[tx x, iv n, iv u] Ton)) Ton (oC (x, n, u))).cell j
                 rw [hy] at this
                 exact this) HLE.out (by have := HB2.out.size; simp at this ⊢; omega) ?_
               intro v3 w3 hr3 hb3 hs3 hg3 hat3
               have HR3 := Lib.hid (show RwO w3 w.heap.size v3 (dropO x nn (l.take (i + 1))) from by
                 unfold RwO
                 rw [HT.out, if_neg HC.out, List.map_append]
                 exact hr3)
               have HB3 := Lib.hid hb3
               clear hr3 hb3 hs3 hg3 hat3)
            | fail)
          go_roundw
          case rel => exact ⟨i + 1, by omega, by go_num, HR3, HB3⟩
          case measure => simp [intOf]; omega
      · have hdc : (x != id) = true := by simpa using he
        have HC := Lib.hid (show ¬ (x = id ∧ n = nn) from fun q => he q.1)
        go_wp2_with (first
          | (refine wp_build_on (x, n, u) (.tmp 28) rfl rfl rfl ?_)
          | (at_builtin
             refine wp_append_row (Rw.below HR2.out (belowSelf _ _)) w.heap.size (belowThen HB2.out (belowSelf _ _)) (Nat.le_refl _) (oC (x, n, u)) (by omega) rfl HO.out (.tmp 27) (.tmp 29) Tons ti (.agg #[.string ⟨#[]⟩, iv 0, iv 0]) 32 rfl rfl Try.underlying26 HTI.out HZZ.out HS3.out HBY.out rfl (by omega) rfl rfl (fun j y hy => by
               have := (Mem.new (wr.alloc (.cells #[tx x, iv n, iv u] Ton)) Ton (oC (x, n, u))).cell j
               rw [hy] at this
               exact this) HLE.out (by have := HB2.out.size; simp at this ⊢; omega) ?_
             intro v3 w3 hr3 hb3 hs3 hg3 hat3
             have HR3 := Lib.hid (show RwO w3 w.heap.size v3 (dropO id nn (l.take (i + 1))) from by
               unfold RwO
               rw [HT.out, if_neg HC.out, List.map_append]
               exact hr3)
             have HB3 := Lib.hid hb3
             clear hr3 hb3 hs3 hg3 hat3)
          | fail)
        go_roundw
        case rel => exact ⟨i + 1, by omega, by go_num, HR3, HB3⟩
        case measure => simp [intOf]; omega
    · have hd : decide ((i : Int) < (N : Int)) = false := by simp; omega
      have hd2 : ¬ (i : Int) < (N : Int) := by omega
      have HE := Lib.hid (show l.take i = l from List.take_of_length_le (by rw [← HN.out]; omega))
      have HR2 := Lib.hid (show RwO wr w.heap.size u7 (dropO id nn l) from by have := HR.out; rwa [HE.out] at this)
      clear HR
      go_wp2_with fail
      go_ret
      exact ⟨_, rfl, HR2.out, HB.out⟩
end
end Go.Proofs.Ytilmidddhkofaaa

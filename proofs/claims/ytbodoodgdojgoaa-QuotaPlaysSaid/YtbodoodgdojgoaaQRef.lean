/-
  The reference of layer 24: a list of shares in memory; Has, Take.
-/
import Derived.Test.YtbodoodgdojgoaaQAct
namespace Go.Proofs.Ytbodoodgdojgoaa
open Go.RowKit Go.Maps Crv

abbrev Tsr : TypeId := 50
abbrev Tsrs : TypeId := 31
/-- A share's cells. -/
def shC (o : Int × (Int × Int)) : List Value := [iv o.1, iv o.2.1, iv o.2.2]
def RdS (w : World) (v : Value) (l : SHt) : Prop := Rd w 3 v (l.map shC)
def RwS (w : World) (base : Nat) (v : Value) (l : SHt) : Prop := Rw w base Tsr 3 v (l.map shC)
theorem RwS.rd {w : World} {base : Nat} {v : Value} {l : SHt} (h : RwS w base v l) : RdS w v l := Rw.rd h
theorem RdS.below {w w' : World} {v : Value} {l : SHt} (h : RdS w v l) (hb : Below w.heap.size w w') : RdS w' v l := Rd.below h hb
theorem RdS.form {w : World} {v : Value} {l : SHt} (h : RdS w v l) : ∃ a cap, v = .slice a l.length cap ∧ l.length ≤ cap := by
  obtain ⟨a, cap, h1, h2, _⟩ := h
  rw [List.length_map] at h1 h2
  exact ⟨a, cap, h1, h2⟩
theorem RdS.at {w : World} {a : Option Addr} {n cap : Nat} {l : SHt} (h : RdS w (.slice a n cap) l) {i : Nat} (hi : i < l.length) :
    ∃ g off, a = some ⟨g, off, none⟩ ∧ w.cell? ⟨g, off + i * 3, none⟩ = some (iv l[i].1) ∧ w.cell? ⟨g, off + i * 3 + 1, none⟩ = some (iv l[i].2.1) ∧ w.cell? ⟨g, off + i * 3 + 2, none⟩ = some (iv l[i].2.2) := by
  obtain ⟨a', cap', h1, _, h3⟩ := h
  injection h1 with h1 _ _
  obtain ⟨g, off, ha, _, hr⟩ := h3 i (by simpa using hi)
  rw [List.getElem_map] at hr
  exact ⟨g, off, h1.trans ha, hr 0 _ rfl, hr 1 _ rfl, hr 2 _ rfl⟩
theorem one_shC (o : Int × (Int × Int)) : ∀ u ∈ shC o, u.oneCell' = true := by
  intro u hu
  simp only [shC, List.mem_cons, List.not_mem_nil, or_false] at hu
  rcases hu with rfl | rfl | rfl <;> rfl
theorem sr_inf : ∃ i, Try.prog.info? Tsr = some i ∧ i.zero = some (.agg #[iv 0, iv 0, iv 0]) ∧ i.size = 3 ∧ i.bytes = 24 := info_of (by kernel_rfl)
theorem run_bslice_sr (o : Int × (Int × Int)) (W : World) : (Instr.buildSlice Tsrs 1 #[(0, .agg #[iv o.1, iv o.2.1, iv o.2.2])]).run Try.prog W = .ok (.slice (some ⟨W.heap.size, 0, none⟩) 1 1) (W.alloc (.cells (shC o).toArray Tsr)) := by
  simp [go_sem, Instr.buildSlice, shC]
theorem wp_build_sr {ops : Array Oper} {rest : List Oper} {o : Oper} {a : Act} {w : World} {Q : Exit → Act → World → Prop} (q : Int × (Int × Int)) (y : Operand) (hgd : o.guard = none) (ho : o.op = .buildSlice Tsrs 1 #[(0, y)]) (hy : a.eval y = .agg #[iv q.1, iv q.2.1, iv q.2.2])
    (h : wpList Try.prog ops Q rest (a.put o.dst (.slice (some ⟨w.heap.size, 0, none⟩) 1 1)) (w.alloc (.cells (shC q).toArray Tsr))) : wpList Try.prog ops Q (o :: rest) a w := by
  refine wpList_plain hgd fun K hK => ?_
  have hr := run_bslice_sr q w
  unfold Oper.wp execOp
  simp only [ho, List.map_toArray, List.map_cons, List.map_nil, hy, hr, Sem.run_bind, Sem.run_pure, Result.andThen_ok]
  exact hK _ _ h
/-- No share of the first i is this address's. -/
def NoS (n : Int) (l : SHt) (i : Nat) : Prop := ∀ j, j < i → ∀ h : j < l.length, ¬ l[j].1 = n
theorem noS_step {n : Int} {l : SHt} {i : Nat} (h : NoS n l i) (hi : i < l.length) (hne : ¬ l[i].1 = n) : NoS n l (i + 1) := by
  intro j hj hl
  by_cases e : j = i
  · subst e
    exact hne
  · exact h j (by omega) hl
theorem getK_noS {n : Int} {l : SHt} (h : NoS n l l.length) : getK n l = none := by
  rw [getK_none]
  intro p hp
  obtain ⟨j, hj, rfl⟩ := List.getElem_of_mem hp
  exact h j hj hj
theorem getK_at {n : Int} {l : SHt} (hu : Uniq l) {i : Nat} (hi : i < l.length) (hm : l[i].1 = n) : getK n l = some l[i].2 := by
  rw [mem_getK hu]
  rw [← hm]
  exact List.getElem_mem hi
section
variable {w : World} {v : Value} {l : SHt} {each most : Int}
set_option maxHeartbeats 4000000 in
set_option maxRecDepth 100000 in
theorem rhas_any (hr : RtQ each most) (h : RdS w v l) (hT : OkQ most l) (hu : Uniq l) (hl : l.length ≤ 1000000) (n : Int) {now : Int} (hw : 0 ≤ now ∧ now ≤ 1099511627776) : Calls Try.prog 15 #[v, iv each, iv most, iv n, iv now] w fun e w' => e = .returned (iv (hasQ each most l n now)) ∧ Below w.heap.size w w' := by
  obtain ⟨a, cap, rfl, -⟩ := h.form
  have H := Lib.hid h
  have HR := Lib.hid hr
  have HT := Lib.hid hT
  have HU := Lib.hid hu
  have HW := Lib.hid hw
  obtain ⟨N, hN⟩ : ∃ N, N = l.length := ⟨_, rfl⟩
  have HN := Lib.hid hN
  rw [← hN] at H hl ⊢
  clear h hN hr hT hu
  go_enter Try.func15, Try.ntmps15
  go_wp2_with fail
  go_loopw [17] (fun s wr => ∃ i : Nat, i ≤ N ∧ s = .int .i64 i ∧ Hid (NoS n l i) ∧ Hid (Below w.heap.size w wr)) (fun s _ => N - (intOf s).toNat)
  case atStart => exact ⟨0, by omega, rfl, Lib.hid (fun j hj => absurd hj (Nat.not_lt_zero j)), Lib.hid (Below.refl _ _)⟩
  case round =>
    obtain ⟨i, hi, rfl, HNO, HB⟩ := hrel
    by_cases hlt : i < N
    · have hd : decide ((i : Int) < (N : Int)) = true := by simp; omega
      have hd2 : (i : Int) < (N : Int) := by omega
      have hil : i < l.length := by rw [← HN.out]; exact hlt
      obtain ⟨g, off, rfl, c0, c1, c2⟩ := (H.out.below HB.out).at hil
      obtain ⟨o, ho⟩ : ∃ o, o = l[i] := ⟨_, rfl⟩
      rw [← ho] at c0 c1 c2
      have HO := Lib.hid ho
      obtain ⟨m, p⟩ := o
      simp only at c0 c1 c2
      have HB2 := Lib.hid (belowThen HB.out (belowSelf wr (.cells #[iv m, iv p.1, iv p.2] Tsr)))
      clear ho
      by_cases hm : m = n
      · subst hm
        have hg : getK m l = some p := by
          have := getK_at HU.out hil (n := m) (by rw [← HO.out])
          rw [← HO.out] at this
          exact this
        have HP := Lib.hid (HT.out m p hg)
        have HV := Lib.hid (show hasQ each most l m now = growQ each most p now from by unfold hasQ; rw [hg])
        obtain ⟨p0, p1⟩ := p
        have HP0 := Lib.hid (show 0 ≤ p0 ∧ p0 ≤ most from ⟨HP.out.1, HP.out.2.1⟩)
        have HP1 := Lib.hid (show 0 ≤ p1 ∧ p1 ≤ 1099511627776 from ⟨HP.out.2.2.1, HP.out.2.2.2⟩)
        have HEND := Lib.hid (fun k : Nat => growQ_end (p := (p0, p1)) (k := k) (now := now) HR.out HP0.out)
        have HSTEP := Lib.hid (fun k : Nat => growQ_step (p := (p0, p1)) HR.out k)
        have HS := Lib.hid (show min (p0 + (0 : Nat) * each) most = p0 from by have := HP0.out; simp; omega)
        clear hg HO hil HNO HP H HT HU
        simp only at c1 c2 HB2 HEND HSTEP
        go_wp2_with fail
        go_loopw [13, 14] (fun h s w3 => ∃ k : Nat, (k : Int) ≤ max now p1 - p1 ∧ h = iv (min (p0 + k * each) most) ∧ s = iv (p1 + k) ∧ Hid (Below w.heap.size w w3)) (fun _ s _ => (now - intOf s).toNat)
        case atStart => exact ⟨0, by omega, by rw [HS.out], by simp, HB2⟩
        case round =>
          obtain ⟨k, hk, rfl, rfl, HB3⟩ := hrel
          clear HB2 HB HS
          obtain ⟨x, hx⟩ : ∃ x, x = min (p0 + k * each) most := ⟨_, rfl⟩
          have HX := Lib.hid hx
          rw [← hx]
          have hxm : x ≤ most := by omega
          have hx0 : 0 ≤ x := by
            have := HP0.out
            have : 0 ≤ (k : Int) * each := Int.mul_nonneg (by omega) (by have := HR.out.1; omega)
            omega
          by_cases hc : p1 + k < now ∧ x < most
          · have hd3 : decide (p1 + (k : Int) < now) = true := by simpa using hc.1
            have hd4 : decide (x < most) = true := by simpa using hc.2
            obtain ⟨s, hs⟩ : ∃ s, x + each = s := ⟨_, rfl⟩
            obtain ⟨ws, ws'⟩ := w64 hs (by have h1 := HR.out; unfold RtQ at h1; omega)
            obtain ⟨y, hy⟩ : ∃ y, min s most = y := ⟨_, rfl⟩
            have HY := Lib.hid hy
            have HNX := Lib.hid (show y = min (p0 + ((k + 1 : Nat) : Int) * each) most from by
              rw [← hy, ← hs, HX.out, HSTEP.out k]
              simp)
            obtain ⟨z, hz⟩ : ∃ z, p1 + (k : Int) + 1 = z := ⟨_, rfl⟩
            obtain ⟨wz, wz'⟩ := w64 hz (by have := HP1.out; omega)
            have hc1 := hc.1
            have hc2 := hc.2
            clear hs hy hx
            go_wp2_with (first
              | (refine wp_min0 (c := s) (d := most) (.tmp 41) (.tmp 42) HY.out rfl rfl rfl rfl ?_)
              | fail)
            go_roundw
            case rel => exact ⟨k + 1, by omega, by rw [HNX.out], by rw [← hz]; congr 1; omega, HB3⟩
            case measure =>
              have e0 : wrap64 z = z := IntWalk.wrap64_in _ (by have := HP1.out; omega)
              have e1 := hc1
              have e2 := hz
              clear wz wz' ws ws' hc
              simp [intOf, e0]
              omega
          · have hcc : (decide (p1 + (k : Int) < now) = false ∧ ¬ p1 + (k : Int) < now) ∨ (decide (p1 + (k : Int) < now) = true ∧ p1 + (k : Int) < now ∧ decide (x < most) = false ∧ ¬ x < most) := by
              by_cases h : p1 + (k : Int) < now
              · right; exact ⟨by simpa using h, h, by simp; omega, by omega⟩
              · left; exact ⟨by simpa using h, h⟩
            have HE := Lib.hid (show x = growQ each most (p0, p1) now from by
              have h1 := HEND.out k hk (by have := HX.out; omega)
              rw [HX.out]
              exact h1)
            clear hx
            rcases hcc with ⟨e1, e2⟩ | ⟨e1, e2, e3, e4⟩
            all_goals
              go_wp2_with fail
              go_ret
              exact ⟨by rw [HV.out, ← HE.out]; rfl, HB3.out⟩
      · have hmn : (m == n) = false := by simpa using hm
        have hmn2 : decide (m = n) = false := by simpa using hm
        have HNO2 := Lib.hid (show NoS n l (i + 1) from noS_step HNO.out hil (by rw [← HO.out]; exact hm))
        clear HNO
        go_wp2_with fail
        go_roundw
        case rel => exact ⟨i + 1, by omega, by go_num, HNO2, HB2⟩
        case measure => simp [intOf]; omega
    · have hd : decide ((i : Int) < (N : Int)) = false := by simp; omega
      have hd2 : ¬ (i : Int) < (N : Int) := by omega
      have hg : getK n l = none := getK_noS (fun j hj h => HNO.out j (by have := HN.out; omega) h)
      have HV := Lib.hid (show hasQ each most l n now = most from by unfold hasQ; rw [hg])
      clear hg
      go_wp2_with fail
      go_ret
      exact ⟨by rw [HV.out]; rfl, HB.out⟩
end
end Go.Proofs.Ytbodoodgdojgoaa

/-
  The reference of layer 21: Put.
-/
import Derived.Test.YtilmidddhkofaaaPo4
namespace Go.Proofs.Ytilmidddhkofaaa
open Go.RowKit Go.Maps Crv

theorem add_off (g off j : Nat) : (⟨g, off, none⟩ : Addr).add j = ⟨g, off + j, none⟩ := by unfold Addr.add; split <;> simp_all
theorem len3 {l : List OV} : ∀ x ∈ l.map oC, x.length = 3 := fun x hx => by obtain ⟨o, _, rfl⟩ := List.mem_map.1 hx; rfl
theorem RdO.flat {w : World} {g off n cap : Nat} {l : List OV} (h : RdO w (.slice (some ⟨g, off, none⟩) n cap) l) : ∀ j u, (l.map oC).flatten[j]? = some u → w.cell? ⟨g, off + j, none⟩ = some u := by
  intro j u hu
  have hj := (List.getElem?_eq_some_iff.1 hu).1
  rw [length_flat len3] at hj
  have hi : j / 3 < (l.map oC).length := by omega
  have hf := flat_get (xs := l.map oC) (m := 3) len3 (j / 3) hi (j % 3) (by omega)
  rw [show j / 3 * 3 + j % 3 = j by omega] at hf
  rw [hf] at hu
  obtain ⟨a', cap', h1, _, h3⟩ := h
  injection h1 with h1 _ _
  obtain ⟨g', off', ha, _, hr⟩ := h3 (j / 3) hi
  rw [← h1] at ha
  injection ha with ha
  injection ha with ha1 ha2
  subst ha1 ha2
  have := hr (j % 3) u hu
  rwa [show off + j / 3 * 3 + j % 3 = off + j by omega] at this
/-- One row's time is another one now. -/
theorem RwO.setU {w : World} {base g n cap : Nat} {l : List OV} (h : RwO w base (.slice (some ⟨g, 0, none⟩) n cap) l) {i : Nat} (hi : i < l.length) (m : Int) : RdO (w.setCell ⟨g, i * 3 + 2, none⟩ (iv m)) (.slice (some ⟨g, 0, none⟩) n cap) (l.set i (l[i].1, l[i].2.1, m)) := by
  obtain ⟨a', cap', h1, h2, h3⟩ := h.rd
  refine ⟨a', cap', by rw [h1]; simp, by simpa using h2, fun j hj => ?_⟩
  have hj' : j < l.length := by simpa using hj
  obtain ⟨g', off, ha, hlt, hr⟩ := h3 j (by simpa using hj')
  have hge : g' = g ∧ off = 0 := by
    injection h1 with h1 _ _
    rw [ha] at h1
    injection h1 with h1
    injection h1 with e1 e2
    exact ⟨e1.symm, e2.symm⟩
  obtain ⟨rfl, rfl⟩ := hge
  refine ⟨g', 0, ha, by simpa [World.setCell] using hlt, fun c u hu => ?_⟩
  simp only [List.getElem_map] at hu
  have hrc := hr
  simp only [List.getElem_map] at hrc
  by_cases hji : j = i
  · subst hji
    rw [List.getElem_set_self] at hu
    have hc3 : c < 3 := (List.getElem?_eq_some_iff.1 hu).1
    by_cases hc : c = 2
    · subst hc
      have hu' : u = iv m := by simpa [oC] using hu.symm
      rw [hu', Nat.zero_add]
      exact cell_set_same (hrc 2 (iv l[j].2.2) rfl |> fun q => by rwa [Nat.zero_add] at q)
    · have hu2 : (oC l[j])[c]? = some u := by
        have : c = 0 ∨ c = 1 := by omega
        rcases this with rfl | rfl <;> exact hu
      exact cell_set_other (hrc c u hu2) (fun e => by have := e.2; simp only at this; omega)
  · rw [List.getElem_set_ne (fun e => hji e.symm)] at hu
    have hc3 : c < 3 := (List.getElem?_eq_some_iff.1 hu).1
    exact cell_set_other (hrc c u hu) (fun e => by have := e.2; simp only at this; omega)
/-- Where a row's time lies. -/
theorem RwO.cellU {w : World} {base : Nat} {v : Value} {l : List OV} (h : RwO w base v l) {i : Nat} (hi : i < l.length) : ∃ g cap, v = .slice (some ⟨g, 0, none⟩) l.length cap ∧ base ≤ g ∧ g < w.heap.size ∧ w.cell? ⟨g, i * 3 + 2, none⟩ = some (iv l[i].2.2) ∧ w.frozen? ⟨g, i * 3 + 2, none⟩ = false := by
  rcases h.2.2 with ⟨_, h0⟩ | ⟨g, cap, cur, hv, h1, h2, h3⟩
  · exact absurd h0 (by rw [List.length_map]; omega)
  · have hm := (Array.getElem?_eq_some_iff.1 h2).1
    have hr := h.rd
    subst hv
    rw [List.length_map] at hr
    obtain ⟨g', off, ha, c0, c1, c2⟩ := hr.at hi
    injection ha with ha
    injection ha with e1 e2
    subst e1 e2
    rw [Nat.zero_add] at c2
    exact ⟨g, cap, by rw [List.length_map], h1, hm, c2, by simp [World.frozen?, h2]⟩
theorem below_cell {B : Nat} {a w : World} (h : Below B a w) (g i : Nat) (u : Value) (hg : B ≤ g) : Below B a (w.setCell ⟨g, i, none⟩ u) :=
  h.trans ⟨rfl, rfl, rfl, by simp [World.setCell], fun k hk => Below.heap_setCell w ⟨g, i, none⟩ u k (by simp only; omega)⟩
/-- append([]T{}, l...) of nothing. -/
theorem wp_append_empty {ops : Array Oper} {rest : List Oper} {o : Oper} {a : Act} {w : World} {Q : Exit → Act → World → Prop} {b c : Nat} {ad : Option Addr} (s y : Operand) (hgd : o.guard = none) (ho : o.op = .call { callee := .builtin .append, args := #[s, y], argTypes := #[Tons, Tons] }) (hty : o.type = Tons)
    (hs : a.eval s = .slice (some ⟨b, 0, none⟩) 0 0) (hx : a.eval y = .slice ad 0 c) (h : wpList Try.prog ops Q rest (a.put o.dst (.slice (some ⟨b, 0, none⟩) 0 0)) w) : wpList Try.prog ops Q (o :: rest) a w := by
  refine wpList_plain hgd fun K hK => ?_
  have hK2 := hK _ _ h
  unfold Oper.wp execOp
  simp only [ho, hty, resolve, invoke, builtin, Sem.run_bind, Sem.run_pure, Result.andThen_ok, List.map_toArray, List.map_cons, List.map_nil, hs, hx]
  cases ad <;> (simp [go_sem]; exact hK2)
section
variable {w : World} {v : Value} {l : List OV}
/-- No row of the first i is of this name and address. -/
def NoO (id : List UInt8) (n : Int) (l : List OV) (i : Nat) : Prop := ∀ j, j < i → ∀ h : j < l.length, ¬ (l[j].1 = id ∧ l[j].2.1 = n)
theorem noO_step {id : List UInt8} {n : Int} {l : List OV} {i : Nat} (h : NoO id n l i) (hi : i < l.length) (hne : ¬ (l[i].1 = id ∧ l[i].2.1 = n)) : NoO id n l (i + 1) := by
  intro j hj hl
  by_cases e : j = i
  · subst e
    exact hne
  · exact h j (by omega) hl
theorem putO_found {id : List UInt8} {n u : Int} {i : Nat} (hb : ¬ (n < 0 ∨ 63 < n)) (hno : NoO id n l i) (hi : i < l.length) (hm : l[i].1 = id ∧ l[i].2.1 = n) : putO id n u l = (l.set i (l[i].1, l[i].2.1, max l[i].2.2 u), 0) := by
  unfold putO
  rw [if_neg hb]
  have hf : (l.findIdx? fun o => decide (o.1 = id) && decide (o.2.1 = n)) = some i := by
    rw [List.findIdx?_eq_some_iff_getElem]
    refine ⟨hi, by simp [hm.1, hm.2], fun j hj => ?_⟩
    have := hno j hj (by omega)
    simp only [Bool.and_eq_true, decide_eq_true_eq]
    exact this
  rw [hf]
  simp only
  rw [List.getD_eq_getElem?_getD, List.getElem?_eq_getElem hi, hm.1, hm.2]
  rfl
theorem putO_none {id : List UInt8} {n u : Int} (hb : ¬ (n < 0 ∨ 63 < n)) (hno : NoO id n l l.length) : putO id n u l = if (countO id l = 0 ∧ 64 ≤ namesO l) ∨ 8 ≤ countO id l then (l, 14) else (l ++ [(id, n, max u 0)], 0) := by
  unfold putO
  rw [if_neg hb]
  have hf : (l.findIdx? fun o => decide (o.1 = id) && decide (o.2.1 = n)) = none := by
    rw [List.findIdx?_eq_none_iff]
    intro o ho
    obtain ⟨j, hj, rfl⟩ := List.getElem_of_mem ho
    have := hno j hj hj
    simp only [Bool.and_eq_false_iff, decide_eq_false_iff_not]
    by_cases h : l[j].1 = id
    · exact .inr fun e => this ⟨h, e⟩
    · exact .inl h
  rw [hf]
set_option maxHeartbeats 4000000 in
set_option maxRecDepth 100000 in
theorem rput_any (id : List UInt8) (n u : Int) (h : RdO w v l) (hl : l.length ≤ 1000000) : Calls Try.prog 11 #[v, tx id, iv n, iv u] w fun e w' => ∃ v', e = .returned (.tuple #[v', iv (putO id n u l).2]) ∧ RdO w' v' (putO id n u l).1 ∧ (∀ g, v'.ownBlock = some g → v.ownBlock = some g ∨ (w.heap.size ≤ g ∧ g < w'.heap.size)) ∧ Below w.heap.size w w' := by
  obtain ⟨a, cap, rfl, -⟩ := h.form
  have H := Lib.hid h
  by_cases hbad : n < 0 ∨ 63 < n
  · have hp : putO id n u l = (l, 10) := by unfold putO; rw [if_pos hbad]
    rw [hp]
    obtain ⟨N, hN⟩ : ∃ N, N = l.length := ⟨_, rfl⟩
    rw [← hN] at H ⊢
    clear h hN hp
    by_cases h1 : n < 0
    · have hd : decide (n < 0) = true := by simpa using h1
      go_enter Try.func11, Try.ntmps11
      go_wp2_with fail
      exact bodyPost_ret (results_tmp2 rfl _ _ _) rfl ⟨_, rfl, H.out, fun _ hg => .inl hg, Below.refl _ _⟩
    · have hd : decide (n < 0) = false := by simpa using h1
      have hd2 : decide (n > 63) = true := by simp; omega
      have hd3 : n > 63 := by omega
      go_enter Try.func11, Try.ntmps11
      go_wp2_with fail
      exact bodyPost_ret (results_tmp2 rfl _ _ _) rfl ⟨_, rfl, H.out, fun _ hg => .inl hg, Below.refl _ _⟩
  have hd : decide (n < 0) = false := by simp; omega
  have hd1 : ¬ n < 0 := by omega
  have hd2 : decide (n > 63) = false := by simp; omega
  have hd3 : ¬ n > 63 := by omega
  have HBAD := Lib.hid hbad
  obtain ⟨N, hN⟩ : ∃ N, N = l.length := ⟨_, rfl⟩
  have HN := Lib.hid hN
  rw [← hN] at H hl ⊢
  obtain ⟨ti, hti, hz, hs3, hby⟩ := on_inf
  have HTI := Lib.hid hti
  have HZZ := Lib.hid hz
  have HS3 := Lib.hid hs3
  have HBY := Lib.hid hby
  have HONES := Lib.hid (show ∀ y ∈ l.map oC, ∀ u ∈ y, u.oneCell' = true from fun y hy => by obtain ⟨o, _, rfl⟩ := List.mem_map.1 hy; exact one_oC o)
  have HLN := Lib.hid (show (l.map oC).length = N from by rw [List.length_map, HN.out])
  clear h hN hti hz hs3 hby hbad
  go_enter Try.func11, Try.ntmps11
  go_wp2_with fail
  go_loopw [22] (fun s wr => ∃ i : Nat, i ≤ N ∧ s = .int .i64 i ∧ Hid (NoO id n l i) ∧ Hid (Below w.heap.size w wr)) (fun s _ => N - (intOf s).toNat)
  case atStart => exact ⟨0, by omega, rfl, Lib.hid (fun j hj => absurd hj (Nat.not_lt_zero j)), Lib.hid (Below.refl _ _)⟩
  case round =>
    obtain ⟨i, hi, rfl, HNO, HB⟩ := hrel
    by_cases hlt : i < N
    · have hdi : decide ((i : Int) < (N : Int)) = true := by simp; omega
      have hdi2 : (i : Int) < (N : Int) := by omega
      have hil : i < l.length := by rw [← HN.out]; exact hlt
      obtain ⟨g, off, rfl, c0, c1, c2⟩ := (H.out.below HB.out).at hil
      obtain ⟨o, ho⟩ : ∃ o, o = l[i] := ⟨_, rfl⟩
      rw [← ho] at c0 c1 c2
      have HO := Lib.hid ho
      obtain ⟨x, m, q⟩ := o
      simp only at c0 c1 c2
      have HB2 := Lib.hid (belowThen HB.out (belowSelf wr (.cells #[tx x, iv m, iv q] Ton)))
      clear ho
      by_cases hx : x = id
      · subst hx
        by_cases hm : m = n
        · subst hm
          have HP := Lib.hid (show putO x m u l = (l.set i (x, m, max q u), 0) from by
            have := putO_found (u := u) HBAD.out HNO.out hil (by rw [← HO.out]; exact ⟨rfl, rfl⟩)
            rw [← HO.out] at this
            exact this)
          have HB3 := Lib.hid (belowThen HB2.out (belowSelf (wr.alloc (.cells #[tx x, iv m, iv q] Ton)) (.cells #[] Ton)))
          have HR3 := Lib.hid (show RwO ((wr.alloc (.cells #[tx x, iv m, iv q] Ton)).alloc (.cells #[] Ton)) w.heap.size (.slice (some ⟨wr.heap.size + 1, 0, none⟩) 0 0) [] from by
            have := Rw.new (w := wr.alloc (.cells #[tx x, iv m, iv q] Ton)) (base := w.heap.size) Ton 3 HB2.out.size
            rwa [World.size_alloc] at this)
          have HFL := Lib.hid ((H.out.below HB3.out).flat)
          have HM3 := Lib.hid ((Mem.new wr Ton [tx x, iv m, iv q]).alloc (.cells #[] Ton))
          clear HB
          go_wp2_with (first
            | (at_builtin
               refine wp_append_rows HR3.out w.heap.size HB3.out (Nat.le_refl _) (l.map oC) (by omega) len3 HONES.out (.tmp 37) (.tmp 38) Tons ti (.agg #[.string ⟨#[]⟩, iv 0, iv 0]) 32 rfl rfl Try.underlying26 HTI.out HZZ.out HS3.out HBY.out rfl (by omega) rfl (show Value.slice (some ⟨g, off, none⟩) N cap = .slice (some ⟨g, off, none⟩) (l.map oC).length cap from by rw [HLN.out]) (fun j y hy => by
                 rw [add_off]
                 exact HFL.out j y hy) (by rw [HLN.out]; simp; omega) HB3.out.size ?_
               intro v4 w4 hr4 hb4 hs4 hg4 hat4
               have hm4 : Mem w4 wr.heap.size Ton [tx x, iv m, iv q] := HM3.out.grown hg4 (fun e => by
                 simp only [Value.ownBlock, Option.some.injEq] at e
                 omega)
               have q2 : w4.cell? ⟨wr.heap.size, 2, none⟩ = some (iv q) := hm4.cell 2
               have hr4' : RwO w4 w.heap.size v4 l := by simpa [RwO] using hr4
               obtain ⟨g3, cap3, rfl, hge3, hlt3, hc3, hf3⟩ := hr4'.cellU hil
               rw [← HN.out] at hr4' ⊢
               have HR4 := Lib.hid hr4'
               have HGE := Lib.hid hge3
               have HB4 := Lib.hid hb4
               clear hr4 hr4' hb4 hs4 hg4 hat4 hm4 hge3)
            | (at_builtin
               refine wp_max0 (.tmp 43) (.tmp 44) rfl rfl rfl rfl ?_)
            | fail)
          have hset := HR4.out.setU hil (max q u)
          rw [show (l[i]'hil) = (x, m, q) from HO.out.symm] at hset
          exact bodyPost_ret (results_tmp2 rfl _ _ _) rfl ⟨_, (by rw [HP.out]; rfl), (by rw [HP.out]; exact hset), (fun g hg => by
            have e : g3 = g := by injection hg
            subst e
            exact .inr ⟨HGE.out, by simpa [World.setCell] using hlt3⟩), below_cell HB4.out _ _ _ HGE.out⟩
        · have hmn : decide (m = n) = false := by simpa using hm
          have hmn2 : (m == n) = false := by simpa using hm
          have HNO2 := Lib.hid (show NoO x n l (i + 1) from noO_step HNO.out hil (by rw [← HO.out]; exact fun e => hm e.2))
          clear HNO
          go_wp2_with fail
          go_roundw
          case rel => exact ⟨i + 1, by omega, by go_num, HNO2, HB2⟩
          case measure => simp [intOf]; omega
      · have hs : (x == id) = false := by simpa using hx
        have HNO2 := Lib.hid (show NoO id n l (i + 1) from noO_step HNO.out hil (by rw [← HO.out]; exact fun e => hx e.1))
        clear HNO
        go_wp2_with fail
        go_roundw
        case rel => exact ⟨i + 1, by omega, by go_num, HNO2, HB2⟩
        case measure => simp [intOf]; omega
    · have hdi : decide ((i : Int) < (N : Int)) = false := by simp; omega
      have hdi2 : ¬ (i : Int) < (N : Int) := by omega
      have HP := Lib.hid (putO_none (u := u) HBAD.out (show NoO id n l l.length from fun j hj h => HNO.out j (by have := HN.out; omega) h))
      obtain ⟨c, hc⟩ : ∃ c, c = countO id l := ⟨_, rfl⟩
      obtain ⟨k, hk⟩ : ∃ k, k = namesO l := ⟨_, rfl⟩
      have HC := Lib.hid hc
      have HK := Lib.hid hk
      clear hc hk
      by_cases hc0 : c = 0
      · subst hc0
        go_wp2_with fail
        refine (rcount_any id (H.out.below HB.out) (by rw [← HN.out]; exact hl)).mono ?_
        rintro _ w1 ⟨rfl, hb1⟩
        rw [← HC.out]
        have HB1 := Lib.hid (belowThen HB.out hb1)
        clear hb1
        go_wp2_with fail
        refine (rnames_any (H.out.below HB1.out) (by rw [← HN.out]; exact hl)).mono ?_
        rintro _ w2 ⟨rfl, hb1⟩
        rw [← HK.out]
        have HB2 := Lib.hid (belowThen HB1.out hb1)
        clear hb1
        by_cases hk64 : 64 ≤ k
        · have hdk : decide ((k : Int) ≥ 64) = true := by simp; omega
          have hdk2 : (k : Int) ≥ 64 := by omega
          go_wp2_with fail
          have hp := HP.out
          rw [if_pos (by rw [← HC.out, ← HK.out]; omega)] at hp
          exact bodyPost_ret (results_tmp2 rfl _ _ _) rfl ⟨_, (by rw [hp]; rfl), (by rw [hp]; exact H.out.below HB2.out), fun _ hg => .inl hg, HB2.out⟩
        · have hdk : decide ((k : Int) ≥ 64) = false := by simp; omega
          have hdk2 : ¬ (k : Int) ≥ 64 := by omega
          go_wp2_with fail
          refine (rcount_any id (H.out.below HB2.out) (by rw [← HN.out]; exact hl)).mono ?_
          rintro _ w3 ⟨rfl, hb1⟩
          rw [← HC.out]
          have HB3c := Lib.hid (belowThen HB2.out hb1)
          clear hb1
          have hp := HP.out
          rw [if_neg (by rw [← HC.out, ← HK.out]; omega)] at hp
          have HP2 := Lib.hid hp
          clear hp HP
          have HB3 := Lib.hid (belowThen HB3c.out (belowSelf w3 (.cells #[] Ton)))
          have HR3 := Lib.hid (show RwO (w3.alloc (.cells #[] Ton)) w.heap.size (.slice (some ⟨w3.heap.size, 0, none⟩) 0 0) [] from Rw.new Ton 3 HB3c.out.size)
          have HO1 := Lib.hid (one_oC (id, n, max u 0))
          by_cases hn0 : N = 0
          · have hl0 : l = [] := List.length_eq_zero_iff.1 (by rw [← HN.out]; exact hn0)
            subst hl0
            subst hn0
            go_wp2_with (first
              | (at_builtin
                 refine wp_append_empty (.tmp 66) (.tmp 67) rfl rfl rfl rfl rfl ?_)
              | (at_builtin
                 refine wp_max0 (.tmp 71) (.const (.int .i64 0)) rfl rfl rfl rfl ?_)
              | (refine wp_build_on (id, n, max u 0) (.tmp 73) rfl rfl rfl ?_)
              | (at_builtin
                 refine wp_append_row (Rw.below HR3.out (belowSelf _ _)) w.heap.size (belowThen HB3.out (belowSelf _ _)) (Nat.le_refl _) (oC (id, n, max u 0)) (by omega) rfl HO1.out (.tmp 68) (.tmp 74) Tons ti (.agg #[.string ⟨#[]⟩, iv 0, iv 0]) 32 rfl rfl Try.underlying26 HTI.out HZZ.out HS3.out HBY.out rfl (by omega) rfl rfl (fun j y hy => by
                   have := (Mem.new (w3.alloc (.cells #[] Ton)) Ton (oC (id, n, max u 0))).cell j
                   rw [hy] at this
                   exact this) (by simp) (by have := HB3.out.size; simp at this ⊢; omega) ?_
                 intro v5 w5 hr5 hb5 hs5 hg5 hat5
                 have HR5 := Lib.hid (show RwO w5 w.heap.size v5 ([] ++ [(id, n, max u 0)]) from by
                   unfold RwO
                   rw [List.map_append]
                   exact hr5)
                 have HB5 := Lib.hid hb5
                 clear hr5 hb5 hs5 hg5 hat5)
              | fail)
            exact bodyPost_ret (results_tmp2 rfl _ _ _) rfl ⟨_, (by rw [HP2.out]; rfl), (by rw [HP2.out]; exact HR5.out.rd), fun g hg => .inr ⟨(Rw.lt HR5.out g hg).2, (Rw.lt HR5.out g hg).1⟩, HB5.out⟩
          have HFL : ∃ g off, a = some ⟨g, off, none⟩ ∧ Hid (∀ j y, (l.map oC).flatten[j]? = some y → (w3.alloc (.cells #[] Ton)).cell? ⟨g, off + j, none⟩ = some y) := by
            obtain ⟨g, off, ha, _⟩ := H.out.at (i := 0) (by rw [← HN.out]; omega)
            subst ha
            exact ⟨g, off, rfl, Lib.hid ((H.out.below HB3.out).flat)⟩
          obtain ⟨g, off, rfl, HFL⟩ := HFL
          go_wp2_with (first
            | (at_builtin
               refine wp_append_rows HR3.out w.heap.size HB3.out (Nat.le_refl _) (l.map oC) (by omega) len3 HONES.out (.tmp 66) (.tmp 67) Tons ti (.agg #[.string ⟨#[]⟩, iv 0, iv 0]) 32 rfl rfl Try.underlying26 HTI.out HZZ.out HS3.out HBY.out rfl (by omega) rfl (show Value.slice (some ⟨g, off, none⟩) N cap = .slice (some ⟨g, off, none⟩) (l.map oC).length cap from by rw [HLN.out]) (fun j y hy => by
                 rw [add_off]
                 exact HFL.out j y hy) (by rw [HLN.out]; simp; omega) HB3.out.size ?_
               intro v4 w4 hr4 hb4 hs4 hg4 hat4
               have HR4 := Lib.hid (show RwO w4 w.heap.size v4 l from by simpa [RwO] using hr4)
               have HB4 := Lib.hid hb4
               clear hr4 hb4 hs4 hg4 hat4)
            | (at_builtin
               refine wp_max0 (.tmp 71) (.const (.int .i64 0)) rfl rfl rfl rfl ?_)
            | (refine wp_build_on (id, n, max u 0) (.tmp 73) rfl rfl rfl ?_)
            | (at_builtin
               refine wp_append_row (Rw.below HR4.out (belowSelf _ _)) w.heap.size (belowThen HB4.out (belowSelf _ _)) (Nat.le_refl _) (oC (id, n, max u 0)) (by omega) rfl HO1.out (.tmp 68) (.tmp 74) Tons ti (.agg #[.string ⟨#[]⟩, iv 0, iv 0]) 32 rfl rfl Try.underlying26 HTI.out HZZ.out HS3.out HBY.out rfl (by omega) rfl rfl (fun j y hy => by
                 have := (Mem.new w4 Ton (oC (id, n, max u 0))).cell j
                 rw [hy] at this
                 exact this) (by rw [HLN.out]; omega) (by have := HB4.out.size; simp at this ⊢; omega) ?_
               intro v5 w5 hr5 hb5 hs5 hg5 hat5
               have HR5 := Lib.hid (show RwO w5 w.heap.size v5 (l ++ [(id, n, max u 0)]) from by
                 unfold RwO
                 rw [List.map_append]
                 exact hr5)
               have HB5 := Lib.hid hb5
               clear hr5 hb5 hs5 hg5 hat5)
            | fail)
          exact bodyPost_ret (results_tmp2 rfl _ _ _) rfl ⟨_, (by rw [HP2.out]; rfl), (by rw [HP2.out]; exact HR5.out.rd), fun g hg => .inr ⟨(Rw.lt HR5.out g hg).2, (Rw.lt HR5.out g hg).1⟩, HB5.out⟩
      · have hd0 : decide ((c : Int) = 0) = false := by simp; omega
        have hd02 : ((c : Int) == 0) = false := by simp; omega
        have hd03 : ¬ (c : Int) = 0 := by omega
        go_wp2_with fail
        refine (rcount_any id (H.out.below HB.out) (by rw [← HN.out]; exact hl)).mono ?_
        rintro _ w1 ⟨rfl, hb1⟩
        rw [← HC.out]
        have HB1 := Lib.hid (belowThen HB.out hb1)
        clear hb1
        go_wp2_with fail
        refine (rcount_any id (H.out.below HB1.out) (by rw [← HN.out]; exact hl)).mono ?_
        rintro _ w2 ⟨rfl, hb1⟩
        rw [← HC.out]
        have HB2 := Lib.hid (belowThen HB1.out hb1)
        clear hb1
        by_cases hc8 : 8 ≤ c
        · have hd8 : decide ((c : Int) ≥ 8) = true := by simp; omega
          have hd82 : (c : Int) ≥ 8 := by omega
          go_wp2_with fail
          have hp := HP.out
          rw [if_pos (by rw [← HC.out, ← HK.out]; omega)] at hp
          exact bodyPost_ret (results_tmp2 rfl _ _ _) rfl ⟨_, (by rw [hp]; rfl), (by rw [hp]; exact H.out.below HB2.out), fun _ hg => .inl hg, HB2.out⟩
        · have hd8 : decide ((c : Int) ≥ 8) = false := by simp; omega
          have hd82 : ¬ (c : Int) ≥ 8 := by omega
          have hp := HP.out
          rw [if_neg (by rw [← HC.out, ← HK.out]; omega)] at hp
          have HP2 := Lib.hid hp
          clear hp HP
          have HB3 := Lib.hid (belowThen HB2.out (belowSelf w2 (.cells #[] Ton)))
          have HR3 := Lib.hid (show RwO (w2.alloc (.cells #[] Ton)) w.heap.size (.slice (some ⟨w2.heap.size, 0, none⟩) 0 0) [] from Rw.new Ton 3 HB2.out.size)
          have HO1 := Lib.hid (one_oC (id, n, max u 0))
          by_cases hn0 : N = 0
          · have hl0 : l = [] := List.length_eq_zero_iff.1 (by rw [← HN.out]; exact hn0)
            subst hl0
            subst hn0
            go_wp2_with (first
              | (at_builtin
                 refine wp_append_empty (.tmp 66) (.tmp 67) rfl rfl rfl rfl rfl ?_)
              | (at_builtin
                 refine wp_max0 (.tmp 71) (.const (.int .i64 0)) rfl rfl rfl rfl ?_)
              | (refine wp_build_on (id, n, max u 0) (.tmp 73) rfl rfl rfl ?_)
              | (at_builtin
                 refine wp_append_row (Rw.below HR3.out (belowSelf _ _)) w.heap.size (belowThen HB3.out (belowSelf _ _)) (Nat.le_refl _) (oC (id, n, max u 0)) (by omega) rfl HO1.out (.tmp 68) (.tmp 74) Tons ti (.agg #[.string ⟨#[]⟩, iv 0, iv 0]) 32 rfl rfl Try.underlying26 HTI.out HZZ.out HS3.out HBY.out rfl (by omega) rfl rfl (fun j y hy => by
                   have := (Mem.new (w2.alloc (.cells #[] Ton)) Ton (oC (id, n, max u 0))).cell j
                   rw [hy] at this
                   exact this) (by simp) (by have := HB3.out.size; simp at this ⊢; omega) ?_
                 intro v5 w5 hr5 hb5 hs5 hg5 hat5
                 have HR5 := Lib.hid (show RwO w5 w.heap.size v5 ([] ++ [(id, n, max u 0)]) from by
                   unfold RwO
                   rw [List.map_append]
                   exact hr5)
                 have HB5 := Lib.hid hb5
                 clear hr5 hb5 hs5 hg5 hat5)
              | fail)
            exact bodyPost_ret (results_tmp2 rfl _ _ _) rfl ⟨_, (by rw [HP2.out]; rfl), (by rw [HP2.out]; exact HR5.out.rd), fun g hg => .inr ⟨(Rw.lt HR5.out g hg).2, (Rw.lt HR5.out g hg).1⟩, HB5.out⟩
          have HFL : ∃ g off, a = some ⟨g, off, none⟩ ∧ Hid (∀ j y, (l.map oC).flatten[j]? = some y → (w2.alloc (.cells #[] Ton)).cell? ⟨g, off + j, none⟩ = some y) := by
            obtain ⟨g, off, ha, _⟩ := H.out.at (i := 0) (by rw [← HN.out]; omega)
            subst ha
            exact ⟨g, off, rfl, Lib.hid ((H.out.below HB3.out).flat)⟩
          obtain ⟨g, off, rfl, HFL⟩ := HFL
          go_wp2_with (first
            | (at_builtin
               refine wp_append_rows HR3.out w.heap.size HB3.out (Nat.le_refl _) (l.map oC) (by omega) len3 HONES.out (.tmp 66) (.tmp 67) Tons ti (.agg #[.string ⟨#[]⟩, iv 0, iv 0]) 32 rfl rfl Try.underlying26 HTI.out HZZ.out HS3.out HBY.out rfl (by omega) rfl (show Value.slice (some ⟨g, off, none⟩) N cap = .slice (some ⟨g, off, none⟩) (l.map oC).length cap from by rw [HLN.out]) (fun j y hy => by
                 rw [add_off]
                 exact HFL.out j y hy) (by rw [HLN.out]; simp; omega) HB3.out.size ?_
               intro v4 w4 hr4 hb4 hs4 hg4 hat4
               have HR4 := Lib.hid (show RwO w4 w.heap.size v4 l from by simpa [RwO] using hr4)
               have HB4 := Lib.hid hb4
               clear hr4 hb4 hs4 hg4 hat4)
            | (at_builtin
               refine wp_max0 (.tmp 71) (.const (.int .i64 0)) rfl rfl rfl rfl ?_)
            | (refine wp_build_on (id, n, max u 0) (.tmp 73) rfl rfl rfl ?_)
            | (at_builtin
               refine wp_append_row (Rw.below HR4.out (belowSelf _ _)) w.heap.size (belowThen HB4.out (belowSelf _ _)) (Nat.le_refl _) (oC (id, n, max u 0)) (by omega) rfl HO1.out (.tmp 68) (.tmp 74) Tons ti (.agg #[.string ⟨#[]⟩, iv 0, iv 0]) 32 rfl rfl Try.underlying26 HTI.out HZZ.out HS3.out HBY.out rfl (by omega) rfl rfl (fun j y hy => by
                 have := (Mem.new w4 Ton (oC (id, n, max u 0))).cell j
                 rw [hy] at this
                 exact this) (by rw [HLN.out]; omega) (by have := HB4.out.size; simp at this ⊢; omega) ?_
               intro v5 w5 hr5 hb5 hs5 hg5 hat5
               have HR5 := Lib.hid (show RwO w5 w.heap.size v5 (l ++ [(id, n, max u 0)]) from by
                 unfold RwO
                 rw [List.map_append]
                 exact hr5)
               have HB5 := Lib.hid hb5
               clear hr5 hb5 hs5 hg5 hat5)
            | fail)
          exact bodyPost_ret (results_tmp2 rfl _ _ _) rfl ⟨_, (by rw [HP2.out]; rfl), (by rw [HP2.out]; exact HR5.out.rd), fun g hg => .inr ⟨(Rw.lt HR5.out g hg).2, (Rw.lt HR5.out g hg).1⟩, HB5.out⟩
end
end Go.Proofs.Ytilmidddhkofaaa

/-
  The reference of layer 21: a list of rows in memory; count.
-/
import Derived.Test.YtilmidddhkofaaaPo1
namespace Go.Proofs.Ytilmidddhkofaaa
open Go.RowKit Go.Maps Crv

abbrev Ton : TypeId := 46
abbrev Tons : TypeId := 26
/-- A row's cells. -/
def oC (o : OV) : List Value := [tx o.1, iv o.2.1, iv o.2.2]
def RdO (w : World) (v : Value) (l : List OV) : Prop := Rd w 3 v (l.map oC)
theorem RdO.below {w w' : World} {v : Value} {l : List OV} (h : RdO w v l) (hb : Below w.heap.size w w') : RdO w' v l := Rd.below h hb
theorem RdO.form {w : World} {v : Value} {l : List OV} (h : RdO w v l) : ∃ a cap, v = .slice a l.length cap ∧ l.length ≤ cap := by
  obtain ⟨a, cap, h1, h2, _⟩ := h
  rw [List.length_map] at h1 h2
  exact ⟨a, cap, h1, h2⟩
theorem RdO.at {w : World} {a : Option Addr} {n cap : Nat} {l : List OV} (h : RdO w (.slice a n cap) l) {i : Nat} (hi : i < l.length) :
    ∃ g off, a = some ⟨g, off, none⟩ ∧ w.cell? ⟨g, off + i * 3, none⟩ = some (tx l[i].1) ∧ w.cell? ⟨g, off + i * 3 + 1, none⟩ = some (iv l[i].2.1) ∧ w.cell? ⟨g, off + i * 3 + 2, none⟩ = some (iv l[i].2.2) := by
  obtain ⟨a', cap', h1, _, h3⟩ := h
  injection h1 with h1 _ _
  obtain ⟨g, off, ha, _, hr⟩ := h3 i (by simpa using hi)
  rw [List.getElem_map] at hr
  exact ⟨g, off, h1.trans ha, hr 0 _ rfl, hr 1 _ rfl, hr 2 _ rfl⟩
section
variable {w : World} {v : Value} {l : List OV}
set_option maxHeartbeats 2000000 in
set_option maxRecDepth 100000 in
theorem rcount_any (id : List UInt8) (h : RdO w v l) (hl : l.length ≤ 1000000) : Calls Try.prog 21 #[v, tx id] w fun e w' => e = .returned (iv (countO id l)) ∧ Below w.heap.size w w' := by
  obtain ⟨a, cap, rfl, -⟩ := h.form
  have H := Lib.hid h
  obtain ⟨N, hN⟩ : ∃ N, N = l.length := ⟨_, rfl⟩
  have HN := Lib.hid hN
  rw [← hN] at H hl ⊢
  clear h hN
  go_enter Try.func21, Try.ntmps21
  go_wp2_with fail
  go_loopw [5, 10] (fun c s wr => ∃ i : Nat, i ≤ N ∧ c = iv (countO id (l.take i)) ∧ s = .int .i64 i ∧ Hid (Below w.heap.size w wr)) (fun _ s _ => N - (intOf s).toNat)
  case atStart => exact ⟨0, by omega, rfl, rfl, Lib.hid (Below.refl _ _)⟩
  case round =>
    obtain ⟨i, hi, rfl, rfl, HB⟩ := hrel
    by_cases hlt : i < N
    · have hd : decide ((i : Int) < (N : Int)) = true := by simp; omega
      have hd2 : (i : Int) < (N : Int) := by omega
      have hil : i < l.length := by rw [← HN.out]; exact hlt
      obtain ⟨g, off, rfl, c0, c1, c2⟩ := (H.out.below HB.out).at hil
      obtain ⟨o, ho⟩ : ∃ o, o = l[i] := ⟨_, rfl⟩
      rw [← ho] at c0 c1 c2
      obtain ⟨x, n, u⟩ := o
      simp only at c0 c1 c2
      have HT := Lib.hid (show countO id (l.take (i + 1)) = countO id (l.take i) + (if x = id then 1 else 0) from by
        rw [List.take_succ_eq_append_getElem hil, ← ho]
        unfold countO
        rw [List.countP_append, List.countP_cons, List.countP_nil]
        by_cases h : x = id <;> simp [h])
      have hcl : countO id (l.take i) ≤ 1000000 := Nat.le_trans List.countP_le_length (by rw [List.length_take]; omega)
      obtain ⟨c, hc⟩ : ∃ c, c = countO id (l.take i) := ⟨_, rfl⟩
      rw [← hc] at HT hcl
      simp only [← hc]
      clear ho hil hc
      by_cases he : x = id
      · subst he
        have HT1 : Hid (countO x (l.take (i + 1)) = c + 1) := Lib.hid (by rw [HT.out, if_pos rfl])
        have HB2 := Lib.hid (belowThen HB.out (belowSelf wr (.cells #[tx x, iv n, iv u] Ton)))
        go_wp2_with fail
        refine ⟨⟨i + 1, by omega, by rw [HT1.out]; go_num, by go_num, HB2⟩, ?_⟩
        simp [intOf]; omega
      · have hs2 : (x == id) = false := by simpa using he
        have HT1 : Hid (countO id (l.take (i + 1)) = c) := Lib.hid (by rw [HT.out, if_neg he]; rfl)
        have HB2 := Lib.hid (belowThen HB.out (belowSelf wr (.cells #[tx x, iv n, iv u] Ton)))
        go_wp2_with fail
        refine ⟨⟨i + 1, by omega, by rw [HT1.out], by go_num, HB2⟩, ?_⟩
        simp [intOf]; omega
    · have hd : decide ((i : Int) < (N : Int)) = false := by simp; omega
      have hd2 : ¬ (i : Int) < (N : Int) := by omega
      have HE := Lib.hid (show l.take i = l from List.take_of_length_le (by rw [← HN.out]; omega))
      rw [HE.out]
      go_wp2_with fail
      go_ret
      exact ⟨rfl, HB.out⟩
theorem firsts_cons (pre : List OV) (o : OV) (r : List OV) : firstsO pre (o :: r) = if (pre.all fun q => !decide (q.1 = o.1)) = true then o :: firstsO (pre ++ [o]) r else firstsO (pre ++ [o]) r := by rw [firstsO]
theorem firsts_app : ∀ (a b pre : List OV), firstsO pre (a ++ b) = firstsO pre a ++ firstsO (pre ++ a) b
  | [], b, pre => by simp [firstsO]
  | o :: a, b, pre => by
    have ih := firsts_app a b (pre ++ [o])
    rw [List.cons_append, firsts_cons, firsts_cons, ih, List.append_assoc, List.singleton_append]
    split <;> rfl
theorem names_snoc (a : List OV) (o : OV) : namesO (a ++ [o]) = namesO a + (if (a.all fun q => !decide (q.1 = o.1)) = true then 1 else 0) := by
  unfold namesO
  rw [firsts_app, List.nil_append, List.length_append]
  congr 1
  rw [firsts_cons]
  split <;> rfl
set_option maxHeartbeats 4000000 in
set_option maxRecDepth 100000 in
theorem rnames_any (h : RdO w v l) (hl : l.length ≤ 1000000) : Calls Try.prog 22 #[v] w fun e w' => e = .returned (iv (namesO l)) ∧ Below w.heap.size w w' := by
  obtain ⟨a, cap, rfl, hcap⟩ := h.form
  have H := Lib.hid h
  obtain ⟨N, hN⟩ : ∃ N, N = l.length := ⟨_, rfl⟩
  have HN := Lib.hid hN
  rw [← hN] at H hl hcap ⊢
  clear h hN
  go_enter Try.func22, Try.ntmps22
  go_wp2_with fail
  go_loopw [3, 11] (fun c s wr => ∃ i : Nat, i ≤ N ∧ c = iv (namesO (l.take i)) ∧ s = .int .i64 i ∧ Hid (Below w.heap.size w wr)) (fun _ s _ => N - (intOf s).toNat)
  case atStart => exact ⟨0, by omega, rfl, rfl, Lib.hid (Below.refl _ _)⟩
  case round =>
    obtain ⟨i, hi, rfl, rfl, HB⟩ := hrel
    by_cases hlt : i < N
    · have hd : decide ((i : Int) < (N : Int)) = true := by simp; omega
      have hd2 : (i : Int) < (N : Int) := by omega
      have hil : i < l.length := by rw [← HN.out]; exact hlt
      obtain ⟨g, off, rfl, c0, c1, c2⟩ := (H.out.below HB.out).at hil
      obtain ⟨o, ho⟩ : ∃ o, o = l[i] := ⟨_, rfl⟩
      rw [← ho] at c0 c1 c2
      have HT := Lib.hid (show namesO (l.take (i + 1)) = namesO (l.take i) + (if ((l.take i).all fun q => !decide (q.1 = o.1)) = true then 1 else 0) from by
        rw [List.take_succ_eq_append_getElem hil, ← ho]
        exact names_snoc _ _)
      obtain ⟨x, n, u⟩ := o
      simp only at c0 c1 c2 HT
      have hcl : namesO (l.take i) ≤ 1000000 := by
        have h1 : ∀ (b pre : List OV), (firstsO pre b).length ≤ b.length := fun b => by
          induction b with
          | nil => intro pre; simp [firstsO]
          | cons o b ih =>
            intro pre
            unfold firstsO
            have := ih (pre ++ [o])
            split
            · simp; omega
            · simp; omega
        have := h1 (l.take i) []
        rw [List.length_take] at this
        unfold namesO
        omega
      obtain ⟨c, hc⟩ : ∃ c, c = namesO (l.take i) := ⟨_, rfl⟩
      rw [← hc] at HT hcl
      simp only [← hc]
      have hic : (i : Int) ≤ (cap : Int) := by omega
      have hi0 : (0 : Int) ≤ (i : Int) := by omega
      have HM := Lib.hid (Mem.new wr Ton [tx x, iv n, iv u])
      have HB2 := Lib.hid (belowThen HB.out (belowSelf wr (.cells #[tx x, iv n, iv u] Ton)))
      have HIL := Lib.hid hil
      obtain ⟨bx, hbx⟩ : ∃ b, b = wr.heap.size := ⟨_, rfl⟩
      rw [← hbx] at HM
      have HBX := Lib.hid hbx
      clear ho hil hc
      go_wp2_with fail
      rw [← hbx]
      clear hbx
      go_loopw [6, 20] (fun f s w3 => ∃ j : Nat, j ≤ i ∧ f = .bool ((l.take j).all fun q => !decide (q.1 = x)) ∧ s = .int .i64 j ∧ Hid (Below w.heap.size w w3) ∧ Hid (Mem w3 bx Ton [tx x, iv n, iv u])) (fun _ s _ => i - (intOf s).toNat)
      case atStart => exact ⟨0, by omega, rfl, rfl, HB2, HM⟩
      case round =>
        obtain ⟨j, hj, rfl, rfl, HB3, HM3⟩ := hrel
        clear HB2 HM
        by_cases hlj : j < i
        · have hdj : decide ((j : Int) < (i : Int)) = true := by simp; omega
          have hdj2 : (j : Int) < (i : Int) := by omega
          have hjl : j < l.length := by have := HIL.out; omega
          obtain ⟨g2, off2, e2, k0, k1, k2⟩ := (H.out.below HB3.out).at hjl
          injection e2 with e2
          injection e2 with e2 e3
          subst e2 e3
          obtain ⟨q, hq⟩ : ∃ q : OV, q = l[j] := ⟨_, rfl⟩
          rw [← hq] at k0 k1 k2
          obtain ⟨y, m, v⟩ := q
          simp only at k0 k1 k2
          have HT2 := Lib.hid (show ((l.take (j + 1)).all fun q => !decide (q.1 = x)) = (((l.take j).all fun q => !decide (q.1 = x)) && !decide (y = x)) from by
            rw [List.take_succ_eq_append_getElem hjl, ← hq, List.all_append]
            simp)
          obtain ⟨b, hb⟩ : ∃ b, b = (l.take j).all fun q => !decide (q.1 = x) := ⟨_, rfl⟩
          rw [← hb] at HT2
          simp only [← hb]
          have hcx0 := (HM3.out.alloc (.cells #[tx y, iv m, iv v] Ton)).cell 0
          have hcx : (wr.alloc (.cells #[tx y, iv m, iv v] Ton)).cell? ⟨bx, 0, none⟩ = some (tx x) := hcx0
          have HB4 := Lib.hid (belowThen HB3.out (belowSelf wr (.cells #[tx y, iv m, iv v] Ton)))
          have HM4 := Lib.hid (HM3.out.alloc (.cells #[tx y, iv m, iv v] Ton))
          clear hq hb hjl hcx0 HB3 HM3
          cases b with
          | false =>
            go_wp2_with fail
            go_roundw
            case rel => exact ⟨j + 1, by omega, by rw [HT2.out]; rfl, by go_num, HB4, HM4⟩
            case measure => simp [intOf]; omega
          | true =>
            by_cases he : y = x
            · subst he
              go_wp2_with fail
              go_roundw
              case rel => exact ⟨j + 1, by omega, by rw [HT2.out]; simp, by go_num, HB4, HM4⟩
              case measure => simp [intOf]; omega
            · have hs2 : (y == x) = false := by simpa using he
              go_wp2_with fail
              go_roundw
              case rel => exact ⟨j + 1, by omega, by rw [HT2.out]; simp [he], by go_num, HB4, HM4⟩
              case measure => simp [intOf]; omega
        · have hdj : decide ((j : Int) < (i : Int)) = false := by simp; omega
          have hdj2 : ¬ (j : Int) < (i : Int) := by omega
          have hji : j = i := by omega
          subst hji
          obtain ⟨b, hb⟩ : ∃ b, b = (l.take j).all fun q => !decide (q.1 = x) := ⟨_, rfl⟩
          rw [← hb] at HT ⊢
          clear hb
          cases b with
          | true =>
            have HT1 : Hid (namesO (l.take (j + 1)) = c + 1) := Lib.hid (by rw [HT.out, if_pos rfl])
            go_wp2_with fail
            go_roundw
            case rel => exact ⟨j + 1, by omega, by rw [HT1.out]; go_num, by go_num, HB3⟩
            case measure => simp [intOf]; omega
          | false =>
            have HT1 : Hid (namesO (l.take (j + 1)) = c) := Lib.hid (by rw [HT.out, if_neg (by simp)]; rfl)
            go_wp2_with fail
            go_roundw
            case rel => exact ⟨j + 1, by omega, by rw [HT1.out], by go_num, HB3⟩
            case measure => simp [intOf]; omega
    · have hd : decide ((i : Int) < (N : Int)) = false := by simp; omega
      have hd2 : ¬ (i : Int) < (N : Int) := by omega
      have HE := Lib.hid (show l.take i = l from List.take_of_length_le (by rw [← HN.out]; omega))
      rw [HE.out]
      go_wp2_with fail
      go_ret
      exact ⟨rfl, HB.out⟩
end
end Go.Proofs.Ytilmidddhkofaaa

/-
  The reference of layer 21: Get.
-/
import Derived.Test.YtilmidddhkofaaaPo3
namespace Go.Proofs.Ytilmidddhkofaaa
open Go.RowKit Go.Maps Crv

theorem owns_new0 (w : World) (base : Nat) (e : TypeId) (hb : base ≤ w.heap.size) : Owns (w.alloc (.cells #[] e)) base e (.slice (some ⟨w.heap.size, 0, none⟩) 0 0) [] :=
  Owns.of_mem (Mem.new w e []) hb 0 0 (Nat.le_refl _) rfl (by simp [maxLen]) rfl
theorem getO_len (id : List UInt8) (now : Int) (l : List OV) : ∀ m, (getO id now l m).length ≤ m * l.length
  | 0 => by simp [getO]
  | m + 1 => by
    have ih := getO_len id now l m
    have := List.length_filter_le (hitO id now m) l
    unfold getO
    rw [List.length_append, List.length_map, Nat.succ_mul]
    omega
section
variable {w : World} {v : Value} {l : List OV}
set_option maxHeartbeats 4000000 in
set_option maxRecDepth 100000 in
theorem rget_any (id : List UInt8) (now : Int) (h : RdO w v l) (hl : l.length ≤ 1000000) : Calls Try.prog 18 #[v, tx id, iv now] w fun e w' => ∃ v', e = .returned v' ∧ Owns w' w.heap.size Tin v' ((getO id now l 64).map iv) ∧ Below w.heap.size w w' := by
  obtain ⟨a, cap, rfl, -⟩ := h.form
  have H := Lib.hid h
  obtain ⟨N, hN⟩ : ∃ N, N = l.length := ⟨_, rfl⟩
  have HN := Lib.hid hN
  rw [← hN] at H hl ⊢
  obtain ⟨ti, hti, hz, hs1, hby⟩ := int_inf
  have HTI := Lib.hid hti
  have HZ := Lib.hid hz
  have HS1 := Lib.hid hs1
  have HBY : ti.bytes ≤ 64 := by omega
  have HR0 := Lib.hid (owns_new0 w w.heap.size Tin (Nat.le_refl _))
  have HB0 := Lib.hid (belowSelf w (.cells #[] Tin))
  clear h hN hti hz hs1 hby
  go_enter Try.func18, Try.ntmps18
  go_wp2_with fail
  go_loopw [7, 8] (fun v s wr => ∃ m : Nat, m ≤ 64 ∧ s = .int .i64 m ∧ Hid (Owns wr w.heap.size Tin v ((getO id now l m).map iv)) ∧ Hid (Below w.heap.size w wr)) (fun _ s _ => 64 - (intOf s).toNat)
  case atStart => exact ⟨0, by omega, rfl, HR0, HB0⟩
  case round =>
    obtain ⟨m, hm, rfl, HR, HB⟩ := hrel
    clear HR0 HB0
    by_cases hlm : m < 64
    · have hdm : decide ((m : Int) < 64) = true := by simp; omega
      have hdm2 : (m : Int) < 64 := by omega
      have HR1 := Lib.hid (show Owns wr w.heap.size Tin u7 ((getO id now l m ++ ((l.take 0).filter (hitO id now m)).map fun _ => (m : Int)).map iv) from by simpa using HR.out)
      clear HR
      go_wp2_with fail
      go_loopw [7, 18] (fun v s w3 => ∃ i : Nat, i ≤ N ∧ s = .int .i64 i ∧ Hid (Owns w3 w.heap.size Tin v ((getO id now l m ++ ((l.take i).filter (hitO id now m)).map fun _ => (m : Int)).map iv)) ∧ Hid (Below w.heap.size w w3)) (fun _ s _ => N - (intOf s).toNat)
      case atStart => exact ⟨0, by omega, rfl, HR1, HB⟩
      case round =>
        obtain ⟨i, hi, rfl, HR, HB3⟩ := hrel
        clear HR1 HB
        by_cases hlt : i < N
        · have hd : decide ((i : Int) < (N : Int)) = true := by simp; omega
          have hd2 : (i : Int) < (N : Int) := by omega
          have hil : i < l.length := by rw [← HN.out]; exact hlt
          obtain ⟨g, off, rfl, c0, c1, c2⟩ := (H.out.below HB3.out).at hil
          obtain ⟨o, ho⟩ : ∃ o, o = l[i] := ⟨_, rfl⟩
          rw [← ho] at c0 c1 c2
          have HT := Lib.hid (show (l.take (i + 1)).filter (hitO id now m) = (l.take i).filter (hitO id now m) ++ (if hitO id now m o = true then [o] else []) from by
            rw [List.take_succ_eq_append_getElem hil, ← ho, List.filter_append]
            congr 1
            cases h : hitO id now m o <;> simp [h])
          have HLEN := Lib.hid (show ((getO id now l m ++ ((l.take i).filter (hitO id now m)).map fun _ => (m : Int)).map iv).length + [iv (m : Int)].length ≤ 1099511627776 from by
            have h1 := getO_len id now l m
            have h2 := List.length_filter_le (hitO id now m) (l.take i)
            have h3 : m * l.length ≤ 64 * 1000000 := Nat.mul_le_mul (by omega) (by rw [← HN.out]; exact hl)
            rw [List.length_take] at h2
            simp only [List.length_map, List.length_append, List.length_cons, List.length_nil]
            omega)
          obtain ⟨x, n, u⟩ := o
          simp only at c0 c1 c2
          have HIT := Lib.hid (show hitO id now m (x, n, u) = (decide (x = id) && decide (n = (m : Int)) && decide (now < u)) from rfl)
          have HB4 := Lib.hid (belowThen HB3.out (belowSelf wr (.cells #[tx x, iv n, iv u] Ton)))
          have HR4 := Lib.hid (HR.out.alloc (.cells #[tx x, iv n, iv u] Ton))
          have HONE := Lib.hid (show ∀ u ∈ [iv (m : Int)], u.oneCell' = true from by simp [one_int])
          clear ho hil HR HB3
          obtain ⟨q, hq⟩ : ∃ q, q = hitO id now m (x, n, u) := ⟨_, rfl⟩
          have HQ := Lib.hid hq
          clear hq
          have hcase : (x ≠ id ∧ q = false) ∨ (x = id ∧ n ≠ (m : Int) ∧ q = false) ∨ (x = id ∧ n = (m : Int) ∧ ¬ now < u ∧ q = false) ∨ (x = id ∧ n = (m : Int) ∧ now < u ∧ q = true) := by
            rw [HQ.out, HIT.out]
            by_cases h1 : x = id
            · by_cases h2 : n = (m : Int)
              · by_cases h3 : now < u
                · exact .inr (.inr (.inr ⟨h1, h2, h3, by simp [h1, h2, h3]⟩))
                · exact .inr (.inr (.inl ⟨h1, h2, h3, by simp [h3]⟩))
              · exact .inr (.inl ⟨h1, h2, by simp [h2]⟩)
            · exact .inl ⟨h1, by simp [h1]⟩
          have HNO : q = false → Hid (Owns (wr.alloc (.cells #[tx x, iv n, iv u] Ton)) w.heap.size Tin u7 ((getO id now l m ++ ((l.take (i + 1)).filter (hitO id now m)).map fun _ => (m : Int)).map iv)) := fun hqf => Lib.hid (by
            rw [HT.out, ← HQ.out, hqf, if_neg (by simp), List.append_nil]
            exact HR4.out)
          rcases hcase with ⟨h1, hqf⟩ | ⟨h1, h2, hqf⟩ | ⟨h1, h2, h3, hqf⟩ | ⟨h1, h2, h3, hqt⟩
          · have hs : (x == id) = false := by simpa using h1
            have HE := HNO hqf
            clear HNO hqf
            go_wp2_with fail
            go_roundw
            case rel => exact ⟨i + 1, by omega, by go_num, HE, HB4⟩
            case measure => simp [intOf]; omega
          · subst h1
            have hs : (n == (m : Int)) = false := by simpa using h2
            have HE := HNO hqf
            clear HNO hqf
            go_wp2_with fail
            go_roundw
            case rel => exact ⟨i + 1, by omega, by go_num, HE, HB4⟩
            case measure => simp [intOf]; omega
          · subst h1 h2
            have hs : decide (now < u) = false := by simpa using h3
            have HE := HNO hqf
            clear HNO hqf
            go_wp2_with fail
            go_roundw
            case rel => exact ⟨i + 1, by omega, by go_num, HE, HB4⟩
            case measure => simp [intOf]; omega
          · subst h1 h2
            have hs : decide (now < u) = true := by simpa using h3
            have HEQ := Lib.hid (show (getO x now l m ++ ((l.take (i + 1)).filter (hitO x now m)).map fun _ => (m : Int)).map iv = (getO x now l m ++ ((l.take i).filter (hitO x now m)).map fun _ => (m : Int)).map iv ++ [iv (m : Int)] from by
              rw [HT.out, ← HQ.out, hqt, if_pos rfl]
              simp)
            clear HNO hqt
            go_wp2_with (first
              | (at_builtin; refine wp_append_gr (HR4.out.alloc _) [iv (m : Int)] (.tmp 38) (.tmp 40) Tis ti (iv 0) rfl rfl Try.underlying41 HTI.out HZ.out HS1.out HBY rfl rfl rfl (fun j y hy => by
                   have h := cell_news_one (wr.alloc (.cells #[tx x, iv (m : Int), iv u] Ton)) (iv (m : Int)) Tin j y hy
                   rwa [World.size_alloc] at h) HONE.out HLEN.out (by have := HB4.out.size; simp at this ⊢; omega) ?_
                 intro v5 w5 ho5 hg5 hat5
                 have HE := Lib.hid (show Owns w5 w.heap.size Tin v5 ((getO x now l m ++ ((l.take (i + 1)).filter (hitO x now m)).map fun _ => (m : Int)).map iv) from by
                   rw [HEQ.out]
                   exact ho5)
                 have HB5 := Lib.hid (show Below w.heap.size w w5 from below_own (belowThen HB4.out (belowSelf _ _)) hg5 (fun k hk => (HR4.out.lt k hk).2))
                 clear ho5 hg5 hat5)
              | fail)
            go_roundw
            case rel => exact ⟨i + 1, by omega, by go_num, HE, HB5⟩
            case measure => simp [intOf]; omega
        · have hd : decide ((i : Int) < (N : Int)) = false := by simp; omega
          have hd2 : ¬ (i : Int) < (N : Int) := by omega
          have HE := Lib.hid (show Owns wr w.heap.size Tin u7 ((getO id now l (m + 1)).map iv) from by
            have h1 : l.take i = l := List.take_of_length_le (by rw [← HN.out]; omega)
            have := HR.out
            rw [h1] at this
            exact this)
          clear HR
          go_wp2_with fail
          go_roundw
          case rel => exact ⟨m + 1, by omega, by go_num, HE, HB3⟩
          case measure => simp [intOf]; omega
    · have hdm : decide ((m : Int) < 64) = false := by simp; omega
      have hdm2 : ¬ (m : Int) < 64 := by omega
      have hm64 : m = 64 := by omega
      subst hm64
      go_wp2_with fail
      go_ret
      exact ⟨_, rfl, HR.out, HB.out⟩
end
end Go.Proofs.Ytilmidddhkofaaa

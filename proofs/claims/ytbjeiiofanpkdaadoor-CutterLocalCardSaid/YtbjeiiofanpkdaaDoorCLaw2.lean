/-
  CutterLocal: the walk.
-/
import Derived.Test.YtbjeiiofanpkdaaDoorCLaw1
namespace Go.Proofs.YtbjeiiofanpkdaaDoor
open Go.RowKit Crv
attribute [local go_sem] ByteArray.mk_append_mk

theorem cuts_drop (t : List Nat) : ∀ (k : Nat) (s : List UInt8), k ≤ (cuts t s).length → (cuts t s).drop k = cuts t (s.drop ((cuts t s).take k).flatten.length)
  | 0, s, _ => by simp
  | k + 1, s, h => by
    by_cases hs : s = []
    · subst hs; simp [cuts_nil] at h
    · have h2 := endOf_le t s
      rw [cuts_cons t hs] at h ⊢
      rw [List.length_cons] at h
      rw [List.drop_succ_cons, List.take_succ_cons, List.flatten_cons, List.length_append, List.length_take, Nat.min_eq_left h2, cuts_drop t k _ (by omega), List.drop_drop]
/-- What lies behind a cut: its chunks are those of these bytes alone. -/
theorem cuts_behind (t : List Nat) (a s : List UInt8) (k : Nat) (hk : k ≤ (cuts t (a ++ s)).length) (hl : ((cuts t (a ++ s)).drop k).flatten.length ≤ s.length) :
    (cuts t (a ++ s)).drop k = cuts t (s.drop (s.length - ((cuts t (a ++ s)).drop k).flatten.length)) := by
  have hf := cuts_flatten t (a ++ s).length (a ++ s) (Nat.le_refl _)
  have h1 : ((cuts t (a ++ s)).take k).flatten.length + ((cuts t (a ++ s)).drop k).flatten.length = (a ++ s).length := by
    have := congrArg List.length hf
    rw [← List.take_append_drop k (cuts t (a ++ s)), List.flatten_append, List.length_append] at this
    exact this
  have h2 := cuts_drop t k (a ++ s) hk
  rw [List.length_append] at h1
  rw [h2]
  congr 1
  rw [← h2, List.drop_append, List.drop_of_length_le (by omega), List.nil_append]
  congr 1
  omega
theorem left_step (ls : List (List UInt8)) (p : Nat) (h1 : 1 ≤ p) (h2 : p ≤ ls.length) : (ls.drop (p - 1)).flatten.length = (ls.drop p).flatten.length + (ls.getD (p - 1) []).length := by
  have hl : p - 1 < ls.length := by omega
  rw [List.drop_eq_getElem_cons hl, List.flatten_cons, List.length_append, List.getD_eq_getElem?_getD, List.getElem?_eq_getElem hl, show p - 1 + 1 = p by omega]
  simp
  omega
theorem drop_flatten_le (ls : List (List UInt8)) (p : Nat) : (ls.drop p).flatten.length ≤ ls.flatten.length := by
  have : ls.flatten.length = (ls.take p).flatten.length + (ls.drop p).flatten.length := by rw [← List.length_append, ← List.flatten_append, List.take_append_drop]
  omega
theorem Txs.at' {w : World} {a : Option Addr} {n cap : Nat} {ls : List (List UInt8)} (h : Txs w (.slice a n cap) ls) (i : Nat) (hi : i < ls.length) : ∃ b off, a = some ⟨b, off, none⟩ ∧ w.cell? ⟨b, off + i, none⟩ = some (tx (ls.getD i [])) := by
  obtain ⟨a', cap', hv, hc⟩ := h
  injection hv with h1 h2 h3
  subst h1
  exact hc i hi
theorem Txs.from {w : World} {b off n cap : Nat} {ls : List (List UInt8)} (h : Txs w (.slice (some ⟨b, off, none⟩) n cap) ls) (k : Nat) (hk : k ≤ ls.length) (c : Nat) : Txs w (.slice (some ⟨b, off + k, none⟩) (ls.length - k) c) (ls.drop k) := by
  refine ⟨some ⟨b, off + k, none⟩, c, by rw [List.length_drop], fun i hi => ⟨b, off + k, rfl, ?_⟩⟩
  rw [List.length_drop] at hi
  obtain ⟨b', off', ha, hc⟩ := h.at' (k + i) (by omega)
  injection ha with ha
  injection ha with h1 h2 _
  subst h1 h2
  rw [show off + k + i = off + (k + i) by omega, hc, List.getD_eq_getElem?_getD, List.getD_eq_getElem?_getD, List.getElem?_drop]
/-- A list of one's own begins its block, or is nil. -/
theorem owns_zero {w : World} {base : Nat} {e : TypeId} {a : Option Addr} {cap : Nat} {xs : List Value} (h : Owns w base e (.slice a xs.length cap) xs) : xs ≠ [] → ∃ g, a = some ⟨g, 0, none⟩ := fun hne => by
  obtain ⟨a2, cap2, hv, _, _, h3⟩ := h.form
  injection hv with h1 _ _
  obtain ⟨g, hg, _⟩ := h3 0 (List.length_pos_iff.2 hne)
  exact ⟨g, by rw [h1, hg]⟩
set_option maxRecDepth 100000 in
theorem slice_from (b n cap k : Nat) (hk : k < n) (hn : n ≤ cap) (w : World) : (Instr.slice 53 (.slice (some ⟨b, 0, none⟩) n cap) (some (.int .i64 (k : Int))) none none).run Tryd.prog w = .ok (.slice (some ⟨b, k, none⟩) (n - k) (cap - k)) w := by
  have e1 : k ≤ n := by omega
  have e2 : ¬ cap = k := by omega
  have e4 : (⟨b, 0, none⟩ : Addr).add k = ⟨b, k, none⟩ := add_plain b k
  simp [Instr.slice, Instr.sliceBounds, Instr.sliceBound, asIntOf, run_underlying Tryd.underlying53, Result.andThen, e1, e2, e4]
set_option maxHeartbeats 4000000 in
set_option maxRecDepth 100000 in
theorem cutterLocal_walk (a0 b0 s0 : List UInt8) (n : Int) (w : World) (hc : Consts w) (hn1 : -9223372036854775808 ≤ n) (hn2 : n ≤ 9223372036854775807) :
    Calls Tryd.prog 12 #[.string (str a0), .string (str b0), .string (str s0), .int .i64 n] w fun e w' => e = .returned (.bool true) ∧ Below w.heap.size w w' := by
  have HCA := Lib.hid (fun W => cutB a0 100 (by omega) W)
  have HCB := Lib.hid (fun W => cutB b0 100 (by omega) W)
  have HCS := Lib.hid (fun W => cutB s0 300 (by omega) W)
  rw [show (100 : Int).toNat = 100 from rfl] at HCA HCB
  rw [show (300 : Int).toNat = 300 from rfl] at HCS
  have HBA := Lib.hid (fun W => bytes_of (a0.take 100) n W)
  have HBB := Lib.hid (fun m W => bytes_of (b0.take 100) m W)
  have HBS := Lib.hid (fun W => bytes_of (s0.take 300) 900 W)
  have HC := Lib.hid hc
  have HN := Lib.hid (fun W hW => gearNew_any [99, 97, 114, 97, 118, 97, 110] W hW (by decide))
  obtain ⟨t, ht⟩ : ∃ t, t = gearTab [99, 97, 114, 97, 118, 97, 110] := ⟨_, rfl⟩
  simp only [← ht] at HN
  clear ht hc
  go_enter Tryd.func12, Tryd.ntmps12
  go_wp2_with fail
  refine (HCA.out _).mono ?_
  rintro e w' ⟨rfl, rfl⟩
  go_wp2_with fail
  refine (HBA.out _).mono ?_
  rintro e w1 ⟨sa, rfl, hal, hb1⟩
  have ha15 : sa.length ≤ 1500 := by omega
  clear hal
  go_wp2_with fail
  refine (HCB.out _).mono ?_
  rintro e w' ⟨rfl, rfl⟩
  go_wp2_with fail
  refine (HBB.out _ _).mono ?_
  rintro e w2 ⟨sb, rfl, hbl, hb2⟩
  have hb15 : sb.length ≤ 1500 := by omega
  clear hbl
  go_wp2_with fail
  refine (HCS.out _).mono ?_
  rintro e w' ⟨rfl, rfl⟩
  go_wp2_with fail
  refine (HBS.out _).mono ?_
  rintro e w3 ⟨s, rfl, hsl, hb3⟩
  have hs15 : s.length ≤ 1500 := by omega
  have HB3 := Lib.hid (belowThen (belowThen hb1 hb2) hb3)
  clear hsl hb1 hb2 hb3 HCA HCB HCS HBA HBB HBS
  have HA := Lib.hid (awake8_any w3 (HC.out.below HB3.out))
  go_wp2_with fail
  refine HA.out.mono ?_
  rintro e w4 ⟨rfl, hb4⟩
  have HB4 := Lib.hid (belowThen HB3.out hb4)
  clear hb4 HA
  go_wp2_with fail
  refine (HN.out _ (HC.out.below HB4.out)).mono ?_
  rintro e w5 ⟨rfl, htb, hb5⟩
  have HB5 := Lib.hid (belowThen HB4.out hb5)
  obtain ⟨tb, htbe⟩ : ∃ b, b = w4.heap.size := ⟨_, rfl⟩
  rw [← htbe] at htb
  simp only [← htbe]
  have HT5 := Lib.hid htb
  have HCX := Lib.hid (fun W hW => cut_any tb t (sa ++ s) W hW (by rw [List.length_append]; omega))
  have HCY := Lib.hid (fun W hW => cut_any tb t (sb ++ s) W hW (by rw [List.length_append]; omega))
  have HEX := Lib.hid (cuts_behind t sa s)
  have HEY := Lib.hid (cuts_behind t sb s)
  have hlx := length_cuts t (sa ++ s)
  have hly := length_cuts t (sb ++ s)
  have hfx := congrArg List.length (cuts_flatten t (sa ++ s).length (sa ++ s) (Nat.le_refl _))
  have hfy := congrArg List.length (cuts_flatten t (sb ++ s).length (sb ++ s) (Nat.le_refl _))
  obtain ⟨xs, hxs⟩ : ∃ l, l = cuts t (sa ++ s) := ⟨_, rfl⟩
  obtain ⟨ys, hys⟩ : ∃ l, l = cuts t (sb ++ s) := ⟨_, rfl⟩
  rw [← hxs] at HEX hlx hfx
  rw [← hys] at HEY hly hfy
  simp only [← hxs] at HCX
  simp only [← hys] at HCY
  rw [List.length_append] at hlx hly hfx hfy
  have HFX := Lib.hid hfx
  have HFY := Lib.hid hfy
  clear hb5 htbe htb hxs hys HN HB4 HC hfx hfy
  go_wp2_with fail
  refine (HCX.out _ HT5.out).mono ?_
  rintro e w6 ⟨vx, rfl, hox, hb6⟩
  have HT6 := Lib.hid (HT5.out.below hb6)
  have HB6 := Lib.hid (belowThen HB5.out hb6)
  go_wp2_with fail
  refine (HCY.out _ HT6.out).mono ?_
  rintro e w7 ⟨vy, rfl, hoy, hb7⟩
  have HT7 := Lib.hid (HT6.out.below hb7)
  have HB7 := Lib.hid (belowThen HB6.out hb7)
  obtain ⟨ax, capx, hvx, hcx, _, _⟩ := hox.form
  obtain ⟨ay, capy, hvy, hcy, _, _⟩ := hoy.form
  rw [List.length_map] at hvx hvy hcx hcy
  have HOX := Lib.hid (hox.below hb7)
  have HOY := Lib.hid hoy
  subst hvx
  subst hvy
  have HTX := Lib.hid (Txs.of_owns HOX.out)
  have HTY := Lib.hid (Txs.of_owns HOY.out)
  have HZX := Lib.hid (fun hne => owns_zero (a := ax) (cap := capx) (by rw [List.length_map]; exact HOX.out) hne)
  have HZY := Lib.hid (fun hne => owns_zero (a := ay) (cap := capy) (by rw [List.length_map]; exact HOY.out) hne)
  clear hox hoy hb6 hb7 HT5 HT6 HB5 HB6 HCX HCY HOX HOY
  go_wp2_with fail
  go_loopw [12, 13, 14, 15] (fun i j l r wr => ∃ p q : Nat, p ≤ xs.length ∧ q ≤ ys.length ∧ i = .int .i64 ((p : Int) - 1) ∧ j = .int .i64 ((q : Int) - 1) ∧ l = .int .i64 (((xs.drop p).flatten.length : Nat) : Int) ∧ r = .int .i64 (((ys.drop q).flatten.length : Nat) : Int) ∧ Hid (Below w7.heap.size w7 wr)) (fun i j _ _ _ => (intOf i + intOf j + 2).toNat)
  case atStart => exact ⟨xs.length, ys.length, Nat.le_refl _, Nat.le_refl _, rfl, rfl, by simp, by simp, Lib.hid (Below.refl _ _)⟩
  case round =>
    obtain ⟨p, q, hpx, hqy, rfl, rfl, rfl, rfl, HB⟩ := hrel
    by_cases hpq : 1 ≤ p ∧ 1 ≤ q
    · obtain ⟨hp1, hq1⟩ := hpq
      have d1 : decide ((0 : Int) ≤ (p : Int) - 1) = true := by simp; omega
      have d2 : decide ((0 : Int) ≤ (q : Int) - 1) = true := by simp; omega
      have hLx : (xs.drop p).flatten.length ≤ 3000 := by
        have := drop_flatten_le xs p
        have h2 := HFX.out
        omega
      have hRy : (ys.drop q).flatten.length ≤ 3000 := by
        have := drop_flatten_le ys q
        have h2 := HFY.out
        omega
      have HXP := Lib.hid (HEX.out p hpx)
      have HYP := Lib.hid (HEY.out q hqy)
      have HL1 := Lib.hid (left_step xs p hp1 hpx)
      have HL2 := Lib.hid (left_step ys q hq1 hqy)
      obtain ⟨L, hL⟩ : ∃ L, L = (xs.drop p).flatten.length := ⟨_, rfl⟩
      obtain ⟨R, hR⟩ : ∃ R, R = (ys.drop q).flatten.length := ⟨_, rfl⟩
      rw [← hL] at HXP HL1 hLx
      rw [← hR] at HYP HL2 hRy
      simp only [← hL, ← hR]
      obtain ⟨xx, hxx⟩ : ∃ x, x = xs.getD (p - 1) [] := ⟨_, rfl⟩
      obtain ⟨yy, hyy⟩ : ∃ x, x = ys.getD (q - 1) [] := ⟨_, rfl⟩
      rw [← hxx] at HL1
      rw [← hyy] at HL2
      have hLx1 : L + xx.length ≤ 3000 := by
        have h1 := HL1.out
        have h2 := drop_flatten_le xs (p - 1)
        have h3 := HFX.out
        omega
      have hRy1 : R + yy.length ≤ 3000 := by
        have h1 := HL2.out
        have h2 := drop_flatten_le ys (q - 1)
        have h3 := HFY.out
        omega
      have HLL := Lib.hid hL
      have HRR := Lib.hid hR
      by_cases e1 : L = R
      · subst e1
        by_cases e2 : 0 < L
        · by_cases e3 : L ≤ s.length
          · have hpl : p < xs.length := by
              rcases Nat.lt_or_ge p xs.length with h | h
              · exact h
              · rw [List.drop_of_length_le h] at hL
                simp at hL
                omega
            have hql : q < ys.length := by
              rcases Nat.lt_or_ge q ys.length with h | h
              · exact h
              · rw [List.drop_of_length_le h] at hR
                simp at hR
                omega
            obtain ⟨gx, hgx⟩ := HZX.out (by intro e; have := congrArg List.length e; rw [List.length_map] at this; simp at this; subst this; simp at hpl)
            obtain ⟨gy, hgy⟩ := HZY.out (by intro e; have := congrArg List.length e; rw [List.length_map] at this; simp at this; subst this; simp at hql)
            subst hgx
            subst hgy
            have hX := HXP.out (by omega)
            have hY := HYP.out (by omega)
            have hZl := length_cuts t (s.drop (s.length - L))
            rw [List.length_drop] at hZl
            have HRC := Lib.hid (fun W hW => refCut_any tb t (s.drop (s.length - L)) W hW (by rw [List.length_drop]; omega))
            obtain ⟨Z, hZ⟩ : ∃ Z, Z = cuts t (s.drop (s.length - L)) := ⟨_, rfl⟩
            simp only [← hZ] at HRC
            rw [← hZ] at hX hY hZl
            have HTXr := Lib.hid (show ∀ W, Below w7.heap.size w7 W → Txs W (.slice (some ⟨gx, p, none⟩) (xs.length - p) (capx - p)) Z from fun W hW => by
              have h := (HTX.out.below hW).from p hpx (capx - p)
              rw [hX, Nat.zero_add] at h
              exact h)
            have HTYr := Lib.hid (show ∀ W, Below w7.heap.size w7 W → Txs W (.slice (some ⟨gy, q, none⟩) (ys.length - q) (capy - q)) Z from fun W hW => by
              have h := (HTY.out.below hW).from q hqy (capy - q)
              rw [hY, Nat.zero_add] at h
              exact h)
            have hsx := fun W => slice_from gx xs.length capx p hpl hcx W
            have hsy := fun W => slice_from gy ys.length capy q hql hcy W
            have hss : ∀ W, (Instr.slice 9 (.string (str s)) (some (.int .i64 ((s.length : Int) - (L : Int)))) none none).run Tryd.prog W = .ok (.string (str (s.drop (s.length - L)))) W := fun W => by
              rw [show ((s.length : Int) - (L : Int)) = ((s.length - L : Nat) : Int) by omega]
              exact slice_str_from (P := Tryd.prog) Tryd.underlying9 s .i64 (s.length - L) (by omega) W
            have hw1 : IntKind.i64.wrap (p : Int) = (p : Int) := IntWalk.i64_in _ (by omega)
            have hw2 : IntKind.i64.wrap (q : Int) = (q : Int) := IntWalk.i64_in _ (by omega)
            have hw3 : IntKind.i64.wrap ((s.length : Int) - (L : Int)) = (s.length : Int) - (L : Int) := IntWalk.i64_in _ (by omega)
            have hw4 : IntKind.i64.wrap ((p : Int) - 1 + 1) = (p : Int) := by rw [show (p : Int) - 1 + 1 = (p : Int) by omega]; exact hw1
            have hw5 : IntKind.i64.wrap ((q : Int) - 1 + 1) = (q : Int) := by rw [show (q : Int) - 1 + 1 = (q : Int) by omega]; exact hw2
            have HBd := Lib.hid (show Below w7.heap.size w7 wr.drew from below_drewN HB.out 1)
            have HS1 := Lib.hid (same_any _ _ Z wr.drew (HTXr.out _ HBd.out) (HTYr.out _ HBd.out) (by omega))
            have f1 : ((L : Int) == (L : Int)) = true := by simp
            have f2 : decide ((0 : Int) < (L : Int)) = true := by simp; omega
            have f3 : decide ((L : Int) ≤ (s.length : Int)) = true := by simp; omega
            clear hX hY hZ hL hR
            go_wp2_with fail
            go_region_held3 (fun _ => True) (trivial)
              (first
                | (go_at_call 40; refine (HRC.out _ (HT7.out.below HB8.out)).mono ?_; rintro e w9 ⟨vz, rfl, hoz, hb9⟩; have HB9 := Lib.hid (belowThen HB8.out hb9); have HS2 := Lib.hid (same_any _ _ Z w9 (HTXr.out _ HB9.out) (Txs.of_owns hoz) (by omega)))
                | (go_at_call 42; ((with_reducible refine HS1.out.mono ?_); rintro e w8 ⟨rfl, hb8⟩; have HB8 := Lib.hid (belowThen HBd.out hb8)))
                | (go_at_call 42; ((with_reducible refine HS2.out.mono ?_); rintro e w10 ⟨rfl, hb10⟩; have HB10 := Lib.hid (belowThen HB9.out hb10))))
            rename_i K hK hHe
            refine hK _ _ ?_
            clear hHe hsx hsy hss hw1 hw2 hw3 hw4 hw5 hb8 hb9 hb10 hoz HS2 HS1
            obtain ⟨gx1, ox1, hax1, hcx1⟩ := (show Txs w10 (.slice (some ⟨gx, 0, none⟩) xs.length capx) xs from HTX.out.below HB10.out).at' (p - 1) (by omega)
            obtain ⟨gy1, oy1, hay1, hcy1⟩ := (show Txs w10 (.slice (some ⟨gy, 0, none⟩) ys.length capy) ys from HTY.out.below HB10.out).at' (q - 1) (by omega)
            have hdx : decide (p - 1 < xs.length) = true := by simp; omega
            have hdy : decide (q - 1 < ys.length) = true := by simp; omega
            cases hax1
            rw [Nat.zero_add] at hcx1
            cases hay1
            rw [Nat.zero_add] at hcy1
            rw [← hxx] at hcx1
            rw [← hyy] at hcy1
            clear hxx hyy
            have dle : decide ((L : Int) ≤ (L : Int)) = true := by simp
            go_wp2_with fail
            refine ⟨⟨p - 1, q, by omega, by omega, by go_num, by go_num, by rw [HL1.out]; go_num, by rw [← HRR.out], HB10⟩, ?_⟩
            simp [intOf]; omega
          · have f1 : ((L : Int) == (L : Int)) = true := by simp
            have f2 : decide ((0 : Int) < (L : Int)) = true := by simp; omega
            have f3 : decide ((L : Int) ≤ (s.length : Int)) = false := by simp; omega
            clear hL hR
            obtain ⟨gx1, ox1, hax1, hcx1⟩ := (show Txs wr (.slice ax xs.length capx) xs from HTX.out.below HB.out).at' (p - 1) (by omega)
            obtain ⟨gy1, oy1, hay1, hcy1⟩ := (show Txs wr (.slice ay ys.length capy) ys from HTY.out.below HB.out).at' (q - 1) (by omega)
            have hdx : decide (p - 1 < xs.length) = true := by simp; omega
            have hdy : decide (q - 1 < ys.length) = true := by simp; omega
            subst hax1
            subst hay1
            rw [← hxx] at hcx1
            rw [← hyy] at hcy1
            clear hxx hyy
            have dle : decide ((L : Int) ≤ (L : Int)) = true := by simp
            go_wp2_with fail
            refine ⟨⟨p - 1, q, by omega, by omega, by go_num, by go_num, by rw [HL1.out]; go_num, by rw [← HRR.out], HB⟩, ?_⟩
            simp [intOf]; omega
        · have f1 : ((L : Int) == (L : Int)) = true := by simp
          have f2 : decide ((0 : Int) < (L : Int)) = false := by simp; omega
          clear hL hR
          obtain ⟨gx1, ox1, hax1, hcx1⟩ := (show Txs wr (.slice ax xs.length capx) xs from HTX.out.below HB.out).at' (p - 1) (by omega)
          obtain ⟨gy1, oy1, hay1, hcy1⟩ := (show Txs wr (.slice ay ys.length capy) ys from HTY.out.below HB.out).at' (q - 1) (by omega)
          have hdx : decide (p - 1 < xs.length) = true := by simp; omega
          have hdy : decide (q - 1 < ys.length) = true := by simp; omega
          subst hax1
          subst hay1
          rw [← hxx] at hcx1
          rw [← hyy] at hcy1
          clear hxx hyy
          have dle : decide ((L : Int) ≤ (L : Int)) = true := by simp
          go_wp2_with fail
          refine ⟨⟨p - 1, q, by omega, by omega, by go_num, by go_num, by rw [HL1.out]; go_num, by rw [← HRR.out], HB⟩, ?_⟩
          simp [intOf]; omega
      · have f1 : ((L : Int) == (R : Int)) = false := by simp; omega
        clear hL hR
        obtain ⟨gx1, ox1, hax1, hcx1⟩ := (show Txs wr (.slice ax xs.length capx) xs from HTX.out.below HB.out).at' (p - 1) (by omega)
        obtain ⟨gy1, oy1, hay1, hcy1⟩ := (show Txs wr (.slice ay ys.length capy) ys from HTY.out.below HB.out).at' (q - 1) (by omega)
        have hdx : decide (p - 1 < xs.length) = true := by simp; omega
        have hdy : decide (q - 1 < ys.length) = true := by simp; omega
        subst hax1
        subst hay1
        rw [← hxx] at hcx1
        rw [← hyy] at hcy1
        clear hxx hyy
        by_cases cle : L ≤ R
        · have dle : decide ((L : Int) ≤ (R : Int)) = true := by simp; omega
          go_wp2_with fail
          refine ⟨⟨p - 1, q, by omega, by omega, by go_num, by go_num, by rw [HL1.out]; go_num, by rw [← HRR.out], HB⟩, ?_⟩
          simp [intOf]; omega
        · have dle : decide ((L : Int) ≤ (R : Int)) = false := by simp; omega
          go_wp2_with fail
          refine ⟨⟨p, q - 1, by omega, by omega, by go_num, by go_num, by rw [← HLL.out], by rw [HL2.out]; go_num, HB⟩, ?_⟩
          simp [intOf]; omega
    · by_cases hp0 : 1 ≤ p
      · have d1 : decide ((0 : Int) ≤ (p : Int) - 1) = true := by simp; omega
        have d2 : decide ((0 : Int) ≤ (q : Int) - 1) = false := by simp; omega
        go_wp2_with fail
        go_ret
        exact ⟨rfl, belowThen HB7.out HB.out⟩
      · have d1 : decide ((0 : Int) ≤ (p : Int) - 1) = false := by simp; omega
        go_wp2_with fail
        go_ret
        exact ⟨rfl, belowThen HB7.out HB.out⟩
end Go.Proofs.YtbjeiiofanpkdaaDoor

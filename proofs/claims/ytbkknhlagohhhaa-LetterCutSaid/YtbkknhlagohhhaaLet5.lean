/-
  Package letter: Check.
-/
import Derived.Test.YtbkknhlagohhhaaLet3
import Derived.Test.YtbkknhlagohhhaaLet4
namespace Go.Proofs.Ytbkknhlagohhhaa
open Go.RowKit Crv

/-- Check's answer: the error's number. -/
def chkL (l : LV) (ps hs : List Int) : Nat :=
  if kindK l.kind = false then 2
  else if adrK l.fr = false then 10 else if adrK l.to = false then 10 else if l.seq < 0 then 10 else if 4294967296 < l.seq then 10
  else if 8 < ps.length then 5 else if 8 < hs.length then 5 else if 512 < l.text.length then 5
  else if moreL l ps.length hs.length = true then 2
  else if whatK l.kind = true ∧ (l.what < 1 ∨ 3 < l.what) then 2
  else if (ps ++ hs).all adrK = true then 0 else 10
theorem all_take_succ {p : Int → Bool} (l : List Int) (k : Nat) (h : k < l.length) : (l.take (k + 1)).all p = ((l.take k).all p && p (l.getD k 0)) := by
  rw [List.take_add_one, List.getElem?_eq_getElem h, List.getD_eq_getElem?_getD, List.getElem?_eq_getElem h, List.all_append]
  simp
theorem all_false {p : Int → Bool} (l : List Int) (k : Nat) (h : k < l.length) (hp : p (l.getD k 0) = false) : l.all p = false := by
  rw [List.all_eq_false]
  refine ⟨l.getD k 0, ?_, by rw [hp]; simp⟩
  rw [List.getD_eq_getElem?_getD, List.getElem?_eq_getElem h]
  exact List.getElem_mem h
set_option maxHeartbeats 4000000 in
set_option maxRecDepth 100000 in
theorem check_any (l : LV) (W : World) (hid : l.id.length = 32) (ps hs : List Int) (hps : ZsR W l.pv ps) (hhs : ZsR W l.hv hs) (hpm : ps.length ≤ 9223372036854775807) (hhm : hs.length ≤ 9223372036854775807) (htm : l.text.length ≤ 9223372036854775807) :
    Calls Try.prog 15 #[.agg (ltC l).toArray] W fun e w' => e = .returned (.int .i64 (chkL l ps hs)) ∧ Below W.heap.size W w' := by
  have hM0 : Mem (W.alloc (.cells (ltC l).toArray Tlt)) W.heap.size Tlt (ltC l) := Mem.new W Tlt (ltC l)
  have hB0 := belowSelf W (.cells (ltC l).toArray Tlt)
  have HB := Lib.hid hB0
  have HM0 := Lib.hid hM0
  have HPS := Lib.hid (hps.below hB0)
  have HHS := Lib.hid (hhs.below hB0)
  obtain ⟨pa, pc, hpv, _⟩ := hps.form
  obtain ⟨ha, hc, hhv, _⟩ := hhs.form
  obtain ⟨⟨c0, c1, c2, c3⟩, c36, c37, c38, c39⟩ := lt_cells hM0 hid
  rw [hpv] at c38
  rw [hhv] at c39
  have HPV := Lib.hid hpv
  have HHV := Lib.hid hhv
  have HKI := Lib.hid (fun w => isKind_any l.kind w)
  have HA1 := Lib.hid (fun w => adr_any l.fr w)
  have HA2 := Lib.hid (fun w => adr_any l.to w)
  have HWH := Lib.hid (fun w => hasWhat_any l.kind w)
  have SZ := Lib.hid (sz_lt l hid)
  have HID := Lib.hid hid
  obtain ⟨m, hm⟩ : ∃ m, m = chkL l ps hs := ⟨_, rfl⟩
  have HMM := Lib.hid hm
  rw [← hm]
  clear hpv hhv hM0 hm hB0 hps hhs
  cases kk : kindK l.kind
  · rw [kk] at HKI
    have hm : m = 2 := by
      rw [HMM.out]
      unfold chkL
      rw [if_pos kk]
    subst hm
    go_enter Try.func15, Try.ntmps15
    go_wp2_with fail
    refine (HKI.out _).mono ?_
    rintro e w ⟨rfl, rfl⟩
    go_wp2_with fail
    go_ret
    exact ⟨rfl, HB.out⟩
  · rw [kk] at HKI
    cases k1 : adrK l.fr
    · rw [k1] at HA1
      have hm : m = 10 := by
        rw [HMM.out]
        unfold chkL
        rw [if_neg (show ¬ kindK l.kind = false by rw [kk]; simp), if_pos k1]
      subst hm
      go_enter Try.func15, Try.ntmps15
      go_wp2_with fail
      refine (HKI.out _).mono ?_
      rintro e w ⟨rfl, rfl⟩
      go_wp2_with fail
      refine (HA1.out _).mono ?_
      rintro e w ⟨rfl, rfl⟩
      go_wp2_with fail
      go_ret
      exact ⟨rfl, HB.out⟩
    · rw [k1] at HA1
      cases k2 : adrK l.to
      · rw [k2] at HA2
        have hm : m = 10 := by
          rw [HMM.out]
          unfold chkL
          rw [if_neg (show ¬ kindK l.kind = false by rw [kk]; simp), if_neg (show ¬ adrK l.fr = false by rw [k1]; simp), if_pos k2]
        subst hm
        go_enter Try.func15, Try.ntmps15
        go_wp2_with fail
        refine (HKI.out _).mono ?_
        rintro e w ⟨rfl, rfl⟩
        go_wp2_with fail
        refine (HA1.out _).mono ?_
        rintro e w ⟨rfl, rfl⟩
        go_wp2_with fail
        refine (HA2.out _).mono ?_
        rintro e w ⟨rfl, rfl⟩
        go_wp2_with fail
        go_ret
        exact ⟨rfl, HB.out⟩
      · rw [k2] at HA2
        by_cases q1 : l.seq < 0
        · have hm : m = 10 := by
            rw [HMM.out]
            unfold chkL
            rw [if_neg (show ¬ kindK l.kind = false by rw [kk]; simp), if_neg (show ¬ adrK l.fr = false by rw [k1]; simp), if_neg (show ¬ adrK l.to = false by rw [k2]; simp), if_pos q1]
          subst hm
          go_enter Try.func15, Try.ntmps15
          go_wp2_with fail
          refine (HKI.out _).mono ?_
          rintro e w ⟨rfl, rfl⟩
          go_wp2_with fail
          refine (HA1.out _).mono ?_
          rintro e w ⟨rfl, rfl⟩
          go_wp2_with fail
          refine (HA2.out _).mono ?_
          rintro e w ⟨rfl, rfl⟩
          go_wp2_with fail
          go_ret
          exact ⟨rfl, HB.out⟩
        · have q1' := q1
          by_cases q2 : 4294967296 < l.seq
          · have hm : m = 10 := by
              rw [HMM.out]
              unfold chkL
              rw [if_neg (show ¬ kindK l.kind = false by rw [kk]; simp), if_neg (show ¬ adrK l.fr = false by rw [k1]; simp), if_neg (show ¬ adrK l.to = false by rw [k2]; simp), if_neg q1', if_pos q2]
            subst hm
            go_enter Try.func15, Try.ntmps15
            go_wp2_with fail
            refine (HKI.out _).mono ?_
            rintro e w ⟨rfl, rfl⟩
            go_wp2_with fail
            refine (HA1.out _).mono ?_
            rintro e w ⟨rfl, rfl⟩
            go_wp2_with fail
            refine (HA2.out _).mono ?_
            rintro e w ⟨rfl, rfl⟩
            go_wp2_with fail
            go_ret
            exact ⟨rfl, HB.out⟩
          · have q2' := q2
            by_cases p1 : 8 < ps.length
            · have p1i : (8 : Int) < (ps.length : Int) := by omega
              have hm : m = 5 := by
                rw [HMM.out]
                unfold chkL
                rw [if_neg (show ¬ kindK l.kind = false by rw [kk]; simp), if_neg (show ¬ adrK l.fr = false by rw [k1]; simp), if_neg (show ¬ adrK l.to = false by rw [k2]; simp), if_neg q1', if_neg q2', if_pos p1]
              subst hm
              go_enter Try.func15, Try.ntmps15
              go_wp2_with fail
              refine (HKI.out _).mono ?_
              rintro e w ⟨rfl, rfl⟩
              go_wp2_with fail
              refine (HA1.out _).mono ?_
              rintro e w ⟨rfl, rfl⟩
              go_wp2_with fail
              refine (HA2.out _).mono ?_
              rintro e w ⟨rfl, rfl⟩
              go_wp2_with fail
              go_ret
              exact ⟨rfl, HB.out⟩
            · have p1i : ¬ (8 : Int) < (ps.length : Int) := by omega
              by_cases p2 : 8 < hs.length
              · have p2i : (8 : Int) < (hs.length : Int) := by omega
                have hm : m = 5 := by
                  rw [HMM.out]
                  unfold chkL
                  rw [if_neg (show ¬ kindK l.kind = false by rw [kk]; simp), if_neg (show ¬ adrK l.fr = false by rw [k1]; simp), if_neg (show ¬ adrK l.to = false by rw [k2]; simp), if_neg q1', if_neg q2', if_neg p1, if_pos p2]
                subst hm
                go_enter Try.func15, Try.ntmps15
                go_wp2_with fail
                refine (HKI.out _).mono ?_
                rintro e w ⟨rfl, rfl⟩
                go_wp2_with fail
                refine (HA1.out _).mono ?_
                rintro e w ⟨rfl, rfl⟩
                go_wp2_with fail
                refine (HA2.out _).mono ?_
                rintro e w ⟨rfl, rfl⟩
                go_wp2_with fail
                go_ret
                exact ⟨rfl, HB.out⟩
              · have p2i : ¬ (8 : Int) < (hs.length : Int) := by omega
                by_cases p3 : 512 < l.text.length
                · have p3i : (512 : Int) < (l.text.length : Int) := by omega
                  have hm : m = 5 := by
                    rw [HMM.out]
                    unfold chkL
                    rw [if_neg (show ¬ kindK l.kind = false by rw [kk]; simp), if_neg (show ¬ adrK l.fr = false by rw [k1]; simp), if_neg (show ¬ adrK l.to = false by rw [k2]; simp), if_neg q1', if_neg q2', if_neg p1, if_neg p2, if_pos p3]
                  subst hm
                  go_enter Try.func15, Try.ntmps15
                  go_wp2_with fail
                  refine (HKI.out _).mono ?_
                  rintro e w ⟨rfl, rfl⟩
                  go_wp2_with fail
                  refine (HA1.out _).mono ?_
                  rintro e w ⟨rfl, rfl⟩
                  go_wp2_with fail
                  refine (HA2.out _).mono ?_
                  rintro e w ⟨rfl, rfl⟩
                  go_wp2_with fail
                  go_ret
                  exact ⟨rfl, HB.out⟩
                · have p3i : ¬ (512 : Int) < (l.text.length : Int) := by omega
                  have HMO := Lib.hid (hasMore_any l (W.alloc (.cells (ltC l).toArray Tlt)) HID.out pa ps.length pc HPV.out ha hs.length hc HHV.out (by omega) (by omega))
                  cases km : moreL l ps.length hs.length
                  case' true =>
                    rw [km] at HMO
                    have hm : m = 2 := by
                      rw [HMM.out]
                      unfold chkL
                      rw [if_neg (show ¬ kindK l.kind = false by rw [kk]; simp), if_neg (show ¬ adrK l.fr = false by rw [k1]; simp), if_neg (show ¬ adrK l.to = false by rw [k2]; simp), if_neg q1', if_neg q2', if_neg p1, if_neg p2, if_neg p3, if_pos km]
                    subst hm
                    go_enter Try.func15, Try.ntmps15
                    go_wp2_with fail
                    refine (HKI.out _).mono ?_
                    rintro e w ⟨rfl, rfl⟩
                    go_wp2_with fail
                    refine (HA1.out _).mono ?_
                    rintro e w ⟨rfl, rfl⟩
                    go_wp2_with fail
                    refine (HA2.out _).mono ?_
                    rintro e w ⟨rfl, rfl⟩
                    go_wp2_with (first
                      | (refine wp_load_mem HM0.out Tlt (.tmp 1) _ rfl rfl rfl Try.underlying26 rfl SZ.out ?_)
                      | fail)
                    refine HMO.out.mono ?_
                    rintro e w1 ⟨rfl, hb1⟩
                    have HB1 := Lib.hid (HB.out.trans (hb1.mono (by simp)))
                    have HM1 := Lib.hid (Mem.below HM0.out hb1 HM0.out.lt)
                    obtain ⟨⟨e0, -, -, -⟩, e36, -, e38, e39⟩ := lt_cells HM1.out HID.out
                    rw [HPV.out] at e38
                    rw [HHV.out] at e39
                    have HPS1 := Lib.hid (HPS.out.below hb1)
                    have HHS1 := Lib.hid (HHS.out.below hb1)
                    clear hb1
                    go_wp2_with fail
                    go_ret
                    exact ⟨rfl, HB1.out⟩
                  case' false =>
                    rw [km] at HMO
                    cases kw : whatK l.kind
                    case' false =>
                      rw [kw] at HWH
                      obtain ⟨L, hL⟩ : ∃ L, L = ps ++ hs := ⟨_, rfl⟩
                      have HLm : Hid (m = if L.all adrK = true then 0 else 10) := Lib.hid (by
                        rw [HMM.out, hL]
                        unfold chkL
                        rw [if_neg (show ¬ kindK l.kind = false by rw [kk]; simp), if_neg (show ¬ adrK l.fr = false by rw [k1]; simp), if_neg (show ¬ adrK l.to = false by rw [k2]; simp), if_neg q1', if_neg q2', if_neg p1, if_neg p2, if_neg p3, if_neg (show ¬ moreL l ps.length hs.length = true by rw [km]; simp), if_neg (show ¬ (whatK l.kind = true ∧ (l.what < 1 ∨ 3 < l.what)) by rw [kw]; simp)])
                      have HLL := Lib.hid hL
                      have hll : L.length ≤ 16 := by rw [hL, List.length_append]; omega
                      clear hL
                      go_enter Try.func15, Try.ntmps15
                      go_wp2_with fail
                      refine (HKI.out _).mono ?_
                      rintro e w ⟨rfl, rfl⟩
                      go_wp2_with fail
                      refine (HA1.out _).mono ?_
                      rintro e w ⟨rfl, rfl⟩
                      go_wp2_with fail
                      refine (HA2.out _).mono ?_
                      rintro e w ⟨rfl, rfl⟩
                      go_wp2_with (first
                        | (refine wp_load_mem HM0.out Tlt (.tmp 1) _ rfl rfl rfl Try.underlying26 rfl SZ.out ?_)
                        | fail)
                      refine HMO.out.mono ?_
                      rintro e w1 ⟨rfl, hb1⟩
                      have HB1 := Lib.hid (HB.out.trans (hb1.mono (by simp)))
                      have HM1 := Lib.hid (Mem.below HM0.out hb1 HM0.out.lt)
                      obtain ⟨⟨e0, -, -, -⟩, e36, -, e38, e39⟩ := lt_cells HM1.out HID.out
                      rw [HPV.out] at e38
                      rw [HHV.out] at e39
                      have HPS1 := Lib.hid (HPS.out.below hb1)
                      have HHS1 := Lib.hid (HHS.out.below hb1)
                      clear hb1
                      go_wp2_with fail
                      refine (HWH.out _).mono ?_
                      rintro e w ⟨rfl, rfl⟩
                      have hA2 := belowSelf w1 (.cells #[Value.slice pa ps.length pc, Value.slice ha hs.length hc] Tsi)
                      have hM2 := Mem.new w1 Tsi [Value.slice pa ps.length pc, Value.slice ha hs.length hc]
                      have hpx := HPS1.out.below hA2
                      have hhx := HHS1.out.below hA2
                      rw [HPV.out] at hpx
                      rw [HHV.out] at hhx
                      have HCC := Lib.hid (concat_any w1.heap.size (.slice pa ps.length pc) (.slice ha hs.length hc) ps hs (w1.alloc (.cells #[Value.slice pa ps.length pc, Value.slice ha hs.length hc] Tsi)) (hM2.cell 0) (hM2.cell 1) hpx hhx (by omega) (by omega))
                      have HB2 := Lib.hid (HB1.out.trans (hA2.mono HB1.out.size))
                      clear hA2 hM2 hpx hhx
                      go_wp2_with fail
                      refine HCC.out.mono ?_
                      rintro e w3 ⟨v, rfl, ho3, hb3⟩
                      rw [← HLL.out] at ho3
                      have HB3 := Lib.hid (HB2.out.trans (hb3.mono HB2.out.size))
                      obtain ⟨av, vc, rfl, _, _, hcell⟩ := ho3.form
                      rw [List.length_map] at hcell
                      have HCL := Lib.hid hcell
                      clear ho3 hb3 HCC hcell
                      simp only [List.length_map]
                      go_wp2_with fail
                      go_loopw [67] (fun i wr => ∃ k : Nat, k ≤ L.length ∧ i = .int .i64 k ∧ Hid ((L.take k).all adrK = true) ∧ w3 = wr) (fun i _ => L.length - (intOf i).toNat)
                      case atStart => exact ⟨0, by omega, rfl, Lib.hid rfl, rfl⟩
                      case round =>
                        obtain ⟨k, hk, rfl, HAL, rfl⟩ := hrel
                        by_cases hlt : k < L.length
                        · have d1 : decide ((k : Int) < (L.length : Int)) = true := by simp; omega
                          have d2 : decide (k < L.length) = true := by simpa using hlt
                          obtain ⟨gv, hav, _, hcv⟩ := HCL.out k hlt
                          subst hav
                          rw [List.getElem?_map, List.getElem?_eq_getElem hlt] at hcv
                          obtain ⟨z, hz⟩ : ∃ z, z = L.getD k 0 := ⟨_, rfl⟩
                          have hcz : w3.cell? ⟨gv, k, none⟩ = some (.int .i64 z) := by
                            rw [hcv, hz, List.getD_eq_getElem?_getD, List.getElem?_eq_getElem hlt]
                            rfl
                          have HZ := Lib.hid hz
                          have HAZ := Lib.hid (fun w => adr_any z w)
                          have HK := Lib.hid hlt
                          clear hcv hz
                          rcases Bool.eq_false_or_eq_true (adrK z) with hz1 | hz1
                          · rw [hz1] at HAZ
                            have HX : Hid ((L.take (k + 1)).all adrK = true) := Lib.hid (by rw [all_take_succ L k HK.out, HAL.out, ← HZ.out, hz1]; rfl)
                            clear hz1
                            go_wp2_with fail
                            refine (HAZ.out _).mono ?_
                            rintro e w ⟨rfl, rfl⟩
                            go_wp2_with fail
                            refine ⟨⟨k + 1, by omega, by go_num, HX, by trivial⟩, ?_⟩
                            simp [intOf]; omega
                          · rw [hz1] at HAZ
                            have hv10 : m = 10 := by
                              rw [HLm.out, if_neg]
                              rw [all_false L k HK.out (by rw [← HZ.out]; exact hz1)]
                              simp
                            subst hv10
                            clear hz1
                            go_wp2_with fail
                            refine (HAZ.out _).mono ?_
                            rintro e w ⟨rfl, rfl⟩
                            go_wp2_with fail
                            go_ret
                            exact ⟨rfl, HB3.out⟩
                        · have e : k = L.length := by omega
                          subst e
                          have d1 : decide ((L.length : Int) < (L.length : Int)) = false := by simp
                          have hv0 : m = 0 := by
                            rw [HLm.out, if_pos]
                            have := HAL.out
                            rwa [List.take_length] at this
                          subst hv0
                          go_wp2_with fail
                          go_ret
                          exact ⟨rfl, HB3.out⟩
                    case' true =>
                      rw [kw] at HWH
                      by_cases w1 : l.what < 1
                      · have hm : m = 2 := by
                          rw [HMM.out]
                          unfold chkL
                          rw [if_neg (show ¬ kindK l.kind = false by rw [kk]; simp), if_neg (show ¬ adrK l.fr = false by rw [k1]; simp), if_neg (show ¬ adrK l.to = false by rw [k2]; simp), if_neg q1', if_neg q2', if_neg p1, if_neg p2, if_neg p3, if_neg (show ¬ moreL l ps.length hs.length = true by rw [km]; simp), if_pos (show whatK l.kind = true ∧ (l.what < 1 ∨ 3 < l.what) from ⟨kw, .inl w1⟩)]
                        subst hm
                        go_enter Try.func15, Try.ntmps15
                        go_wp2_with fail
                        refine (HKI.out _).mono ?_
                        rintro e w ⟨rfl, rfl⟩
                        go_wp2_with fail
                        refine (HA1.out _).mono ?_
                        rintro e w ⟨rfl, rfl⟩
                        go_wp2_with fail
                        refine (HA2.out _).mono ?_
                        rintro e w ⟨rfl, rfl⟩
                        go_wp2_with (first
                          | (refine wp_load_mem HM0.out Tlt (.tmp 1) _ rfl rfl rfl Try.underlying26 rfl SZ.out ?_)
                          | fail)
                        refine HMO.out.mono ?_
                        rintro e w1 ⟨rfl, hb1⟩
                        have HB1 := Lib.hid (HB.out.trans (hb1.mono (by simp)))
                        have HM1 := Lib.hid (Mem.below HM0.out hb1 HM0.out.lt)
                        obtain ⟨⟨e0, -, -, -⟩, e36, -, e38, e39⟩ := lt_cells HM1.out HID.out
                        rw [HPV.out] at e38
                        rw [HHV.out] at e39
                        have HPS1 := Lib.hid (HPS.out.below hb1)
                        have HHS1 := Lib.hid (HHS.out.below hb1)
                        clear hb1
                        go_wp2_with fail
                        refine (HWH.out _).mono ?_
                        rintro e w ⟨rfl, rfl⟩
                        go_wp2_with fail
                        go_ret
                        exact ⟨rfl, HB1.out⟩
                      · by_cases w3 : 3 < l.what
                        · have hm : m = 2 := by
                            rw [HMM.out]
                            unfold chkL
                            rw [if_neg (show ¬ kindK l.kind = false by rw [kk]; simp), if_neg (show ¬ adrK l.fr = false by rw [k1]; simp), if_neg (show ¬ adrK l.to = false by rw [k2]; simp), if_neg q1', if_neg q2', if_neg p1, if_neg p2, if_neg p3, if_neg (show ¬ moreL l ps.length hs.length = true by rw [km]; simp), if_pos (show whatK l.kind = true ∧ (l.what < 1 ∨ 3 < l.what) from ⟨kw, .inr w3⟩)]
                          subst hm
                          go_enter Try.func15, Try.ntmps15
                          go_wp2_with fail
                          refine (HKI.out _).mono ?_
                          rintro e w ⟨rfl, rfl⟩
                          go_wp2_with fail
                          refine (HA1.out _).mono ?_
                          rintro e w ⟨rfl, rfl⟩
                          go_wp2_with fail
                          refine (HA2.out _).mono ?_
                          rintro e w ⟨rfl, rfl⟩
                          go_wp2_with (first
                            | (refine wp_load_mem HM0.out Tlt (.tmp 1) _ rfl rfl rfl Try.underlying26 rfl SZ.out ?_)
                            | fail)
                          refine HMO.out.mono ?_
                          rintro e w1 ⟨rfl, hb1⟩
                          have HB1 := Lib.hid (HB.out.trans (hb1.mono (by simp)))
                          have HM1 := Lib.hid (Mem.below HM0.out hb1 HM0.out.lt)
                          obtain ⟨⟨e0, -, -, -⟩, e36, -, e38, e39⟩ := lt_cells HM1.out HID.out
                          rw [HPV.out] at e38
                          rw [HHV.out] at e39
                          have HPS1 := Lib.hid (HPS.out.below hb1)
                          have HHS1 := Lib.hid (HHS.out.below hb1)
                          clear hb1
                          go_wp2_with fail
                          refine (HWH.out _).mono ?_
                          rintro e w ⟨rfl, rfl⟩
                          go_wp2_with fail
                          go_ret
                          exact ⟨rfl, HB1.out⟩
                        · obtain ⟨L, hL⟩ : ∃ L, L = ps ++ hs := ⟨_, rfl⟩
                          have HLm : Hid (m = if L.all adrK = true then 0 else 10) := Lib.hid (by
                            rw [HMM.out, hL]
                            unfold chkL
                            rw [if_neg (show ¬ kindK l.kind = false by rw [kk]; simp), if_neg (show ¬ adrK l.fr = false by rw [k1]; simp), if_neg (show ¬ adrK l.to = false by rw [k2]; simp), if_neg q1', if_neg q2', if_neg p1, if_neg p2, if_neg p3, if_neg (show ¬ moreL l ps.length hs.length = true by rw [km]; simp), if_neg (show ¬ (whatK l.kind = true ∧ (l.what < 1 ∨ 3 < l.what)) by omega)])
                          have HLL := Lib.hid hL
                          have hll : L.length ≤ 16 := by rw [hL, List.length_append]; omega
                          clear hL
                          go_enter Try.func15, Try.ntmps15
                          go_wp2_with fail
                          refine (HKI.out _).mono ?_
                          rintro e w ⟨rfl, rfl⟩
                          go_wp2_with fail
                          refine (HA1.out _).mono ?_
                          rintro e w ⟨rfl, rfl⟩
                          go_wp2_with fail
                          refine (HA2.out _).mono ?_
                          rintro e w ⟨rfl, rfl⟩
                          go_wp2_with (first
                            | (refine wp_load_mem HM0.out Tlt (.tmp 1) _ rfl rfl rfl Try.underlying26 rfl SZ.out ?_)
                            | fail)
                          refine HMO.out.mono ?_
                          rintro e w1 ⟨rfl, hb1⟩
                          have HB1 := Lib.hid (HB.out.trans (hb1.mono (by simp)))
                          have HM1 := Lib.hid (Mem.below HM0.out hb1 HM0.out.lt)
                          obtain ⟨⟨e0, -, -, -⟩, e36, -, e38, e39⟩ := lt_cells HM1.out HID.out
                          rw [HPV.out] at e38
                          rw [HHV.out] at e39
                          have HPS1 := Lib.hid (HPS.out.below hb1)
                          have HHS1 := Lib.hid (HHS.out.below hb1)
                          clear hb1
                          go_wp2_with fail
                          refine (HWH.out _).mono ?_
                          rintro e w ⟨rfl, rfl⟩
                          have hA2 := belowSelf w1 (.cells #[Value.slice pa ps.length pc, Value.slice ha hs.length hc] Tsi)
                          have hM2 := Mem.new w1 Tsi [Value.slice pa ps.length pc, Value.slice ha hs.length hc]
                          have hpx := HPS1.out.below hA2
                          have hhx := HHS1.out.below hA2
                          rw [HPV.out] at hpx
                          rw [HHV.out] at hhx
                          have HCC := Lib.hid (concat_any w1.heap.size (.slice pa ps.length pc) (.slice ha hs.length hc) ps hs (w1.alloc (.cells #[Value.slice pa ps.length pc, Value.slice ha hs.length hc] Tsi)) (hM2.cell 0) (hM2.cell 1) hpx hhx (by omega) (by omega))
                          have HB2 := Lib.hid (HB1.out.trans (hA2.mono HB1.out.size))
                          clear hA2 hM2 hpx hhx
                          go_wp2_with fail
                          refine HCC.out.mono ?_
                          rintro e w3 ⟨v, rfl, ho3, hb3⟩
                          rw [← HLL.out] at ho3
                          have HB3 := Lib.hid (HB2.out.trans (hb3.mono HB2.out.size))
                          obtain ⟨av, vc, rfl, _, _, hcell⟩ := ho3.form
                          rw [List.length_map] at hcell
                          have HCL := Lib.hid hcell
                          clear ho3 hb3 HCC hcell
                          simp only [List.length_map]
                          go_wp2_with fail
                          go_loopw [67] (fun i wr => ∃ k : Nat, k ≤ L.length ∧ i = .int .i64 k ∧ Hid ((L.take k).all adrK = true) ∧ w3 = wr) (fun i _ => L.length - (intOf i).toNat)
                          case atStart => exact ⟨0, by omega, rfl, Lib.hid rfl, rfl⟩
                          case round =>
                            obtain ⟨k, hk, rfl, HAL, rfl⟩ := hrel
                            by_cases hlt : k < L.length
                            · have d1 : decide ((k : Int) < (L.length : Int)) = true := by simp; omega
                              have d2 : decide (k < L.length) = true := by simpa using hlt
                              obtain ⟨gv, hav, _, hcv⟩ := HCL.out k hlt
                              subst hav
                              rw [List.getElem?_map, List.getElem?_eq_getElem hlt] at hcv
                              obtain ⟨z, hz⟩ : ∃ z, z = L.getD k 0 := ⟨_, rfl⟩
                              have hcz : w3.cell? ⟨gv, k, none⟩ = some (.int .i64 z) := by
                                rw [hcv, hz, List.getD_eq_getElem?_getD, List.getElem?_eq_getElem hlt]
                                rfl
                              have HZ := Lib.hid hz
                              have HAZ := Lib.hid (fun w => adr_any z w)
                              have HK := Lib.hid hlt
                              clear hcv hz
                              rcases Bool.eq_false_or_eq_true (adrK z) with hz1 | hz1
                              · rw [hz1] at HAZ
                                have HX : Hid ((L.take (k + 1)).all adrK = true) := Lib.hid (by rw [all_take_succ L k HK.out, HAL.out, ← HZ.out, hz1]; rfl)
                                clear hz1
                                go_wp2_with fail
                                refine (HAZ.out _).mono ?_
                                rintro e w ⟨rfl, rfl⟩
                                go_wp2_with fail
                                refine ⟨⟨k + 1, by omega, by go_num, HX, by trivial⟩, ?_⟩
                                simp [intOf]; omega
                              · rw [hz1] at HAZ
                                have hv10 : m = 10 := by
                                  rw [HLm.out, if_neg]
                                  rw [all_false L k HK.out (by rw [← HZ.out]; exact hz1)]
                                  simp
                                subst hv10
                                clear hz1
                                go_wp2_with fail
                                refine (HAZ.out _).mono ?_
                                rintro e w ⟨rfl, rfl⟩
                                go_wp2_with fail
                                go_ret
                                exact ⟨rfl, HB3.out⟩
                            · have e : k = L.length := by omega
                              subst e
                              have d1 : decide ((L.length : Int) < (L.length : Int)) = false := by simp
                              have hv0 : m = 0 := by
                                rw [HLm.out, if_pos]
                                have := HAL.out
                                rwa [List.take_length] at this
                              subst hv0
                              go_wp2_with fail
                              go_ret
                              exact ⟨rfl, HB3.out⟩
end Go.Proofs.Ytbkknhlagohhhaa

/-
  Package letter: hasMore.
-/
import Derived.Test.YtbkknhlagohhhaaLet2
import Derived.Test.YtbkknhlagohhhaaEq
namespace Go.Proofs.Ytbkknhlagohhhaa
open Go.RowKit Crv

abbrev z32 : List UInt8 := List.replicate 32 0
theorem ld_idL (p : Value) : Instr.loadAt Ti p = ldRow Ti p := rfl
attribute [local go_sem ↓] ld_idL
/-- Does something stand in a field that the kind does not have? -/
def moreL (l : LV) (pl hl : Nat) : Bool := (!idK l.kind && !decide (l.id = z32)) || (!listK l.kind && decide (0 < pl + hl)) || (!whatK l.kind && !decide (l.what = 0)) || (!textK l.kind && !decide (l.text = []))
set_option maxHeartbeats 4000000 in
set_option maxRecDepth 100000 in
theorem hasMore_any (l : LV) (W : World) (hid : l.id.length = 32) (pa : Option Addr) (pl pc : Nat) (hpv : l.pv = .slice pa pl pc) (ha : Option Addr) (hl hc : Nat) (hhv : l.hv = .slice ha hl hc) (hpm : pl ≤ 8) (hhm : hl ≤ 8) :
    Calls Try.prog 43 #[.agg (ltC l).toArray] W fun e w' => e = .returned (.bool (moreL l pl hl)) ∧ Below W.heap.size W w' := by
  have hM0 : Mem (W.alloc (.cells (ltC l).toArray Tlt)) W.heap.size Tlt (ltC l) := Mem.new W Tlt (ltC l)
  have HB := Lib.hid (belowSelf W (.cells (ltC l).toArray Tlt))
  obtain ⟨⟨c0, -, -, -⟩, c36, c37, c38, c39⟩ := lt_cells hM0 hid
  rw [hpv] at c38
  rw [hhv] at c39
  have l4 : (ldRow Ti (.pointer (some ⟨W.heap.size, 4, none⟩))).run Try.prog (W.alloc (.cells (ltC l).toArray Tlt)) = .ok (.agg (l.id.map byteV).toArray) (W.alloc (.cells (ltC l).toArray Tlt)) := run_loadAt_mid _ W.heap.size 4 Ti (l.id.map byteV) (.array 32 5) (ltC_rng hM0) Try.underlying23 rfl (sz_id l.id hid)
  have hne : ∀ w, (Op.equalIn 10000 Ti (.agg (l.id.map byteV).toArray) (.agg zs32)).run Try.prog w = .ok (decide (l.id = z32)) w := fun w => run_equalIn_bytes Ti 5 32 Try.underlying23 Try.underlying5 (by kernel_rfl) 9998 l.id z32 hid rfl w
  have HID := Lib.hid (fun w => hasID_any l.kind w)
  have HLI := Lib.hid (fun w => hasLists_any l.kind w)
  have HWH := Lib.hid (fun w => hasWhat_any l.kind w)
  have HTX := Lib.hid (fun w => hasText_any l.kind w)
  obtain ⟨m, hm⟩ : ∃ m, m = moreL l pl hl := ⟨_, rfl⟩
  have HMM := Lib.hid hm
  rw [← hm]
  unfold moreL at hm
  clear hpv hhv hM0 hm
  rcases Bool.eq_false_or_eq_true (idK l.kind) with k0 | k0
  · rw [k0] at HID
    rcases Bool.eq_false_or_eq_true (listK l.kind) with k1 | k1
    · rw [k1] at HLI
      rcases Bool.eq_false_or_eq_true (whatK l.kind) with k2 | k2
      · rw [k2] at HWH
        rcases Bool.eq_false_or_eq_true (textK l.kind) with k3 | k3
        · rw [k3] at HTX
          have hm : m = false := by
            rw [HMM.out]
            unfold moreL
            rw [k0, k1, k2, k3]
            rfl
          subst hm
          clear k0 k1 k2 k3
          go_enter Try.func43, Try.ntmps43
          go_wp2_with fail
          refine (HID.out _).mono ?_
          rintro e w ⟨rfl, rfl⟩
          go_wp2_with fail
          refine (HLI.out _).mono ?_
          rintro e w ⟨rfl, rfl⟩
          go_wp2_with fail
          refine (HWH.out _).mono ?_
          rintro e w ⟨rfl, rfl⟩
          go_wp2_with fail
          refine (HTX.out _).mono ?_
          rintro e w ⟨rfl, rfl⟩
          go_wp2_with fail
          go_ret
          exact ⟨rfl, HB.out⟩
        · rw [k3] at HTX
          by_cases hH : l.text = []
          · have dH : l.text.isEmpty = true := by rw [hH]; rfl
            have hm : m = false := by
              rw [HMM.out]
              unfold moreL
              rw [k0, k1, k2, k3, decide_eq_true hH]
              rfl
            subst hm
            clear k0 k1 k2 k3 hH
            go_enter Try.func43, Try.ntmps43
            go_wp2_with fail
            refine (HID.out _).mono ?_
            rintro e w ⟨rfl, rfl⟩
            go_wp2_with fail
            refine (HLI.out _).mono ?_
            rintro e w ⟨rfl, rfl⟩
            go_wp2_with fail
            refine (HWH.out _).mono ?_
            rintro e w ⟨rfl, rfl⟩
            go_wp2_with fail
            refine (HTX.out _).mono ?_
            rintro e w ⟨rfl, rfl⟩
            go_wp2_with fail
            go_ret
            exact ⟨rfl, HB.out⟩
          · have dH : l.text.isEmpty = false := by simpa using hH
            have hm : m = true := by
              rw [HMM.out]
              unfold moreL
              rw [k0, k1, k2, k3, decide_eq_false hH]
              rfl
            subst hm
            clear k0 k1 k2 k3 hH
            go_enter Try.func43, Try.ntmps43
            go_wp2_with fail
            refine (HID.out _).mono ?_
            rintro e w ⟨rfl, rfl⟩
            go_wp2_with fail
            refine (HLI.out _).mono ?_
            rintro e w ⟨rfl, rfl⟩
            go_wp2_with fail
            refine (HWH.out _).mono ?_
            rintro e w ⟨rfl, rfl⟩
            go_wp2_with fail
            refine (HTX.out _).mono ?_
            rintro e w ⟨rfl, rfl⟩
            go_wp2_with fail
            go_ret
            exact ⟨rfl, HB.out⟩
      · rw [k2] at HWH
        by_cases hF : l.what = 0
        · have dF : (l.what != 0) = false := by simp [hF]
          rcases Bool.eq_false_or_eq_true (textK l.kind) with k3 | k3
          · rw [k3] at HTX
            have hm : m = false := by
              rw [HMM.out]
              unfold moreL
              rw [k0, k1, k2, decide_eq_true hF, k3]
              rfl
            subst hm
            clear k0 k1 k2 hF k3
            go_enter Try.func43, Try.ntmps43
            go_wp2_with fail
            refine (HID.out _).mono ?_
            rintro e w ⟨rfl, rfl⟩
            go_wp2_with fail
            refine (HLI.out _).mono ?_
            rintro e w ⟨rfl, rfl⟩
            go_wp2_with fail
            refine (HWH.out _).mono ?_
            rintro e w ⟨rfl, rfl⟩
            go_wp2_with fail
            refine (HTX.out _).mono ?_
            rintro e w ⟨rfl, rfl⟩
            go_wp2_with fail
            go_ret
            exact ⟨rfl, HB.out⟩
          · rw [k3] at HTX
            by_cases hH : l.text = []
            · have dH : l.text.isEmpty = true := by rw [hH]; rfl
              have hm : m = false := by
                rw [HMM.out]
                unfold moreL
                rw [k0, k1, k2, decide_eq_true hF, k3, decide_eq_true hH]
                rfl
              subst hm
              clear k0 k1 k2 hF k3 hH
              go_enter Try.func43, Try.ntmps43
              go_wp2_with fail
              refine (HID.out _).mono ?_
              rintro e w ⟨rfl, rfl⟩
              go_wp2_with fail
              refine (HLI.out _).mono ?_
              rintro e w ⟨rfl, rfl⟩
              go_wp2_with fail
              refine (HWH.out _).mono ?_
              rintro e w ⟨rfl, rfl⟩
              go_wp2_with fail
              refine (HTX.out _).mono ?_
              rintro e w ⟨rfl, rfl⟩
              go_wp2_with fail
              go_ret
              exact ⟨rfl, HB.out⟩
            · have dH : l.text.isEmpty = false := by simpa using hH
              have hm : m = true := by
                rw [HMM.out]
                unfold moreL
                rw [k0, k1, k2, decide_eq_true hF, k3, decide_eq_false hH]
                rfl
              subst hm
              clear k0 k1 k2 hF k3 hH
              go_enter Try.func43, Try.ntmps43
              go_wp2_with fail
              refine (HID.out _).mono ?_
              rintro e w ⟨rfl, rfl⟩
              go_wp2_with fail
              refine (HLI.out _).mono ?_
              rintro e w ⟨rfl, rfl⟩
              go_wp2_with fail
              refine (HWH.out _).mono ?_
              rintro e w ⟨rfl, rfl⟩
              go_wp2_with fail
              refine (HTX.out _).mono ?_
              rintro e w ⟨rfl, rfl⟩
              go_wp2_with fail
              go_ret
              exact ⟨rfl, HB.out⟩
        · have dF : (l.what != 0) = true := by simp [hF]
          have hm : m = true := by
            rw [HMM.out]
            unfold moreL
            rw [k0, k1, k2, decide_eq_false hF]
            rfl
          subst hm
          clear k0 k1 k2 hF
          go_enter Try.func43, Try.ntmps43
          go_wp2_with fail
          refine (HID.out _).mono ?_
          rintro e w ⟨rfl, rfl⟩
          go_wp2_with fail
          refine (HLI.out _).mono ?_
          rintro e w ⟨rfl, rfl⟩
          go_wp2_with fail
          refine (HWH.out _).mono ?_
          rintro e w ⟨rfl, rfl⟩
          go_wp2_with fail
          go_ret
          exact ⟨rfl, HB.out⟩
    · rw [k1] at HLI
      by_cases hD : 0 < pl + hl
      · have dD : decide ((0 : Int) < (pl : Int) + (hl : Int)) = true := by simp; omega
        have hm : m = true := by
          rw [HMM.out]
          unfold moreL
          rw [k0, k1, decide_eq_true hD]
          rfl
        subst hm
        clear k0 k1 hD
        go_enter Try.func43, Try.ntmps43
        go_wp2_with fail
        refine (HID.out _).mono ?_
        rintro e w ⟨rfl, rfl⟩
        go_wp2_with fail
        refine (HLI.out _).mono ?_
        rintro e w ⟨rfl, rfl⟩
        go_wp2_with fail
        go_ret
        exact ⟨rfl, HB.out⟩
      · have dD : decide ((0 : Int) < (pl : Int) + (hl : Int)) = false := by simp; omega
        rcases Bool.eq_false_or_eq_true (whatK l.kind) with k2 | k2
        · rw [k2] at HWH
          rcases Bool.eq_false_or_eq_true (textK l.kind) with k3 | k3
          · rw [k3] at HTX
            have hm : m = false := by
              rw [HMM.out]
              unfold moreL
              rw [k0, k1, decide_eq_false hD, k2, k3]
              rfl
            subst hm
            clear k0 k1 hD k2 k3
            go_enter Try.func43, Try.ntmps43
            go_wp2_with fail
            refine (HID.out _).mono ?_
            rintro e w ⟨rfl, rfl⟩
            go_wp2_with fail
            refine (HLI.out _).mono ?_
            rintro e w ⟨rfl, rfl⟩
            go_wp2_with fail
            refine (HWH.out _).mono ?_
            rintro e w ⟨rfl, rfl⟩
            go_wp2_with fail
            refine (HTX.out _).mono ?_
            rintro e w ⟨rfl, rfl⟩
            go_wp2_with fail
            go_ret
            exact ⟨rfl, HB.out⟩
          · rw [k3] at HTX
            by_cases hH : l.text = []
            · have dH : l.text.isEmpty = true := by rw [hH]; rfl
              have hm : m = false := by
                rw [HMM.out]
                unfold moreL
                rw [k0, k1, decide_eq_false hD, k2, k3, decide_eq_true hH]
                rfl
              subst hm
              clear k0 k1 hD k2 k3 hH
              go_enter Try.func43, Try.ntmps43
              go_wp2_with fail
              refine (HID.out _).mono ?_
              rintro e w ⟨rfl, rfl⟩
              go_wp2_with fail
              refine (HLI.out _).mono ?_
              rintro e w ⟨rfl, rfl⟩
              go_wp2_with fail
              refine (HWH.out _).mono ?_
              rintro e w ⟨rfl, rfl⟩
              go_wp2_with fail
              refine (HTX.out _).mono ?_
              rintro e w ⟨rfl, rfl⟩
              go_wp2_with fail
              go_ret
              exact ⟨rfl, HB.out⟩
            · have dH : l.text.isEmpty = false := by simpa using hH
              have hm : m = true := by
                rw [HMM.out]
                unfold moreL
                rw [k0, k1, decide_eq_false hD, k2, k3, decide_eq_false hH]
                rfl
              subst hm
              clear k0 k1 hD k2 k3 hH
              go_enter Try.func43, Try.ntmps43
              go_wp2_with fail
              refine (HID.out _).mono ?_
              rintro e w ⟨rfl, rfl⟩
              go_wp2_with fail
              refine (HLI.out _).mono ?_
              rintro e w ⟨rfl, rfl⟩
              go_wp2_with fail
              refine (HWH.out _).mono ?_
              rintro e w ⟨rfl, rfl⟩
              go_wp2_with fail
              refine (HTX.out _).mono ?_
              rintro e w ⟨rfl, rfl⟩
              go_wp2_with fail
              go_ret
              exact ⟨rfl, HB.out⟩
        · rw [k2] at HWH
          by_cases hF : l.what = 0
          · have dF : (l.what != 0) = false := by simp [hF]
            rcases Bool.eq_false_or_eq_true (textK l.kind) with k3 | k3
            · rw [k3] at HTX
              have hm : m = false := by
                rw [HMM.out]
                unfold moreL
                rw [k0, k1, decide_eq_false hD, k2, decide_eq_true hF, k3]
                rfl
              subst hm
              clear k0 k1 hD k2 hF k3
              go_enter Try.func43, Try.ntmps43
              go_wp2_with fail
              refine (HID.out _).mono ?_
              rintro e w ⟨rfl, rfl⟩
              go_wp2_with fail
              refine (HLI.out _).mono ?_
              rintro e w ⟨rfl, rfl⟩
              go_wp2_with fail
              refine (HWH.out _).mono ?_
              rintro e w ⟨rfl, rfl⟩
              go_wp2_with fail
              refine (HTX.out _).mono ?_
              rintro e w ⟨rfl, rfl⟩
              go_wp2_with fail
              go_ret
              exact ⟨rfl, HB.out⟩
            · rw [k3] at HTX
              by_cases hH : l.text = []
              · have dH : l.text.isEmpty = true := by rw [hH]; rfl
                have hm : m = false := by
                  rw [HMM.out]
                  unfold moreL
                  rw [k0, k1, decide_eq_false hD, k2, decide_eq_true hF, k3, decide_eq_true hH]
                  rfl
                subst hm
                clear k0 k1 hD k2 hF k3 hH
                go_enter Try.func43, Try.ntmps43
                go_wp2_with fail
                refine (HID.out _).mono ?_
                rintro e w ⟨rfl, rfl⟩
                go_wp2_with fail
                refine (HLI.out _).mono ?_
                rintro e w ⟨rfl, rfl⟩
                go_wp2_with fail
                refine (HWH.out _).mono ?_
                rintro e w ⟨rfl, rfl⟩
                go_wp2_with fail
                refine (HTX.out _).mono ?_
                rintro e w ⟨rfl, rfl⟩
                go_wp2_with fail
                go_ret
                exact ⟨rfl, HB.out⟩
              · have dH : l.text.isEmpty = false := by simpa using hH
                have hm : m = true := by
                  rw [HMM.out]
                  unfold moreL
                  rw [k0, k1, decide_eq_false hD, k2, decide_eq_true hF, k3, decide_eq_false hH]
                  rfl
                subst hm
                clear k0 k1 hD k2 hF k3 hH
                go_enter Try.func43, Try.ntmps43
                go_wp2_with fail
                refine (HID.out _).mono ?_
                rintro e w ⟨rfl, rfl⟩
                go_wp2_with fail
                refine (HLI.out _).mono ?_
                rintro e w ⟨rfl, rfl⟩
                go_wp2_with fail
                refine (HWH.out _).mono ?_
                rintro e w ⟨rfl, rfl⟩
                go_wp2_with fail
                refine (HTX.out _).mono ?_
                rintro e w ⟨rfl, rfl⟩
                go_wp2_with fail
                go_ret
                exact ⟨rfl, HB.out⟩
          · have dF : (l.what != 0) = true := by simp [hF]
            have hm : m = true := by
              rw [HMM.out]
              unfold moreL
              rw [k0, k1, decide_eq_false hD, k2, decide_eq_false hF]
              rfl
            subst hm
            clear k0 k1 hD k2 hF
            go_enter Try.func43, Try.ntmps43
            go_wp2_with fail
            refine (HID.out _).mono ?_
            rintro e w ⟨rfl, rfl⟩
            go_wp2_with fail
            refine (HLI.out _).mono ?_
            rintro e w ⟨rfl, rfl⟩
            go_wp2_with fail
            refine (HWH.out _).mono ?_
            rintro e w ⟨rfl, rfl⟩
            go_wp2_with fail
            go_ret
            exact ⟨rfl, HB.out⟩
  · rw [k0] at HID
    by_cases hB : l.id = z32
    · replace hne := fun w => (hne w).trans (by rw [decide_eq_true hB])
      rcases Bool.eq_false_or_eq_true (listK l.kind) with k1 | k1
      · rw [k1] at HLI
        rcases Bool.eq_false_or_eq_true (whatK l.kind) with k2 | k2
        · rw [k2] at HWH
          rcases Bool.eq_false_or_eq_true (textK l.kind) with k3 | k3
          · rw [k3] at HTX
            have hm : m = false := by
              rw [HMM.out]
              unfold moreL
              rw [k0, decide_eq_true hB, k1, k2, k3]
              rfl
            subst hm
            clear k0 hB k1 k2 k3
            go_enter Try.func43, Try.ntmps43
            go_wp2_with fail
            refine (HID.out _).mono ?_
            rintro e w ⟨rfl, rfl⟩
            go_wp2_with fail
            refine (HLI.out _).mono ?_
            rintro e w ⟨rfl, rfl⟩
            go_wp2_with fail
            refine (HWH.out _).mono ?_
            rintro e w ⟨rfl, rfl⟩
            go_wp2_with fail
            refine (HTX.out _).mono ?_
            rintro e w ⟨rfl, rfl⟩
            go_wp2_with fail
            go_ret
            exact ⟨rfl, HB.out⟩
          · rw [k3] at HTX
            by_cases hH : l.text = []
            · have dH : l.text.isEmpty = true := by rw [hH]; rfl
              have hm : m = false := by
                rw [HMM.out]
                unfold moreL
                rw [k0, decide_eq_true hB, k1, k2, k3, decide_eq_true hH]
                rfl
              subst hm
              clear k0 hB k1 k2 k3 hH
              go_enter Try.func43, Try.ntmps43
              go_wp2_with fail
              refine (HID.out _).mono ?_
              rintro e w ⟨rfl, rfl⟩
              go_wp2_with fail
              refine (HLI.out _).mono ?_
              rintro e w ⟨rfl, rfl⟩
              go_wp2_with fail
              refine (HWH.out _).mono ?_
              rintro e w ⟨rfl, rfl⟩
              go_wp2_with fail
              refine (HTX.out _).mono ?_
              rintro e w ⟨rfl, rfl⟩
              go_wp2_with fail
              go_ret
              exact ⟨rfl, HB.out⟩
            · have dH : l.text.isEmpty = false := by simpa using hH
              have hm : m = true := by
                rw [HMM.out]
                unfold moreL
                rw [k0, decide_eq_true hB, k1, k2, k3, decide_eq_false hH]
                rfl
              subst hm
              clear k0 hB k1 k2 k3 hH
              go_enter Try.func43, Try.ntmps43
              go_wp2_with fail
              refine (HID.out _).mono ?_
              rintro e w ⟨rfl, rfl⟩
              go_wp2_with fail
              refine (HLI.out _).mono ?_
              rintro e w ⟨rfl, rfl⟩
              go_wp2_with fail
              refine (HWH.out _).mono ?_
              rintro e w ⟨rfl, rfl⟩
              go_wp2_with fail
              refine (HTX.out _).mono ?_
              rintro e w ⟨rfl, rfl⟩
              go_wp2_with fail
              go_ret
              exact ⟨rfl, HB.out⟩
        · rw [k2] at HWH
          by_cases hF : l.what = 0
          · have dF : (l.what != 0) = false := by simp [hF]
            rcases Bool.eq_false_or_eq_true (textK l.kind) with k3 | k3
            · rw [k3] at HTX
              have hm : m = false := by
                rw [HMM.out]
                unfold moreL
                rw [k0, decide_eq_true hB, k1, k2, decide_eq_true hF, k3]
                rfl
              subst hm
              clear k0 hB k1 k2 hF k3
              go_enter Try.func43, Try.ntmps43
              go_wp2_with fail
              refine (HID.out _).mono ?_
              rintro e w ⟨rfl, rfl⟩
              go_wp2_with fail
              refine (HLI.out _).mono ?_
              rintro e w ⟨rfl, rfl⟩
              go_wp2_with fail
              refine (HWH.out _).mono ?_
              rintro e w ⟨rfl, rfl⟩
              go_wp2_with fail
              refine (HTX.out _).mono ?_
              rintro e w ⟨rfl, rfl⟩
              go_wp2_with fail
              go_ret
              exact ⟨rfl, HB.out⟩
            · rw [k3] at HTX
              by_cases hH : l.text = []
              · have dH : l.text.isEmpty = true := by rw [hH]; rfl
                have hm : m = false := by
                  rw [HMM.out]
                  unfold moreL
                  rw [k0, decide_eq_true hB, k1, k2, decide_eq_true hF, k3, decide_eq_true hH]
                  rfl
                subst hm
                clear k0 hB k1 k2 hF k3 hH
                go_enter Try.func43, Try.ntmps43
                go_wp2_with fail
                refine (HID.out _).mono ?_
                rintro e w ⟨rfl, rfl⟩
                go_wp2_with fail
                refine (HLI.out _).mono ?_
                rintro e w ⟨rfl, rfl⟩
                go_wp2_with fail
                refine (HWH.out _).mono ?_
                rintro e w ⟨rfl, rfl⟩
                go_wp2_with fail
                refine (HTX.out _).mono ?_
                rintro e w ⟨rfl, rfl⟩
                go_wp2_with fail
                go_ret
                exact ⟨rfl, HB.out⟩
              · have dH : l.text.isEmpty = false := by simpa using hH
                have hm : m = true := by
                  rw [HMM.out]
                  unfold moreL
                  rw [k0, decide_eq_true hB, k1, k2, decide_eq_true hF, k3, decide_eq_false hH]
                  rfl
                subst hm
                clear k0 hB k1 k2 hF k3 hH
                go_enter Try.func43, Try.ntmps43
                go_wp2_with fail
                refine (HID.out _).mono ?_
                rintro e w ⟨rfl, rfl⟩
                go_wp2_with fail
                refine (HLI.out _).mono ?_
                rintro e w ⟨rfl, rfl⟩
                go_wp2_with fail
                refine (HWH.out _).mono ?_
                rintro e w ⟨rfl, rfl⟩
                go_wp2_with fail
                refine (HTX.out _).mono ?_
                rintro e w ⟨rfl, rfl⟩
                go_wp2_with fail
                go_ret
                exact ⟨rfl, HB.out⟩
          · have dF : (l.what != 0) = true := by simp [hF]
            have hm : m = true := by
              rw [HMM.out]
              unfold moreL
              rw [k0, decide_eq_true hB, k1, k2, decide_eq_false hF]
              rfl
            subst hm
            clear k0 hB k1 k2 hF
            go_enter Try.func43, Try.ntmps43
            go_wp2_with fail
            refine (HID.out _).mono ?_
            rintro e w ⟨rfl, rfl⟩
            go_wp2_with fail
            refine (HLI.out _).mono ?_
            rintro e w ⟨rfl, rfl⟩
            go_wp2_with fail
            refine (HWH.out _).mono ?_
            rintro e w ⟨rfl, rfl⟩
            go_wp2_with fail
            go_ret
            exact ⟨rfl, HB.out⟩
      · rw [k1] at HLI
        by_cases hD : 0 < pl + hl
        · have dD : decide ((0 : Int) < (pl : Int) + (hl : Int)) = true := by simp; omega
          have hm : m = true := by
            rw [HMM.out]
            unfold moreL
            rw [k0, decide_eq_true hB, k1, decide_eq_true hD]
            rfl
          subst hm
          clear k0 hB k1 hD
          go_enter Try.func43, Try.ntmps43
          go_wp2_with fail
          refine (HID.out _).mono ?_
          rintro e w ⟨rfl, rfl⟩
          go_wp2_with fail
          refine (HLI.out _).mono ?_
          rintro e w ⟨rfl, rfl⟩
          go_wp2_with fail
          go_ret
          exact ⟨rfl, HB.out⟩
        · have dD : decide ((0 : Int) < (pl : Int) + (hl : Int)) = false := by simp; omega
          rcases Bool.eq_false_or_eq_true (whatK l.kind) with k2 | k2
          · rw [k2] at HWH
            rcases Bool.eq_false_or_eq_true (textK l.kind) with k3 | k3
            · rw [k3] at HTX
              have hm : m = false := by
                rw [HMM.out]
                unfold moreL
                rw [k0, decide_eq_true hB, k1, decide_eq_false hD, k2, k3]
                rfl
              subst hm
              clear k0 hB k1 hD k2 k3
              go_enter Try.func43, Try.ntmps43
              go_wp2_with fail
              refine (HID.out _).mono ?_
              rintro e w ⟨rfl, rfl⟩
              go_wp2_with fail
              refine (HLI.out _).mono ?_
              rintro e w ⟨rfl, rfl⟩
              go_wp2_with fail
              refine (HWH.out _).mono ?_
              rintro e w ⟨rfl, rfl⟩
              go_wp2_with fail
              refine (HTX.out _).mono ?_
              rintro e w ⟨rfl, rfl⟩
              go_wp2_with fail
              go_ret
              exact ⟨rfl, HB.out⟩
            · rw [k3] at HTX
              by_cases hH : l.text = []
              · have dH : l.text.isEmpty = true := by rw [hH]; rfl
                have hm : m = false := by
                  rw [HMM.out]
                  unfold moreL
                  rw [k0, decide_eq_true hB, k1, decide_eq_false hD, k2, k3, decide_eq_true hH]
                  rfl
                subst hm
                clear k0 hB k1 hD k2 k3 hH
                go_enter Try.func43, Try.ntmps43
                go_wp2_with fail
                refine (HID.out _).mono ?_
                rintro e w ⟨rfl, rfl⟩
                go_wp2_with fail
                refine (HLI.out _).mono ?_
                rintro e w ⟨rfl, rfl⟩
                go_wp2_with fail
                refine (HWH.out _).mono ?_
                rintro e w ⟨rfl, rfl⟩
                go_wp2_with fail
                refine (HTX.out _).mono ?_
                rintro e w ⟨rfl, rfl⟩
                go_wp2_with fail
                go_ret
                exact ⟨rfl, HB.out⟩
              · have dH : l.text.isEmpty = false := by simpa using hH
                have hm : m = true := by
                  rw [HMM.out]
                  unfold moreL
                  rw [k0, decide_eq_true hB, k1, decide_eq_false hD, k2, k3, decide_eq_false hH]
                  rfl
                subst hm
                clear k0 hB k1 hD k2 k3 hH
                go_enter Try.func43, Try.ntmps43
                go_wp2_with fail
                refine (HID.out _).mono ?_
                rintro e w ⟨rfl, rfl⟩
                go_wp2_with fail
                refine (HLI.out _).mono ?_
                rintro e w ⟨rfl, rfl⟩
                go_wp2_with fail
                refine (HWH.out _).mono ?_
                rintro e w ⟨rfl, rfl⟩
                go_wp2_with fail
                refine (HTX.out _).mono ?_
                rintro e w ⟨rfl, rfl⟩
                go_wp2_with fail
                go_ret
                exact ⟨rfl, HB.out⟩
          · rw [k2] at HWH
            by_cases hF : l.what = 0
            · have dF : (l.what != 0) = false := by simp [hF]
              rcases Bool.eq_false_or_eq_true (textK l.kind) with k3 | k3
              · rw [k3] at HTX
                have hm : m = false := by
                  rw [HMM.out]
                  unfold moreL
                  rw [k0, decide_eq_true hB, k1, decide_eq_false hD, k2, decide_eq_true hF, k3]
                  rfl
                subst hm
                clear k0 hB k1 hD k2 hF k3
                go_enter Try.func43, Try.ntmps43
                go_wp2_with fail
                refine (HID.out _).mono ?_
                rintro e w ⟨rfl, rfl⟩
                go_wp2_with fail
                refine (HLI.out _).mono ?_
                rintro e w ⟨rfl, rfl⟩
                go_wp2_with fail
                refine (HWH.out _).mono ?_
                rintro e w ⟨rfl, rfl⟩
                go_wp2_with fail
                refine (HTX.out _).mono ?_
                rintro e w ⟨rfl, rfl⟩
                go_wp2_with fail
                go_ret
                exact ⟨rfl, HB.out⟩
              · rw [k3] at HTX
                by_cases hH : l.text = []
                · have dH : l.text.isEmpty = true := by rw [hH]; rfl
                  have hm : m = false := by
                    rw [HMM.out]
                    unfold moreL
                    rw [k0, decide_eq_true hB, k1, decide_eq_false hD, k2, decide_eq_true hF, k3, decide_eq_true hH]
                    rfl
                  subst hm
                  clear k0 hB k1 hD k2 hF k3 hH
                  go_enter Try.func43, Try.ntmps43
                  go_wp2_with fail
                  refine (HID.out _).mono ?_
                  rintro e w ⟨rfl, rfl⟩
                  go_wp2_with fail
                  refine (HLI.out _).mono ?_
                  rintro e w ⟨rfl, rfl⟩
                  go_wp2_with fail
                  refine (HWH.out _).mono ?_
                  rintro e w ⟨rfl, rfl⟩
                  go_wp2_with fail
                  refine (HTX.out _).mono ?_
                  rintro e w ⟨rfl, rfl⟩
                  go_wp2_with fail
                  go_ret
                  exact ⟨rfl, HB.out⟩
                · have dH : l.text.isEmpty = false := by simpa using hH
                  have hm : m = true := by
                    rw [HMM.out]
                    unfold moreL
                    rw [k0, decide_eq_true hB, k1, decide_eq_false hD, k2, decide_eq_true hF, k3, decide_eq_false hH]
                    rfl
                  subst hm
                  clear k0 hB k1 hD k2 hF k3 hH
                  go_enter Try.func43, Try.ntmps43
                  go_wp2_with fail
                  refine (HID.out _).mono ?_
                  rintro e w ⟨rfl, rfl⟩
                  go_wp2_with fail
                  refine (HLI.out _).mono ?_
                  rintro e w ⟨rfl, rfl⟩
                  go_wp2_with fail
                  refine (HWH.out _).mono ?_
                  rintro e w ⟨rfl, rfl⟩
                  go_wp2_with fail
                  refine (HTX.out _).mono ?_
                  rintro e w ⟨rfl, rfl⟩
                  go_wp2_with fail
                  go_ret
                  exact ⟨rfl, HB.out⟩
            · have dF : (l.what != 0) = true := by simp [hF]
              have hm : m = true := by
                rw [HMM.out]
                unfold moreL
                rw [k0, decide_eq_true hB, k1, decide_eq_false hD, k2, decide_eq_false hF]
                rfl
              subst hm
              clear k0 hB k1 hD k2 hF
              go_enter Try.func43, Try.ntmps43
              go_wp2_with fail
              refine (HID.out _).mono ?_
              rintro e w ⟨rfl, rfl⟩
              go_wp2_with fail
              refine (HLI.out _).mono ?_
              rintro e w ⟨rfl, rfl⟩
              go_wp2_with fail
              refine (HWH.out _).mono ?_
              rintro e w ⟨rfl, rfl⟩
              go_wp2_with fail
              go_ret
              exact ⟨rfl, HB.out⟩
    · replace hne := fun w => (hne w).trans (by rw [decide_eq_false hB])
      have hm : m = true := by
        rw [HMM.out]
        unfold moreL
        rw [k0, decide_eq_false hB]
        rfl
      subst hm
      clear k0 hB
      go_enter Try.func43, Try.ntmps43
      go_wp2_with fail
      refine (HID.out _).mono ?_
      rintro e w ⟨rfl, rfl⟩
      go_wp2_with fail
      go_ret
      exact ⟨rfl, HB.out⟩
end Go.Proofs.Ytbkknhlagohhhaa

/-
  The laws of layer 4: awake; BaleOne: the walk.
-/
import Derived.Test.YtclggeicpdkkdaaBal6
namespace Go.Proofs.Ytclggeicpdkkdaa
open Go.RowKit Crv
attribute [local go_sem] ByteArray.mk_append_mk

theorem strs_awake : ([[97], []] : List (List UInt8)).flatMap strOf = [1, 1, 97, 0] := by decide +kernel
theorem num300 : numOf 300 = [2, 1, 44] := by decide +kernel
theorem num201 : numS (([2, 0, 1] : List UInt8), (0 : Int)) = (([], 2), 0) := by decide +kernel

set_option maxRecDepth 100000 in
set_option maxHeartbeats 1000000 in
theorem awake4_any (w : World) : Calls Try.prog 11 #[] w fun e w' => e = .returned (.bool true) ∧ Below w.heap.size w w' := by
  go_enter Try.func11, Try.ntmps11
  go_wp2_with fail
  refine (open_any [2, 0, 1] _).mono ?_
  rintro e w1 ⟨rfl, hm1, hb1, hz1⟩
  have HM1 := Lib.hid hm1
  clear hm1 hz1
  go_wp2_with fail
  refine (num_any 300 _ (by omega)).mono ?_
  rintro e w2 ⟨rfl, hb2⟩
  have HM2 := Lib.hid (HM1.out.below hb2)
  have hb02 := belowThen hb1 hb2
  clear HM1 hb1 hb2
  rw [num300]
  have HN := Lib.hid (numB_any w2 w.heap.size _ HM2.out)
  rw [num201] at HN
  go_wp2_with fail
  refine HN.out.mono ?_
  rintro e w3 ⟨rfl, hm3, hg3⟩
  have hb03 := belowNew hb02 hg3 (Nat.le_refl _)
  have HE := Lib.hid (err_any w3 w.heap.size _ hm3)
  clear HN HM2 hb02 hg3 hm3
  go_wp2_with fail
  refine HE.out.mono ?_
  rintro e w4 ⟨rfl, rfl⟩
  clear HE
  go_wp2_with fail
  refine (strs_any _ _ [[97], []] (Txs.new [[97], []] 2) (by simp) (by simp)).mono ?_
  rintro e w5 ⟨rfl, hb5⟩
  rw [strs_awake]
  have hb05 := belowThen (belowThen hb03 (belowSelf w3 _)) hb5
  clear hb5
  go_wp2
  go_ret
  exact ⟨rfl, hb05⟩

set_option maxRecDepth 100000 in
set_option maxHeartbeats 1000000 in
theorem baleOne_walk (s0 : List UInt8) (w : World) :
    Calls Try.prog 5 #[.string (str s0)] w fun e w' => e = .returned (.bool true) ∧ Below w.heap.size w w' := by
  go_enter Try.func5, Try.ntmps5
  go_wp2_with fail
  refine (cutB s0 _ (by decide) _).mono ?_
  rintro e w' ⟨rfl, rfl⟩
  obtain ⟨s, hs⟩ : ∃ s, s = s0.take (12 : Int).toNat := ⟨_, rfl⟩
  have ls : s.length ≤ 12 := by rw [hs]; exact List.length_take_le _ _
  rw [← hs]
  clear hs
  go_wp2_with fail
  refine (open_any s _).mono ?_
  rintro e w1 ⟨rfl, hm1, hb1, hz1⟩
  have HM1 := Lib.hid hm1
  clear hm1 hz1
  go_wp2_with fail
  refine (awake4_any _).mono ?_
  rintro e w2 ⟨rfl, hb2⟩
  have hb02 := belowThen hb1 hb2
  have HN := Lib.hid (numB_any w2 w.heap.size _ (HM1.out.below hb2))
  have HERR := Lib.hid (numS_err s)
  have HOK := Lib.hid (numS_ok s)
  have HLT := Lib.hid (numS_lt (s, 0))
  clear HM1 hb1 hb2
  obtain ⟨l, x, n, hq⟩ : ∃ l x n, numS (s, 0) = ((l, x), n) := ⟨_, _, _, rfl⟩
  rw [hq] at HN HERR HOK HLT
  have hlt : n < 18446744073709551616 := HLT.out
  clear hq HLT
  go_wp2_with fail
  refine HN.out.mono ?_
  rintro e w3 ⟨rfl, hm3, hg3⟩
  have hb03 := belowNew hb02 hg3 (Nat.le_refl _)
  have HE := Lib.hid (err_any w3 w.heap.size _ hm3)
  have HL := Lib.hid (left_any w3 w.heap.size _ hm3)
  have HM3 := Lib.hid hm3
  clear HN hb02 hg3 hm3
  by_cases hx : x = 0
  · subst hx
    have hcat := HOK.out rfl
    clear HERR HOK
    go_wp2_with fail
    refine HE.out.mono ?_
    rintro e w4 ⟨rfl, rfl⟩
    clear HE
    go_wp2_with fail
    refine (num_any n _ hlt).mono ?_
    rintro e w4 ⟨rfl, hb4⟩
    have HL4 := Lib.hid (left_any w4 w.heap.size _ (HM3.out.below hb4))
    have HC := Lib.hid hcat
    have hlen : (numOf n).length ≤ 9 := length_numOf hlt
    have hll : l.length ≤ 12 := by
      have := congrArg List.length hcat
      simp at this
      omega
    clear HL hcat
    go_wp2_with fail
    refine HL4.out.mono ?_
    rintro e w5 ⟨rfl, rfl⟩
    clear HL4
    go_wp2
    go_ret
    refine ⟨?_, belowThen hb03 hb4⟩
    show Ending.returned (.bool (numOf n ++ l == s)) = _
    rw [HC.out]
    simp
  · obtain ⟨h1, h2⟩ := HERR.out hx
    have h1' : n = 0 := h1
    have h2' : l = [] := h2
    clear HERR HOK h1 h2
    subst h1' h2'
    have hd : ((x : Int) != 0) = true := by simpa using hx
    clear hx
    go_wp2_with fail
    refine HE.out.mono ?_
    rintro e w4 ⟨rfl, rfl⟩
    clear HE
    go_wp2_with fail
    refine HL.out.mono ?_
    rintro e w4 ⟨rfl, rfl⟩
    clear HL
    go_wp2
    go_ret
    exact ⟨rfl, hb03⟩
end Go.Proofs.Ytclggeicpdkkdaa

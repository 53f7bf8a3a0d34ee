/-
  Package bale: the decoder: Num, Int, Str.
-/
import Derived.Test.YtbkknhlagohhhaaBal4
namespace Go.Proofs.Ytbkknhlagohhhaa
open Go.RowKit Crv

/-- The number that these bytes are, the most significant first. -/
def val (l : List UInt8) : Nat := l.foldl (fun a b => a * 256 + b.toNat) 0
theorem val_snoc (l : List UInt8) (b : UInt8) : val (l ++ [b]) = val l * 256 + b.toNat := by simp [val]
theorem val_lt_rev : ∀ l : List UInt8, val l.reverse < 256 ^ l.length
  | [] => by simp [val]
  | b :: r => by
    have h := val_lt_rev r
    have hb := b.toNat_lt
    rw [List.reverse_cons, val_snoc, List.length_cons, Nat.pow_succ]
    omega
theorem val_lt (l : List UInt8) : val l < 256 ^ l.length := by
  have := val_lt_rev l.reverse
  rwa [List.reverse_reverse, List.length_reverse] at this
theorem val_take_succ (l : List UInt8) (k : Nat) (h : k < l.length) : val (l.take (k + 1)) = val (l.take k) * 256 + (l[k]).toNat := by
  rw [List.take_succ_eq_append_getElem h, val_snoc]
theorem val_take_lt (l : List UInt8) (k : Nat) (h : k < l.length) (hl : l.length ≤ 8) : val (l.take k) < 72057594037927936 := by
  have h1 := val_lt (l.take k)
  have h2 : 256 ^ (l.take k).length ≤ 256 ^ 7 := Nat.pow_le_pow_right (by omega) (by rw [List.length_take]; omega)
  have h3 : (256 : Nat) ^ 7 = 72057594037927936 := by decide
  omega

/-- What Num does. -/
def numS (s : BSt) : BSt × Nat :=
  match bytesS s 1 with
  | (s1, []) => (s1, 0)
  | (s1, b :: _) =>
    if 8 < b.toNat then (failS s1 2, 0)
    else match bytesS s1 (b.toNat : Int) with
      | (s2, []) => (s2, 0)
      | (s2, x :: r) => if x = 0 then (failS s2 2, 0) else (s2, val (x :: r))

theorem or_shift (a b : Nat) (ha : a < 72057594037927936) (hb : b < 256) : bits .or .u64 ((a : Int) * 256) (b : Int) = ((a * 256 + b : Nat) : Int) := by
  have h := Nat.shiftLeft_add_eq_or_of_lt (i := 8) (b := b) hb a
  rw [Nat.shiftLeft_eq] at h
  have e : ((a : Int) * 256) = ((a * 256 : Nat) : Int) := by simp
  rw [e, u64_or_nat _ _ (by omega) (by omega), ← h]

set_option maxRecDepth 100000 in
set_option maxHeartbeats 1000000 in
theorem numB_any (w : World) (g : Nat) (s : BSt) (h : BM w g s) :
    Calls Try.prog 96 #[ptr g] w fun e w' => e = .returned (.int .u64 ((numS s).2 : Int)) ∧ BM w' g (numS s).1 ∧ w.grownBy w' (some g) := by
  have HB := Lib.hid (bytesB_any w g s 1 h)
  have HN := Lib.hid (show numS s = numS s from rfl)
  clear h
  obtain ⟨s1, hd, e1⟩ : ∃ s1 hd, bytesS s 1 = (s1, hd) := ⟨_, _, rfl⟩
  rw [e1] at HB
  cases hd with
  | nil =>
    have HS := Lib.hid (show numS s = (s1, 0) by unfold numS; rw [e1])
    clear e1
    go_enter Try.func96, Try.ntmps96
    go_wp2_with fail
    refine HB.out.mono ?_
    rintro e w1 ⟨rfl, hm, hg⟩
    have HM := Lib.hid hm
    clear hm
    go_wp2
    go_ret
    rw [HS.out]
    exact ⟨rfl, HM.out, hg⟩
  | cons b r =>
    have hb := b.toNat_lt
    have i0 : ∀ W, (Instr.index 9 (.string (str (b :: r))) (.int .i64 0)).run Try.prog W = .ok (.int .u8 (b.toNat : Int)) W := fun W => run_index_str 9 Try.underlying9 (b :: r) .i64 0 (by simp) W
    have hne : (b :: r).isEmpty = false := rfl
    by_cases h8 : 8 < b.toNat
    · have HS := Lib.hid (show numS s = (failS s1 2, 0) by unfold numS; rw [e1]; simp [h8])
      have h8' : (8 : Int) < (b.toNat : Int) := by omega
      clear e1
      obtain ⟨hdl, hhd⟩ : ∃ q, q = b :: r := ⟨_, rfl⟩
      rw [← hhd] at HB i0 hne
      clear hhd
      go_enter Try.func96, Try.ntmps96
      go_wp2_with fail
      refine HB.out.mono ?_
      rintro e w1 ⟨rfl, hm, hg⟩
      have HF := Lib.hid (fail_any w1 g s1 2 hm)
      clear hm
      go_wp2_with fail
      refine HF.out.mono ?_
      rintro e w2 ⟨rfl, hm2, hg2⟩
      have HM := Lib.hid hm2
      clear hm2
      go_wp2
      go_ret
      rw [HS.out]
      exact ⟨rfl, HM.out, grown_trans hg hg2⟩
    · have h8' : ¬ ((8 : Int) < (b.toNat : Int)) := by omega
      obtain ⟨s2, d, e2⟩ : ∃ s2 d, bytesS s1 (b.toNat : Int) = (s2, d) := ⟨_, _, rfl⟩
      have hdl8 : d.length ≤ 8 := by
        have h2 : d = (bytesS s1 (b.toNat : Int)).2 := by rw [e2]
        rw [h2]
        unfold bytesS
        split
        · simp
        · simp; omega
      have HS := Lib.hid (show numS s = (match (s2, d) with | (s2, []) => (s2, 0) | (s2, x :: r) => if x = 0 then (failS s2 2, 0) else (s2, val (x :: r))) by unfold numS; rw [e1]; simp only [if_neg h8]; rw [e2])
      have HBB := Lib.hid (fun w1 (hm : BM w1 g s1) => bytesB_any w1 g s1 (b.toNat : Int) hm)
      rw [e2] at HBB
      clear e1 e2 HN
      obtain ⟨hdl, hhd⟩ : ∃ q, q = b :: r := ⟨_, rfl⟩
      rw [← hhd] at HB i0 hne
      clear hhd h8
      cases d with
      | nil =>
        go_enter Try.func96, Try.ntmps96
        go_wp2_with fail
        refine HB.out.mono ?_
        rintro e w1 ⟨rfl, hm, hg⟩
        have HF := Lib.hid (HBB.out w1 hm)
        clear hm
        go_wp2_with fail
        refine HF.out.mono ?_
        rintro e w2 ⟨rfl, hm2, hg2⟩
        have HM := Lib.hid hm2
        clear hm2
        go_wp2
        go_ret
        rw [HS.out]
        exact ⟨rfl, HM.out, grown_trans hg hg2⟩
      | cons x t =>
        have j0 : ∀ W, (Instr.index 9 (.string (str (x :: t))) (.int .i64 0)).run Try.prog W = .ok (.int .u8 (x.toNat : Int)) W := fun W => run_index_str 9 Try.underlying9 (x :: t) .i64 0 (by simp) W
        have hne2 : (x :: t).isEmpty = false := rfl
        by_cases hx : x = 0
        · have HS2 := Lib.hid (show numS s = (failS s2 2, 0) by rw [HS.out]; simp [hx])
          subst hx
          clear HS
          obtain ⟨D, hD⟩ : ∃ q, q = (0 : UInt8) :: t := ⟨_, rfl⟩
          rw [← hD] at HBB j0 hne2 hdl8
          clear hD
          have hz : ((0 : UInt8).toNat : Int) = 0 := rfl
          rw [hz] at j0
          go_enter Try.func96, Try.ntmps96
          go_wp2_with fail
          refine HB.out.mono ?_
          rintro e w1 ⟨rfl, hm, hg⟩
          have HF := Lib.hid (HBB.out w1 hm)
          clear hm
          go_wp2_with fail
          refine HF.out.mono ?_
          rintro e w2 ⟨rfl, hm2, hg2⟩
          have HF2 := Lib.hid (fail_any w2 g s2 2 hm2)
          clear hm2
          go_wp2_with fail
          refine HF2.out.mono ?_
          rintro e w3 ⟨rfl, hm3, hg3⟩
          have HM := Lib.hid hm3
          clear hm3
          go_wp2
          go_ret
          rw [HS2.out]
          exact ⟨rfl, HM.out, grown_trans (grown_trans hg hg2) hg3⟩
        · have HS2 := Lib.hid (show numS s = (s2, val (x :: t)) by rw [HS.out]; simp [hx])
          have hx0 : ((x.toNat : Int) == 0) = false := by
            rw [beq_eq_false_iff_ne]
            intro h0
            apply hx
            apply UInt8.toNat_inj.1
            simpa using h0
          clear HS hx
          obtain ⟨D, hD⟩ : ∃ q, q = x :: t := ⟨_, rfl⟩
          rw [← hD] at HBB j0 hne2 hdl8 HS2
          clear hD
          go_enter Try.func96, Try.ntmps96
          go_wp2_with fail
          refine HB.out.mono ?_
          rintro e w1 ⟨rfl, hm, hg⟩
          have HF := Lib.hid (HBB.out w1 hm)
          clear hm
          go_wp2_with fail
          refine HF.out.mono ?_
          rintro e w2 ⟨rfl, hm2, hg2⟩
          have HM := Lib.hid hm2
          clear hm2 HF HBB HB
          go_wp2_with fail
          go_loop [5, 30] (fun v i => ∃ k : Nat, k ≤ D.length ∧ i = .int .i64 k ∧ v = .int .u64 (val (D.take k) : Int)) (fun _ i => D.length - (intOf i).toNat)
          case atStart => exact ⟨0, by omega, rfl, rfl⟩
          case round =>
            obtain ⟨k, hk, rfl, rfl⟩ := hrel
            by_cases hlt : k < D.length
            · obtain ⟨y, hy⟩ : ∃ y, y = D[k] := ⟨_, rfl⟩
              have hyl := y.toNat_lt
              have iy : ∀ W, (Instr.index 9 (.string (str D)) (.int .i64 (k : Int))).run Try.prog W = .ok (.int .u8 (y.toNat : Int)) W := fun W => by
                rw [run_index_str 9 Try.underlying9 D .i64 k hlt W, hy, List.getD_eq_getElem?_getD, List.getElem?_eq_getElem hlt]
                rfl
              have hvl := val_take_lt D k hlt hdl8
              have HV := Lib.hid (show val (D.take (k + 1)) = val (D.take k) * 256 + y.toNat by rw [hy]; exact val_take_succ D k hlt)
              obtain ⟨v, hv⟩ : ∃ v, v = val (D.take k) := ⟨_, rfl⟩
              rw [← hv] at hvl HV ⊢
              have hor := or_shift v y.toNat hvl hyl
              clear hv hy
              have hd : decide (k < D.length) = true := by simp; omega
              go_wp2_with fail
              go_round
              case rel => exact ⟨k + 1, by omega, by go_num, by rw [HV.out]; simp⟩
              case measure => simp [intOf]; omega
            · have ek : k = D.length := by omega
              subst ek
              rw [List.take_length]
              go_wp2
              go_ret
              rw [HS2.out]
              exact ⟨rfl, HM.out, grown_trans hg hg2⟩
end Go.Proofs.Ytbkknhlagohhhaa

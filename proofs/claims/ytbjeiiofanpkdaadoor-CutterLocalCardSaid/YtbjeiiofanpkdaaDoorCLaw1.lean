/-
  CutterSizes: the walk.
-/
import Derived.Test.YtbjeiiofanpkdaaDoorCut6
namespace Go.Proofs.YtbjeiiofanpkdaaDoor
open Go.RowKit Crv
attribute [local go_sem] ByteArray.mk_append_mk

theorem endOf_most (t : List Nat) (s : List UInt8) : endOf t s ≤ 256 := by
  unfold endOf advK
  cases h : firstStop t 0 0 s with
  | some i =>
    have h2 := (of_firstStop_some h).2.2
    show i + 1 ≤ 256
    rcases Nat.lt_or_ge i 256 with hi | hi
    · omega
    · have := h2 255 (by omega)
      unfold stops at this
      rw [endsB_long (by omega)] at this
      cases this
  | none =>
    have h2 := of_firstStop_none h
    show s.length ≤ 256
    rcases Nat.lt_or_ge s.length 256 with hi | hi
    · omega
    · have := h2 255 (by omega)
      unfold stops at this
      rw [endsB_long (by omega)] at this
      cases this
theorem endOf_least (t : List Nat) (s : List UInt8) (h : s.drop (endOf t s) ≠ []) : 32 ≤ endOf t s := by
  unfold endOf advK at h ⊢
  cases hf : firstStop t 0 0 s with
  | some i =>
    have h2 := (of_firstStop_some hf).2.1
    show 32 ≤ i + 1
    rcases Nat.lt_or_ge (i + 1) 32 with hi | hi
    · unfold stops at h2
      rw [endsB_short (by omega)] at h2
      cases h2
    · exact hi
  | none =>
    rw [hf] at h
    exact absurd (by simp) h
theorem cuts_flatten (t : List Nat) : ∀ (n : Nat) (s : List UInt8), s.length ≤ n → (cuts t s).flatten = s := by
  intro n
  induction n with
  | zero => intro s h; have : s = [] := List.length_eq_zero_iff.1 (by omega); subst this; rfl
  | succ n ih =>
    intro s h
    by_cases hs : s = []
    · subst hs; rfl
    · have h1 := endOf_pos t hs
      rw [cuts_cons t hs, List.flatten_cons, ih _ (by rw [List.length_drop]; omega), List.take_append_drop]
theorem cuts_sizes (t : List Nat) : ∀ (n : Nat) (s : List UInt8), s.length ≤ n → ∀ i, i < (cuts t s).length → 0 < ((cuts t s).getD i []).length ∧ ((cuts t s).getD i []).length ≤ 256 ∧ (i + 1 < (cuts t s).length → 32 ≤ ((cuts t s).getD i []).length) := by
  intro n
  induction n with
  | zero => intro s h i hi; have : s = [] := List.length_eq_zero_iff.1 (by omega); subst this; simp [cuts_nil] at hi
  | succ n ih =>
    intro s h i hi
    by_cases hs : s = []
    · subst hs; simp [cuts_nil] at hi
    · have h1 := endOf_pos t hs
      have h2 := endOf_le t s
      have h3 := endOf_most t s
      rw [cuts_cons t hs] at hi ⊢
      cases i with
      | zero =>
        rw [List.getD_cons_zero, List.length_take, List.length_cons]
        refine ⟨by omega, by omega, fun h4 => ?_⟩
        have h5 : s.drop (endOf t s) ≠ [] := by
          intro e
          rw [e, cuts_nil] at h4
          simp at h4
        have := endOf_least t s h5
        omega
      | succ i =>
        rw [List.length_cons] at hi
        have := ih (s.drop (endOf t s)) (by rw [List.length_drop]; omega) i (by omega)
        rw [List.getD_cons_succ, List.length_cons]
        exact ⟨this.1, this.2.1, fun h4 => this.2.2 (by omega)⟩
set_option maxHeartbeats 2000000 in
set_option maxRecDepth 100000 in
theorem cutterSizes_walk (s0 : List UInt8) (n : Int) (w : World) (hc : Consts w) :
    Calls Tryd.prog 11 #[.string (str s0), .int .i64 n] w fun e w' => e = .returned (.bool true) ∧ Below w.heap.size w w' := by
  have HCU := Lib.hid (fun W => cutB s0 300 (by omega) W)
  rw [show (300 : Int).toNat = 300 from rfl] at HCU
  have HBY := Lib.hid (fun W => bytes_of (s0.take 300) n W)
  have HC := Lib.hid hc
  have HN := Lib.hid (fun W hW => gearNew_any [99, 97, 114, 97, 118, 97, 110] W hW (by decide))
  obtain ⟨t, ht⟩ : ∃ t, t = gearTab [99, 97, 114, 97, 118, 97, 110] := ⟨_, rfl⟩
  simp only [← ht] at HN
  clear ht hc
  go_enter Tryd.func11, Tryd.ntmps11
  go_wp2_with fail
  refine (HCU.out _).mono ?_
  rintro e w' ⟨rfl, rfl⟩
  go_wp2_with fail
  refine (HBY.out _).mono ?_
  rintro e w1 ⟨s, rfl, hsl, hb1⟩
  have hs15 : s.length ≤ 1500 := by omega
  have HB1 := Lib.hid hb1
  have HA := Lib.hid (awake8_any w1 (HC.out.below hb1))
  clear hsl hb1 HCU HBY
  go_wp2_with fail
  refine HA.out.mono ?_
  rintro e w2 ⟨rfl, hb2⟩
  have HB2 := Lib.hid (belowThen HB1.out hb2)
  clear hb2
  go_wp2_with fail
  refine (HN.out _ (HC.out.below HB2.out)).mono ?_
  rintro e w3 ⟨rfl, htb, hb3⟩
  have HB3 := Lib.hid (belowThen HB2.out hb3)
  obtain ⟨tb, htbe⟩ : ∃ b, b = w2.heap.size := ⟨_, rfl⟩
  rw [← htbe] at htb
  simp only [← htbe]
  have HCT := Lib.hid (cut_any tb t s w3 htb (by omega))
  have HFL := Lib.hid (cuts_flatten t s.length s (Nat.le_refl _))
  have HSZ := Lib.hid (cuts_sizes t s.length s (Nat.le_refl _))
  have hlc := length_cuts t s
  obtain ⟨ls, hls⟩ : ∃ l, l = cuts t s := ⟨_, rfl⟩
  rw [← hls] at HCT HFL HSZ hlc
  clear hb3 htbe htb hls
  go_wp2_with fail
  refine HCT.out.mono ?_
  rintro e w4 ⟨v, rfl, hov, hb4⟩
  have HB4 := Lib.hid (belowThen HB3.out hb4)
  obtain ⟨a, cap, rfl, hcs⟩ := Txs.of_owns hov
  have HCS := Lib.hid hcs
  clear hov hb4 hcs HCT
  go_wp2_with fail
  go_loopw [6, 20] (fun al i wr => ∃ k : Nat, k ≤ ls.length ∧ i = .int .i64 k ∧ al = .string (str (ls.take k).flatten) ∧ w4 = wr) (fun _ i _ => ls.length - (intOf i).toNat)
  case atStart => exact ⟨0, by omega, rfl, rfl, rfl⟩
  case round =>
    obtain ⟨k, hk, rfl, rfl, rfl⟩ := hrel
    by_cases hlt : k < ls.length
    · have hd : decide ((k : Int) < (ls.length : Int)) = true := by simp; omega
      have hd2 : decide (k < ls.length) = true := by simpa using hlt
      obtain ⟨b, off, rfl, hcell⟩ := HCS.out k hlt
      have HFS := Lib.hid (flatten_take_succ ls k hlt)
      obtain ⟨h1, h2, h3⟩ := HSZ.out k hlt
      obtain ⟨x, hx⟩ : ∃ x, x = ls.getD k [] := ⟨_, rfl⟩
      rw [← hx] at hcell HFS h1 h2 h3
      have hyl := flatten_take_le ls k
      rw [HFL.out] at hyl
      obtain ⟨y, hy⟩ : ∃ y, y = (ls.take k).flatten := ⟨_, rfl⟩
      rw [← hy] at HFS hyl
      simp only [← hy]
      have d1 : decide ((256 : Int) < (x.length : Int)) = false := by simp; omega
      have d2 : ((x.length : Int) == 0) = false := by simp; intro e; subst e; simp at h1
      have hne : ¬ x = [] := by intro e; subst e; simp at h1
      clear hx hy
      by_cases c1 : k + 1 < ls.length
      · have d3 : decide ((k : Int) < (ls.length : Int) - 1) = true := by simp; omega
        have h32 := h3 c1
        have d4 : decide ((x.length : Int) < 32) = false := by simp; omega
        clear h3
        go_wp2_with fail
        refine ⟨⟨k + 1, by omega, by go_num, by rw [HFS.out], trivial⟩, ?_⟩
        simp [intOf]; omega
      · have d3 : decide ((k : Int) < (ls.length : Int) - 1) = false := by simp; omega
        clear h3
        go_wp2_with fail
        refine ⟨⟨k + 1, by omega, by go_num, by rw [HFS.out], trivial⟩, ?_⟩
        simp [intOf]; omega
    · have e : k = ls.length := by omega
      subst e
      have hd : decide ((ls.length : Int) < (ls.length : Int)) = false := by simp
      rw [List.take_length, HFL.out]
      go_wp2
      go_ret
      exact ⟨rfl, HB4.out⟩
end Go.Proofs.YtbjeiiofanpkdaaDoor

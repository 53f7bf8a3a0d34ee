/-
  Mesh: isAddress, queue, Len, Lost, Waits, has.
-/
import Derived.Test.YtbkknhlagohhhaaMsm1
namespace Go.Proofs.Ytbkknhlagohhhaa
open Go.RowKit Crv

section
variable {W : World} {mb bb : Nat} {qb : Nat → Nat} {sv : Nat → Nat → Value} {x : MS}
theorem Msh.form (h : Msh W mb bb qb sv x) {t f : Nat} (ht : t < x.n) (hf : f < x.n) : ∃ a cap, sv t f = .slice a (x.q t f).length cap ∧ (x.q t f).length ≤ cap := by
  obtain ⟨a, cap, h1, h2, h3⟩ := (h.own t f ht hf).form
  rw [List.length_map] at h1 h2
  exact ⟨a, cap, h1, h2⟩
set_option maxHeartbeats 400000 in
theorem isAddress_any (h : Msh W mb bb qb sv x) (a : Int) : Calls Try.prog 73 #[.pointer (some ⟨mb, 0, none⟩), .int .i64 a] W fun e w' => e = .returned (.bool (isAdr x.n a)) ∧ w' = W := by
  have hc := h.boxes
  have H := Lib.hid h
  clear h
  by_cases h0 : 0 ≤ a
  · by_cases h1 : a < (x.n : Int)
    · have e : isAdr x.n a = true := by simp [isAdr, h0, h1]
      rw [e]
      go_enter Try.func73, Try.ntmps73
      go_wp2
      go_ret
      exact ⟨rfl, rfl⟩
    · have e : isAdr x.n a = false := by simp [isAdr, h1]
      rw [e]
      go_enter Try.func73, Try.ntmps73
      go_wp2
      go_ret
      exact ⟨rfl, rfl⟩
  · have e : isAdr x.n a = false := by simp [isAdr, h0]
    rw [e]
    go_enter Try.func73, Try.ntmps73
    go_wp2
    go_ret
    exact ⟨rfl, rfl⟩
set_option maxHeartbeats 400000 in
theorem queue_any (h : Msh W mb bb qb sv x) (t f : Nat) (ht : t < x.n) (hf : f < x.n) : Calls Try.prog 74 #[.pointer (some ⟨mb, 0, none⟩), .int .i64 t, .int .i64 f] W fun e w' => e = .returned (.pointer (some ⟨qb t, f, none⟩)) ∧ w' = W := by
  have hc := h.boxes
  have hq := h.queues t ht
  have H := Lib.hid h
  have h1 : (t : Int) < (x.n : Int) := by omega
  have h2 : (f : Int) < (x.n : Int) := by omega
  clear h
  go_enter Try.func74, Try.ntmps74
  go_wp2
  go_ret
  exact ⟨rfl, rfl⟩
/-- How many wait there from there. -/
def waitsM (x : MS) (t f : Int) : Nat := if isAdr x.n t && isAdr x.n f then (x.q t.toNat f.toNat).length else 0
set_option maxHeartbeats 1000000 in
set_option maxRecDepth 100000 in
theorem waits_any (h : Msh W mb bb qb sv x) (t f : Int) : Calls Try.prog 34 #[.pointer (some ⟨mb, 0, none⟩), .int .i64 t, .int .i64 f] W fun e w' => e = .returned (.int .i64 (waitsM x t f)) ∧ w' = W := by
  have HA := Lib.hid (isAddress_any h)
  by_cases ha : isAdr x.n t = true
  · by_cases hb : isAdr x.n f = true
    · have e : waitsM x t f = (x.q t.toNat f.toNat).length := by simp [waitsM, ha, hb]
      rw [e]
      have HA1 := Lib.hid (HA.out t)
      have HA2 := Lib.hid (HA.out f)
      rw [ha] at HA1
      rw [hb] at HA2
      obtain ⟨t, rfl, ht⟩ := isAdr_true ha
      obtain ⟨f, rfl, hf⟩ := isAdr_true hb
      simp only [Int.toNat_natCast] at *
      have HQ := Lib.hid (queue_any h t f ht hf)
      have hq := h.que t f ht hf
      obtain ⟨a, cap, hs, _⟩ := h.form ht hf
      rw [hs] at hq
      clear h hs e ha hb HA
      go_enter Try.func34, Try.ntmps34
      go_wp2_with fail
      refine HA1.out.mono ?_
      rintro e w' ⟨rfl, rfl⟩
      go_wp2_with fail
      refine HA2.out.mono ?_
      rintro e w' ⟨rfl, rfl⟩
      go_wp2_with fail
      refine HQ.out.mono ?_
      rintro e w' ⟨rfl, rfl⟩
      go_wp2_with fail
      go_ret
      exact ⟨rfl, rfl⟩
    · have hb' : isAdr x.n f = false := by simpa using hb
      have e : waitsM x t f = 0 := by simp [waitsM, hb']
      rw [e]
      have HA1 := Lib.hid (HA.out t)
      have HA2 := Lib.hid (HA.out f)
      rw [ha] at HA1
      rw [hb'] at HA2
      clear h e ha hb hb' HA
      go_enter Try.func34, Try.ntmps34
      go_wp2_with fail
      refine HA1.out.mono ?_
      rintro e w' ⟨rfl, rfl⟩
      go_wp2_with fail
      refine HA2.out.mono ?_
      rintro e w' ⟨rfl, rfl⟩
      go_wp2_with fail
      go_ret
      exact ⟨rfl, rfl⟩
  · have ha' : isAdr x.n t = false := by simpa using ha
    have e : waitsM x t f = 0 := by simp [waitsM, ha']
    rw [e]
    have HA1 := Lib.hid (HA.out t)
    rw [ha'] at HA1
    clear h e ha ha' HA
    go_enter Try.func34, Try.ntmps34
    go_wp2_with fail
    refine HA1.out.mono ?_
    rintro e w' ⟨rfl, rfl⟩
    go_wp2_with fail
    go_ret
    exact ⟨rfl, rfl⟩
/-- Is there such a packet? -/
def hasM (x : MS) (t f i : Int) : Bool := decide (0 ≤ i) && decide (i < (waitsM x t f : Int))
set_option maxHeartbeats 400000 in
theorem hasM_any (h : Msh W mb bb qb sv x) (t f i : Int) : Calls Try.prog 92 #[.pointer (some ⟨mb, 0, none⟩), .int .i64 t, .int .i64 f, .int .i64 i] W fun e w' => e = .returned (.bool (hasM x t f i)) ∧ w' = W := by
  have HA := Lib.hid (waits_any h t f)
  clear h
  obtain ⟨k, hk⟩ : ∃ k, k = waitsM x t f := ⟨_, rfl⟩
  unfold hasM
  rw [← hk] at HA ⊢
  clear hk
  by_cases h0 : 0 ≤ i
  · simp only [h0, decide_true, Bool.true_and]
    go_enter Try.func92, Try.ntmps92
    go_wp2_with fail
    refine HA.out.mono ?_
    rintro e w' ⟨rfl, rfl⟩
    go_wp2_with fail
    go_ret
    exact ⟨rfl, rfl⟩
  · simp only [h0, decide_false, Bool.false_and]
    go_enter Try.func92, Try.ntmps92
    go_wp2
    go_ret
    exact ⟨rfl, rfl⟩
set_option maxHeartbeats 400000 in
theorem len_any (h : Msh W mb bb qb sv x) : Calls Try.prog 67 #[.pointer (some ⟨mb, 0, none⟩)] W fun e w' => e = .returned (.int .i64 x.n) ∧ w' = W := by
  have hc := h.boxes
  clear h
  go_enter Try.func67, Try.ntmps67
  go_wp2
  go_ret
  exact ⟨rfl, rfl⟩
set_option maxHeartbeats 400000 in
theorem lost_any (h : Msh W mb bb qb sv x) : Calls Try.prog 33 #[.pointer (some ⟨mb, 0, none⟩)] W fun e w' => e = .returned (.int .i64 x.lost) ∧ w' = W := by
  have hc := h.lostc
  clear h
  go_enter Try.func33, Try.ntmps33
  go_wp2
  go_ret
  exact ⟨rfl, rfl⟩
end
end Go.Proofs.Ytbkknhlagohhhaa

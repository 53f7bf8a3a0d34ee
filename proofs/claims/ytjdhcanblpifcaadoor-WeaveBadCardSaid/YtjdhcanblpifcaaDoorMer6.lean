/-
  Package merkle: Depth, checkChunks.
-/
import Derived.Test.YtjdhcanblpifcaaDoorMer3
namespace Go.Proofs.YtjdhcanblpifcaaDoor
open Go.RowKit Crv

set_option maxRecDepth 100000 in
set_option maxHeartbeats 400000 in
theorem depth_any (n : Nat) (hn : n ≤ 1000000000) (w : World) :
    Calls Tryd.prog 19 #[.int .i64 (n : Int)] w fun e w' => e = .returned (.int .i64 (depthOf n : Int)) ∧ w = w' := by
  have HD := Lib.hid (show depthOf n ≤ 1000000000 from Nat.le_trans (depthOf_le 29 n (Nat.le_trans hn (by decide))) (by decide))
  go_enter Tryd.func19, Tryd.ntmps19
  go_wp2_with fail
  go_loop [0, 3] (fun c l => ∃ (q j : Nat), c = .int .i64 q ∧ l = .int .i64 j ∧ q ≤ 1000000000 ∧ Hid (j + depthOf q = 1 + depthOf n)) (fun c _ => (intOf c).toNat)
  case atStart => exact ⟨n, 1, rfl, rfl, hn, Lib.hid rfl⟩
  case round =>
    obtain ⟨q, j, rfl, rfl, hq, HJ⟩ := hrel
    have hj : j ≤ 1000000001 := by have := HJ.out; have := HD.out; omega
    by_cases h8 : 8 < q
    · have hd : decide ((8 : Int) < (q : Int)) = true := by simp; omega
      have HB := Lib.hid (depthOf_big h8)
      have hqi : (8 : Int) < (q : Int) := by omega
      go_wp2_with fail
      go_round
      case rel => exact ⟨(q - 1) / 8 + 1, j + 1, by go_num, by go_num, by omega, Lib.hid (by have := HJ.out; have := HB.out; omega)⟩
      case measure => simp [intOf]; omega
    · have hd : decide ((8 : Int) < (q : Int)) = false := by simp; omega
      have HS := Lib.hid (depthOf_small (show q ≤ 8 by omega))
      have hjn : j = depthOf n := by have := HJ.out; have := HS.out; omega
      have hqi : ¬ (8 : Int) < (q : Int) := by omega
      go_wp2_with fail
      go_ret
      exact ⟨by rw [← hjn]; rfl, rfl⟩

/-- May these be chunks: the error. -/
def okC (c : List UInt8) : Prop := c.length ≠ 0 ∧ c.length ≤ 256
instance (c : List UInt8) : Decidable (okC c) := inferInstanceAs (Decidable (_ ∧ _))
def sumC (cs : List (List UInt8)) : Nat := (cs.map List.length).sum
def chkC (cs : List (List UInt8)) : Int := if cs = [] then 10 else if ¬ ∀ c ∈ cs, okC c then 10 else if 32768 < sumC cs then 5 else 0
theorem sumC_take_succ (cs : List (List UInt8)) (k : Nat) (h : k < cs.length) : sumC (cs.take (k + 1)) = sumC (cs.take k) + (cs.getD k []).length := by
  rw [List.take_succ_eq_append_getElem h]
  unfold sumC
  rw [List.map_append, List.sum_append, List.getD_eq_getElem?_getD, List.getElem?_eq_getElem h]
  simp
set_option maxRecDepth 100000 in
set_option maxHeartbeats 800000 in
theorem checkC_any (v : Value) (cs : List (List UInt8)) (w : World) (hv : Txs w v cs) (hn : cs.length ≤ 1000000) :
    Calls Tryd.prog 42 #[v] w fun e w' => e = .returned (.int .i64 (chkC cs)) ∧ w = w' := by
  obtain ⟨a, cap, rfl, hcell⟩ := hv
  by_cases h0 : cs.length = 0
  · have he : cs = [] := List.eq_nil_of_length_eq_zero h0
    have HR := Lib.hid (show chkC cs = 10 by unfold chkC; rw [if_pos he])
    rw [HR.out, h0]
    clear HR hcell he
    go_enter Tryd.func42, Tryd.ntmps42
    go_wp2_with fail
    go_ret
    exact ⟨rfl, rfl⟩
  have hne : cs ≠ [] := fun e => h0 (by rw [e]; rfl)
  have HR := Lib.hid (show chkC cs = if ¬ ∀ c ∈ cs, okC c then 10 else if 32768 < sumC cs then 5 else 0 by unfold chkC; rw [if_neg hne])
  have hd0 : ((cs.length : Int) == 0) = false := by rw [beq_eq_false_iff_ne]; omega
  have HC := Lib.hid hcell
  clear hcell hne
  go_enter Tryd.func42, Tryd.ntmps42
  go_wp2_with fail
  go_loop [3, 11] (fun t i => ∃ k : Nat, k ≤ cs.length ∧ i = .int .i64 k ∧ t = .int .i64 (sumC (cs.take k) : Int) ∧ sumC (cs.take k) ≤ 256 * k ∧ Hid (∀ c ∈ cs.take k, okC c)) (fun _ i => cs.length - (intOf i).toNat)
  case atStart => exact ⟨0, by omega, rfl, rfl, by simp [sumC], Lib.hid (by simp)⟩
  case round =>
    obtain ⟨k, hk, rfl, rfl, hsm, HALL⟩ := hrel
    by_cases hlt : k < cs.length
    · obtain ⟨b, off, ha, hcell⟩ := HC.out k hlt
      subst ha
      have HSUM := Lib.hid (sumC_take_succ cs k hlt)
      have HNX := Lib.hid (show ∀ x, x = cs.getD k [] → okC x → ∀ c ∈ cs.take (k + 1), okC c from fun x hx ho c hc => by
        rw [List.take_succ_eq_append_getElem hlt] at hc
        rcases List.mem_append.1 hc with hc | hc
        · exact HALL.out c hc
        · simp only [List.mem_singleton] at hc
          rw [List.getD_eq_getElem?_getD, List.getElem?_eq_getElem hlt] at hx
          rw [hc, ← show x = cs[k] from hx]
          exact ho)
      have HBAD := Lib.hid (show ∀ x, x = cs.getD k [] → ¬ okC x → ¬ ∀ c ∈ cs, okC c from fun x hx ho hall => by
        rw [List.getD_eq_getElem?_getD, List.getElem?_eq_getElem hlt] at hx
        exact ho (by rw [show x = cs[k] from hx]; exact hall _ (List.getElem_mem hlt)))
      obtain ⟨x, hx⟩ : ∃ x, x = cs.getD k [] := ⟨_, rfl⟩
      have HNX2 := Lib.hid (HNX.out x hx)
      have HBAD2 := Lib.hid (HBAD.out x hx)
      rw [← hx] at hcell HSUM
      obtain ⟨q, hq⟩ : ∃ q, q = sumC (cs.take k) := ⟨_, rfl⟩
      rw [← hq] at hsm HSUM ⊢
      clear hx hq HNX HBAD
      have hdk : decide (k < cs.length) = true := by simpa using hlt
      by_cases hx0 : x.length = 0
      · have HRR := Lib.hid (show chkC cs = 10 by rw [HR.out, if_pos (HBAD2.out (fun h => h.1 hx0))])
        have hxe : x = [] := List.eq_nil_of_length_eq_zero hx0
        subst hxe
        clear HR HNX2 HBAD2 hx0
        go_wp2_with fail
        go_ret
        exact ⟨by rw [HRR.out]; rfl, rfl⟩
      · have hdx : ((x.length : Int) == 0) = false := by rw [beq_eq_false_iff_ne]; omega
        by_cases hx2 : 256 < x.length
        · have HRR := Lib.hid (show chkC cs = 10 by rw [HR.out, if_pos (HBAD2.out (fun h => by have := h.2; omega))])
          have hdy : decide ((256 : Int) < (x.length : Int)) = true := by simp; omega
          clear HR HNX2 HBAD2
          go_wp2_with fail
          go_ret
          exact ⟨by rw [HRR.out]; rfl, rfl⟩
        · have hdy : decide ((256 : Int) < (x.length : Int)) = false := by simp; omega
          have HN := Lib.hid (HNX2.out ⟨hx0, by omega⟩)
          have hxle : x.length ≤ 256 := by omega
          clear HR HNX2 HBAD2
          go_wp2_with fail
          go_round
          case rel => exact ⟨k + 1, by omega, by go_num, by rw [HSUM.out]; go_num, by rw [HSUM.out]; omega, HN⟩
          case measure => simp [intOf]; omega
    · have ek : k = cs.length := by omega
      subst ek
      rw [List.take_length] at HALL hsm ⊢
      rw [if_neg (fun h => h HALL.out)] at HR
      obtain ⟨q, hq⟩ : ∃ q, q = sumC cs := ⟨_, rfl⟩
      rw [← hq] at HR hsm ⊢
      clear hq HALL
      have hdk : decide (cs.length < cs.length) = false := by simp
      by_cases hs : 32768 < q
      · have hds : decide ((32768 : Int) < (q : Int)) = true := by simp; omega
        rw [if_pos hs] at HR
        go_wp2_with fail
        go_ret
        exact ⟨by rw [HR.out]; rfl, rfl⟩
      · have hds : decide ((32768 : Int) < (q : Int)) = false := by simp; omega
        rw [if_neg hs] at HR
        go_wp2_with fail
        go_ret
        exact ⟨by rw [HR.out]; rfl, rfl⟩
end Go.Proofs.YtjdhcanblpifcaaDoor

/-
  MeshCast: the walk.
-/
import Derived.Test.YtbkknhlagohhhaaMsm11
namespace Go.Proofs.Ytbkknhlagohhhaa
open Go.RowKit Crv

/-- What waits when what f0 cast has come to the first k of n addresses. -/
def cq (n f0 : Nat) (s : List UInt8) (lo hi : Nat) : Nat → Nat → List (List UInt8) := fun t f => if f = f0 ∧ t ≠ f0 ∧ lo ≤ t ∧ t < hi ∧ t < n then [s] else []
theorem castM_is (n f0 : Nat) (s : List UInt8) (hf : f0 < n) (hs : s.length ≤ 100) : ∀ k, k ≤ n → (castM (newM n) f0 s k).q = cq n f0 s 0 k ∧ (castM (newM n) f0 s k).lost = 0
  | 0, _ => ⟨by funext t f; simp [castM, newM, cq], rfl⟩
  | k + 1, hk => by
    obtain ⟨h1, h2⟩ := castM_is n f0 s hf hs k (by omega)
    have hn := castM_n (newM n) f0 s k
    have hn' : (castM (newM n) f0 s k).n = n := hn
    by_cases e : (k : Int) = (f0 : Int)
    · have e2 : k = f0 := by omega
      rw [castM, if_pos e]
      refine ⟨?_, h2⟩
      rw [h1]
      funext t f
      unfold cq
      have : (f = f0 ∧ t ≠ f0 ∧ 0 ≤ t ∧ t < k ∧ t < n) ↔ (f = f0 ∧ t ≠ f0 ∧ 0 ≤ t ∧ t < k + 1 ∧ t < n) := by omega
      simp only [this]
    · have e2 : k ≠ f0 := by omega
      rw [castM, if_neg e]
      have hq : (castM (newM n) f0 s k).q k f0 = [] := by rw [h1]; simp [cq]
      rw [sendM_ok (by omega) (by omega) (by omega) (by rw [hq]; simp)]
      refine ⟨?_, h2⟩
      simp only
      rw [hq, h1]
      funext t f
      unfold upd2 cq
      by_cases h : t = k ∧ f = f0
      · obtain ⟨rfl, rfl⟩ := h
        rw [if_pos ⟨rfl, rfl⟩, if_pos (by omega)]
        rfl
      · rw [if_neg h]
        have : (f = f0 ∧ t ≠ f0 ∧ 0 ≤ t ∧ t < k ∧ t < n) ↔ (f = f0 ∧ t ≠ f0 ∧ 0 ≤ t ∧ t < k + 1 ∧ t < n) := by omega
        simp only [this]
/-- The mesh when the first k addresses have taken. -/
def tkM (n f0 : Nat) (s : List UInt8) : Nat → MS
  | 0 => castM (newM n) f0 s n
  | k + 1 => (takeI (tkM n f0 s k) k).1
theorem tkM_is (n f0 : Nat) (s : List UInt8) (hf : f0 < n) (hs : s.length ≤ 100) : ∀ k, k ≤ n → (tkM n f0 s k).n = n ∧ (tkM n f0 s k).q = cq n f0 s k n ∧ (tkM n f0 s k).lost = 0 ∧ (∀ j, j + 1 = k → (takeI (tkM n f0 s j) j).2 = if j = f0 then none else some (f0, s))
  | 0, _ => ⟨castM_n _ _ _ _, (castM_is n f0 s hf hs n (Nat.le_refl _)).1, (castM_is n f0 s hf hs n (Nat.le_refl _)).2, fun j hj => by omega⟩
  | k + 1, hk => by
    obtain ⟨h1, h2, h3, _⟩ := tkM_is n f0 s hf hs k (by omega)
    have hkn : k < (tkM n f0 s k).n := by omega
    have hst : tkM n f0 s (k + 1) = (takeI (tkM n f0 s k) k).1 := rfl
    by_cases e : k = f0
    · have hnx : nextM (tkM n f0 s k) k = none := nextM_empty fun f _ => by
        rw [h2]
        unfold cq
        rw [if_neg (by omega)]
      have ht := takeI_none hkn hnx
      rw [hst, ht]
      refine ⟨h1, ?_, h3, fun j hj => ?_⟩
      · rw [h2]
        funext t f
        unfold cq
        have : (f = f0 ∧ t ≠ f0 ∧ k ≤ t ∧ t < n ∧ t < n) ↔ (f = f0 ∧ t ≠ f0 ∧ k + 1 ≤ t ∧ t < n ∧ t < n) := by omega
        simp only [this]
      · have : j = k := by omega
        subst this
        rw [ht, if_pos e]
    · have hq : (tkM n f0 s k).q k f0 = [s] := by rw [h2]; unfold cq; rw [if_pos (by omega)]
      have hnx : nextM (tkM n f0 s k) k = some f0 := nextM_only (by omega) (by rw [hq]; simp) fun f' _ hne => by
        rw [h2]; unfold cq; rw [if_neg (by omega)]
      have ht := takeI_some hkn hnx
      rw [hst, ht]
      refine ⟨h1, ?_, h3, fun j hj => ?_⟩
      · show upd2 (tkM n f0 s k).q k f0 (((tkM n f0 s k).q k f0).eraseIdx 0) = _
        rw [hq, h2]
        funext t f
        unfold upd2 cq
        by_cases h : t = k ∧ f = f0
        · obtain ⟨rfl, rfl⟩ := h
          rw [if_pos ⟨rfl, rfl⟩, if_neg (by omega)]
          rfl
        · rw [if_neg h]
          have : (f = f0 ∧ t ≠ f0 ∧ k ≤ t ∧ t < n ∧ t < n) ↔ (f = f0 ∧ t ≠ f0 ∧ k + 1 ≤ t ∧ t < n ∧ t < n) := by omega
          simp only [this]
      · have : j = k := by omega
        subst this
        rw [ht, if_neg e, hq]
        rfl
theorem tkM_all (n f0 : Nat) (s : List UInt8) (hf : f0 < n) (hs : s.length ≤ 100) : allM (tkM n f0 s n) = 0 := by
  obtain ⟨h1, h2, _⟩ := tkM_is n f0 s hf hs n (Nat.le_refl _)
  refine allM_zero fun t f ht _ => ?_
  rw [h2]
  unfold cq
  rw [if_neg (by omega)]
theorem fromIs (fr : Int) (n : Nat) (h1 : 1 ≤ n) (h20 : n ≤ 20) : ∃ f0 : Nat, (wrap64 (fr.tmod (n : Int) + (n : Int))).tmod (n : Int) = (f0 : Int) ∧ f0 < n := by
  have ha := Int.tmod_lt_of_pos fr (b := (n : Int)) (by omega)
  have hb : -(n : Int) < fr.tmod (n : Int) := by
    rcases Int.le_total 0 fr with h | h
    · have := Int.tmod_nonneg (n : Int) h
      omega
    · have h2 := Int.neg_tmod (a := fr) (b := (n : Int))
      have h3 := Int.tmod_lt_of_pos (-fr) (b := (n : Int)) (by omega)
      omega
  obtain ⟨r, hr⟩ : ∃ r, r = fr.tmod (n : Int) := ⟨_, rfl⟩
  rw [← hr] at ha hb ⊢
  rw [IntWalk.wrap64_in _ (by omega), Int.tmod_eq_emod_of_nonneg (by omega)]
  have h4 := Int.emod_nonneg (r + n) (b := (n : Int)) (by omega)
  have h5 := Int.emod_lt_of_pos (r + n) (b := (n : Int)) (by omega)
  exact ⟨((r + n) % (n : Int)).toNat, by omega, by omega⟩
set_option maxHeartbeats 2000000 in
set_option maxRecDepth 100000 in
theorem meshCast_walk (n0 fr : Int) (l : List UInt8) (W : World) :
    Calls Try.prog 11 #[.int .i64 n0, .int .i64 fr, .string (str l)] W fun e w' => e = .returned (.bool true) ∧ Below W.heap.size W w' := by
  have HAW := Lib.hid (awake18_any W)
  obtain ⟨n, hn⟩ : ∃ n : Nat, min (max n0 1) 20 = (n : Int) := ⟨(min (max n0 1) 20).toNat, by omega⟩
  have hn20 : n ≤ 20 := by omega
  have hn1 : 1 ≤ n := by omega
  have HN := Lib.hid hn
  have HCUT := Lib.hid (fun w => cutB l 100 (by omega) w)
  obtain ⟨s, hs⟩ : ∃ s, s = l.take (100 : Int).toNat := ⟨_, rfl⟩
  have HSL : Hid (s.length ≤ 100) := Lib.hid (by rw [hs, List.length_take]; show min 100 _ ≤ 100; omega)
  rw [← hs] at HCUT
  clear hn hs
  go_enter Try.func11, Try.ntmps11
  go_wp2_with fail
  refine HAW.out.mono ?_
  rintro e w1 ⟨rfl, hb1⟩
  have HB1 := Lib.hid hb1
  clear HAW hb1
  go_wp2_with fail
  refine (HCUT.out w1).mono ?_
  rintro e w ⟨rfl, rfl⟩
  go_wp2_with (first
    | (refine wp_max0 (c := n0) (d := 1) (.tmp 15) (.const (.int .i64 1)) rfl rfl rfl rfl ?_)
    | (refine wp_min0 (c := max n0 1) (d := 20) (.tmp 16) (.const (.int .i64 20)) HN.out rfl rfl rfl rfl ?_)
    | fail)
  obtain ⟨f0, hf0, hfn⟩ := fromIs fr n hn1 hn20
  simp only [hf0]
  have HNEW := Lib.hid (mnew_ex (W := w1) (base := W.heap.size) (n : Int) n (by omega) HB1.out.size)
  refine HNEW.out.mono ?_
  rintro e w2 ⟨rfl, hx, hb⟩
  have HB2 := Lib.hid (HB1.out.trans (hb.mono HB1.out.size))
  have HCA := Lib.hid (cast_ex hx HB2.out.size (by simp) (Nat.zero_le _) (f0 : Int) s)
  clear HNEW hx hb HCUT HB1 hf0
  go_wp2_with fail
  refine HCA.out.mono ?_
  rintro e w3 ⟨rfl, hx, hf⟩
  have HX : Hid (Mx w3 (Ex W.heap.size []) (w1.heap.size + 1) (tkM n f0 s 0) ∧ Below W.heap.size W w3) := Lib.hid ⟨hx, HB2.out.trans (hf.ex HB2.out.size)⟩
  have HTK := Lib.hid (tkM_is n f0 s hfn HSL.out)
  clear hx hf HCA HB2
  go_wp2_with fail
  go_loopw [32] (fun i wr => ∃ k : Nat, k ≤ n ∧ i = .int .i64 k ∧ Hid (Mx wr (Ex W.heap.size []) (w1.heap.size + 1) (tkM n f0 s k) ∧ Below W.heap.size W wr)) (fun i _ => n - (intOf i).toNat)
  case atStart => exact ⟨0, by omega, rfl, HX⟩
  case round =>
    obtain ⟨k, hk, rfl, HR⟩ := hrel
    clear HX
    by_cases hlt : k < n
    · have hd : decide ((k : Int) < (n : Int)) = true := by simp; omega
      have HT := Lib.hid (take_ex HR.out.1 HR.out.2.size (by simp) (k : Int))
      have hres := (HTK.out (k + 1) (by omega)).2.2.2 k rfl
      by_cases hkf : k = f0
      · rw [if_pos hkf] at hres
        rw [hres, pkL_none] at HT
        subst hkf
        have hne : ((k : Int) != (k : Int)) = false := by simp
        clear hres
        go_wp2_with fail
        refine HT.out.mono ?_
        rintro e w4 ⟨rfl, hx, hf⟩
        have hB4 := HR.out.2.trans (hf.ex HR.out.2.size)
        have hA := belowSelf w4 (.cells #[.int .i64 0, tx []] Tpk)
        have HX : Hid (Mx (w4.alloc (.cells #[.int .i64 0, tx []] Tpk)) (Ex W.heap.size []) (w1.heap.size + 1) (tkM n k s (k + 1)) ∧ Below W.heap.size W (w4.alloc (.cells #[.int .i64 0, tx []] Tpk))) := Lib.hid ⟨hx.below hA, hB4.trans (hA.mono hB4.size)⟩
        clear hx hf HT hB4 hA
        go_wp2_with fail
        refine ⟨⟨k + 1, by omega, by go_num, HX⟩, ?_⟩
        simp [intOf]; omega
      · rw [if_neg hkf] at hres
        rw [hres, pkL_some] at HT
        have hne : ((k : Int) != (f0 : Int)) = true := by
          rw [bne_iff_ne]
          omega
        clear hres
        go_wp2_with fail
        refine HT.out.mono ?_
        rintro e w4 ⟨rfl, hx, hf⟩
        have hB4 := HR.out.2.trans (hf.ex HR.out.2.size)
        have hA := belowSelf w4 (.cells #[.int .i64 (f0 : Int), tx s] Tpk)
        have HX : Hid (Mx (w4.alloc (.cells #[.int .i64 (f0 : Int), tx s] Tpk)) (Ex W.heap.size []) (w1.heap.size + 1) (tkM n f0 s (k + 1)) ∧ Below W.heap.size W (w4.alloc (.cells #[.int .i64 (f0 : Int), tx s] Tpk))) := Lib.hid ⟨hx.below hA, hB4.trans (hA.mono hB4.size)⟩
        clear hx hf HT hB4 hA
        go_wp2_with fail
        refine ⟨⟨k + 1, by omega, by go_num, HX⟩, ?_⟩
        simp [intOf]; omega
    · have e : k = n := by omega
      subst e
      have hd : decide ((k : Int) < (k : Int)) = false := by simp
      have HA := Lib.hid (all_mx HR.out.1)
      rw [tkM_all k f0 s hfn HSL.out] at HA
      have hlost := (HTK.out k (Nat.le_refl _)).2.2.1
      go_wp2_with fail
      refine HA.out.mono ?_
      rintro e w4 ⟨rfl, hb⟩
      have HB4 := Lib.hid (HR.out.2.trans (hb.mono HR.out.2.size))
      have HLO := Lib.hid (lost_mx (HR.out.1.below hb))
      rw [hlost] at HLO
      clear hb hlost
      go_wp2_with fail
      refine HLO.out.mono ?_
      rintro e w5 ⟨rfl, rfl⟩
      go_wp2_with fail
      go_ret
      exact ⟨rfl, HB4.out⟩
end Go.Proofs.Ytbkknhlagohhhaa

/-
  Package merkle: Size, maxPart, Check; the reference's most, Check.
-/
import Derived.Test.YtjdhcanblpifcaaDoorMRefA
import Derived.Test.YtjdhcanblpifcaaDoorRow
import Derived.Test.YtjdhcanblpifcaaDoorMm
namespace Go.Proofs.YtjdhcanblpifcaaDoor
open Go.RowKit Crv

abbrev Tpt : TypeId := 43
/-- A part's cells. -/
def ptC (p : Pt) : List Value := p.1.map byteV ++ [.int .i64 p.2]
theorem length_ptC (p : Pt) (h : p.1.length = 32) : (ptC p).length = 33 := by simp [ptC, h]
theorem one_ptC (p : Pt) : ∀ u ∈ ptC p, u.oneCell' = true := by
  intro u hu
  rcases List.mem_append.1 hu with hu | hu
  · exact oneBytes _ u hu
  · simp only [List.mem_singleton] at hu
    subst hu
    rfl
theorem sz_pt (p : Pt) (h : p.1.length = 32) : (Tryd.prog.info? Tpt).map (·.size) = some (ptC p).length := by rw [length_ptC p h]; kernel_rfl
/-- A slice value that reads as parts. -/
def Pts (w : World) (v : Value) (ps : List Pt) : Prop := (∀ p ∈ ps, p.1.length = 32) ∧ Rd w 33 v (ps.map ptC)
theorem Pts.below {w w' : World} {v : Value} {ps : List Pt} (h : Pts w v ps) (hb : Below w.heap.size w w') : Pts w' v ps := ⟨h.1, h.2.below hb⟩
theorem Pts.form {w : World} {v : Value} {ps : List Pt} (h : Pts w v ps) : ∃ a cap, v = .slice a ps.length cap ∧ ps.length ≤ cap ∧ ∀ i (hi : i < ps.length), ∃ g off, a = some ⟨g, off, none⟩ ∧ g < w.heap.size ∧ w.rangeAt g (off + i * 33) (ptC ps[i]) := by
  obtain ⟨a, cap, hv, hcap, hc⟩ := h.2
  rw [List.length_map] at hv hcap
  refine ⟨a, cap, hv, hcap, fun i hi => ?_⟩
  obtain ⟨g, off, h1, h2, h3⟩ := hc i (by rw [List.length_map]; exact hi)
  rw [List.getElem_map] at h3
  exact ⟨g, off, h1, h2, h3⟩
theorem sumP_take_succ (ps : List Pt) (k : Nat) (h : k < ps.length) : sumP (ps.take (k + 1)) = sumP (ps.take k) + ps[k].2 := by
  rw [List.take_succ_eq_append_getElem h]
  show ((ps.take k ++ [ps[k]]).map (·.2)).sum = ((ps.take k).map (·.2)).sum + ps[k].2
  rw [List.map_append, List.sum_append]
  simp only [List.map_cons, List.map_nil, List.sum_cons, List.sum_nil, Int.add_zero]
/-- Sums of few sizes stay small. -/
def Small (ps : List Pt) : Prop := ∀ k, k ≤ ps.length → -1152921504606846976 ≤ sumP (ps.take k) ∧ sumP (ps.take k) ≤ 1152921504606846976
theorem zcells_len : (List.replicate 32 (byteV 0) ++ [Value.int .i64 0]).length = 33 := by simp

set_option maxRecDepth 100000 in
set_option maxHeartbeats 1000000 in
theorem size_any (lv : Int) (v : Value) (ps : List Pt) (w : World) (h : Pts w v ps) (hs : Small ps) (hb : ∀ p ∈ ps, -1152921504606846976 ≤ p.2 ∧ p.2 ≤ 1152921504606846976) (hn : ps.length ≤ 1000000) :
    Calls Tryd.prog 61 #[.agg #[.int .i64 lv, v]] w fun e w' => e = .returned (.int .i64 (sumP ps)) ∧ Below w.heap.size w w' := by
  obtain ⟨a, cap, rfl, hcap, hc⟩ := h.form
  have HB := Lib.hid (belowSelf w (.cells #[.int .i64 lv, .slice a ps.length cap] 25))
  have HP := Lib.hid h
  have HS := Lib.hid hs
  have HBD := Lib.hid hb
  clear hc h hs hb
  go_enter Tryd.func61, Tryd.ntmps61
  go_wp2_with fail
  go_loopw [3, 9] (fun s i wr => ∃ k : Nat, k ≤ ps.length ∧ i = .int .i64 k ∧ s = .int .i64 (sumP (ps.take k)) ∧ Below w.heap.size w wr) (fun _ i _ => ps.length - (intOf i).toNat)
  case atStart => exact ⟨0, by omega, rfl, rfl, HB.out⟩
  case round =>
    obtain ⟨k, hk, rfl, rfl, hb⟩ := hrel
    by_cases hlt : k < ps.length
    · obtain ⟨a', cap', hv', -, hc'⟩ := (HP.out.below hb).form
      injection hv' with h1 h2 h3
      obtain ⟨g, off, ha, hgl, hrng⟩ := hc' k hlt
      rw [← h1] at ha
      subst ha
      have HSUM := Lib.hid (sumP_take_succ ps k hlt)
      have hsm := HS.out k (by omega)
      obtain ⟨p, hp⟩ : ∃ p, p = ps[k] := ⟨_, rfl⟩
      have hp32 := HP.out.1 p (by rw [hp]; exact List.getElem_mem hlt)
      have hpb := HBD.out p (by rw [hp]; exact List.getElem_mem hlt)
      rw [← hp] at hrng HSUM
      have HRNG := Lib.hid hrng
      have SZ := Lib.hid (sz_pt p hp32)
      have HZ := Lib.hid (show (List.replicate 32 (byteV 0) ++ [Value.int .i64 0]).length = (ptC p).length by rw [length_ptC p hp32]; rfl)
      have ONE := Lib.hid (one_ptC p)
      have HC32 := Lib.hid (show (ptC p)[32]? = some (.int .i64 p.2) by simp [ptC, hp32])
      obtain ⟨q, hq⟩ : ∃ q, q = sumP (ps.take k) := ⟨_, rfl⟩
      rw [← hq] at hsm HSUM ⊢
      clear hp h1 h2 h3 hc' hrng hp32 hq
      have hd : decide (k < ps.length) = true := by simpa using hlt
      go_wp2_with (first
        | (refine wp_load_row HRNG.out Tpt (.tmp 11) _ rfl rfl rfl Tryd.underlying43 rfl SZ.out ?_)
        | (refine wp_store_gen (B := wr.heap.size) (w0 := wr) (belowSelf wr _) (Nat.le_refl _) (Mem.newAt wr Tpt (List.replicate 32 (byteV 0) ++ [.int .i64 0]) rfl) (ptC p) Tpt (.tmp 5) (.tmp 12) rfl rfl rfl rfl SZ.out HZ.out ONE.out ?_
           intro W2 hm2 hb2 hz2 hk2
           have hc2 : W2.cell? ⟨wr.heap.size, 32, none⟩ = some (.int .i64 p.2) := (hm2.cell 32).trans HC32.out
           have hb02 := belowThen hb hb2
           clear hm2 hb2 hz2 hk2)
        | fail)
      go_roundw
      case rel => exact ⟨k + 1, by omega, by go_num, by rw [HSUM.out], hb02⟩
      case measure => simp [intOf]; omega
    · have ek : k = ps.length := by omega
      subst ek
      rw [List.take_length]
      go_wp2
      go_ret
      exact ⟨rfl, hb⟩

theorem most_min (k : Nat) : min ((256 * 8 ^ k : Nat) : Int) 32768 = ((mostOf (k + 1) : Nat) : Int) := by
  unfold mostOf
  rw [Nat.add_sub_cancel]
  omega
theorem pow_le8 {k : Nat} (h : k ≤ 7) : 8 ^ k ≤ 2097152 := by
  have : 8 ^ k ≤ 8 ^ 7 := Nat.pow_le_pow_right (by omega) h
  omega
set_option maxRecDepth 100000 in
theorem maxPart_any (n : Nat) (h1 : 1 ≤ n) (h8 : n ≤ 8) (w : World) :
    Calls Tryd.prog 60 #[.int .i64 (n : Int)] w fun e w' => e = .returned (.int .i64 (mostOf n : Int)) ∧ w = w' := by
  obtain ⟨m, rfl⟩ : ∃ m, n = m + 1 := ⟨n - 1, by omega⟩
  have hu : IntKind.i64.wrap (((m + 1 : Nat) : Int) - 1) = (m : Int) := by rw [IntKind.wrap_i64]; omega
  go_enter Tryd.func60, Tryd.ntmps60
  go_wp2_with fail
  go_loop [3, 6] (fun q i => ∃ k : Nat, k ≤ m ∧ i = .int .i64 k ∧ q = .int .i64 ((256 * 8 ^ k : Nat) : Int)) (fun _ i => m - (intOf i).toNat)
  case atStart => exact ⟨0, by omega, rfl, rfl⟩
  case round =>
    obtain ⟨k, hk, rfl, rfl⟩ := hrel
    have hp := pow_le8 (show k ≤ 7 by omega)
    by_cases hlt : k < m
    · have HE := Lib.hid (show 256 * 8 ^ (k + 1) = 256 * 8 ^ k * 8 by rw [Nat.pow_succ]; omega)
      obtain ⟨q, hq⟩ : ∃ q, q = 8 ^ k := ⟨_, rfl⟩
      rw [← hq] at hp HE ⊢
      clear hq
      have hd : decide ((k : Int) < (m : Int)) = true := by simp; omega
      have hkm : (k : Int) < (m : Int) := by omega
      go_wp2_with fail
      go_round
      case rel => exact ⟨k + 1, by omega, by go_num, by rw [HE.out]; go_num⟩
      case measure => simp [intOf]; omega
    · have ek : k = m := by omega
      subst ek
      have HM := Lib.hid (show min (256 * ((8 ^ k : Nat) : Int)) 32768 = ((mostOf (k + 1) : Nat) : Int) by rw [← most_min k]; push_cast; rfl)
      obtain ⟨q, hq⟩ : ∃ q, q = 8 ^ k := ⟨_, rfl⟩
      rw [← hq] at hp HM ⊢
      clear hq
      have hd : decide ((k : Int) < (k : Int)) = false := by simp
      have hkm : ¬ ((k : Int) < (k : Int)) := by omega
      go_wp2_with (first | (refine wp_min0 (c := 256 * (q : Int)) (d := 32768) (.tmp 11) (.const (.int .i64 32768)) HM.out rfl rfl rfl rfl ?_) | fail)
      go_ret
      exact ⟨rfl, rfl⟩
set_option maxRecDepth 100000 in
theorem most_any (n : Nat) (h1 : 1 ≤ n) (h8 : n ≤ 8) (w : World) :
    Calls Tryd.prog 63 #[.int .i64 (n : Int)] w fun e w' => e = .returned (.int .i64 (mostOf n : Int)) ∧ w = w' := by
  obtain ⟨m, rfl⟩ : ∃ m, n = m + 1 := ⟨n - 1, by omega⟩
  go_enter Tryd.func63, Tryd.ntmps63
  go_wp2_with fail
  go_loop [3, 4] (fun q i => ∃ k : Nat, k ≤ m ∧ i = .int .i64 ((k : Int) + 1) ∧ q = .int .i64 ((256 * 8 ^ k : Nat) : Int)) (fun _ i => m + 1 - (intOf i).toNat)
  case atStart => exact ⟨0, by omega, rfl, rfl⟩
  case round =>
    obtain ⟨k, hk, rfl, rfl⟩ := hrel
    have hp := pow_le8 (show k ≤ 7 by omega)
    by_cases hlt : k < m
    · have HE := Lib.hid (show 256 * 8 ^ (k + 1) = 256 * 8 ^ k * 8 by rw [Nat.pow_succ]; omega)
      obtain ⟨q, hq⟩ : ∃ q, q = 8 ^ k := ⟨_, rfl⟩
      rw [← hq] at hp HE ⊢
      clear hq
      have hd : decide ((k : Int) + 1 < (m : Int) + 1) = true := by simp; omega
      have hkm : (k : Int) + 1 < (m : Int) + 1 := by omega
      go_wp2_with fail
      go_round
      case rel => exact ⟨k + 1, by omega, by go_num, by rw [HE.out]; go_num⟩
      case measure => simp [intOf]; omega
    · have ek : k = m := by omega
      subst ek
      have HM := Lib.hid (show min (256 * ((8 ^ k : Nat) : Int)) 32768 = ((mostOf (k + 1) : Nat) : Int) by rw [← most_min k]; push_cast; rfl)
      obtain ⟨q, hq⟩ : ∃ q, q = 8 ^ k := ⟨_, rfl⟩
      rw [← hq] at hp HM ⊢
      clear hq
      go_wp2_with (first | (refine wp_min0 (c := 256 * (q : Int)) (d := 32768) (.tmp 12) (.const (.int .i64 32768)) HM.out rfl rfl rfl rfl ?_) | fail)
      go_ret
      exact ⟨rfl, rfl⟩

/-! ### Check -/
theorem badPart_step {most : Int} {ps : List Pt} {k : Nat} (h : badPart most ps = badPart most (ps.drop k)) (hk : k < ps.length) : badPart most ps = if ps[k].2 < 1 then 2 else if most < ps[k].2 then 5 else badPart most (ps.drop (k + 1)) := by
  rw [h, List.drop_eq_getElem_cons hk]
  rfl
theorem small_of {ps : List Pt} (h : ∀ p ∈ ps, 1 ≤ p.2 ∧ p.2 ≤ 32768) (hn : ps.length ≤ 8) : Small ps ∧ ∀ p ∈ ps, -1152921504606846976 ≤ p.2 ∧ p.2 ≤ 1152921504606846976 := by
  refine ⟨fun k hk => ?_, fun p hp => by have := h p hp; omega⟩
  have key : ∀ l : List Pt, (∀ p ∈ l, 1 ≤ p.2 ∧ p.2 ≤ 32768) → 0 ≤ sumP l ∧ sumP l ≤ 32768 * (l.length : Int) := by
    intro l
    induction l with
    | nil => intro _; simp [sumP]
    | cons p r ih =>
      intro hl
      have h1 := hl p (by simp)
      have h2 := ih (fun q hq => hl q (by simp [hq]))
      have e : sumP (p :: r) = p.2 + sumP r := by simp [sumP]
      rw [e, List.length_cons]
      push_cast
      omega
  have h3 := key (ps.take k) (fun p hp => h p (List.mem_of_mem_take hp))
  have h4 := List.length_take_le k ps
  rw [List.length_take] at h3
  omega
set_option maxRecDepth 100000 in
set_option maxHeartbeats 2000000 in
theorem chk_any (lv : Int) (v : Value) (ps : List Pt) (w : World) (h : Pts w v ps) (hn : ps.length ≤ 1000000) :
    Calls Tryd.prog 34 #[.agg #[.int .i64 lv, v]] w fun e w' => e = .returned (.int .i64 (chkN lv ps)) ∧ Below w.heap.size w w' := by
  obtain ⟨a, cap, rfl, hcap, hc⟩ := h.form
  have HB := Lib.hid (belowSelf w (.cells #[.int .i64 lv, .slice a ps.length cap] 25))
  have HP := Lib.hid h
  clear hc h
  by_cases hl1 : lv < 1
  · have HR := Lib.hid (show chkN lv ps = 2 by unfold chkN; rw [if_pos (.inl hl1)])
    rw [HR.out]
    clear HR
    have hd : decide (lv < 1) = true := by simpa using hl1
    go_enter Tryd.func34, Tryd.ntmps34
    go_wp2_with fail
    go_ret
    exact ⟨rfl, HB.out⟩
  by_cases hl8 : 8 < lv
  · have HR := Lib.hid (show chkN lv ps = 2 by unfold chkN; rw [if_pos (.inr (.inl hl8))])
    rw [HR.out]
    clear HR
    have hd : decide (lv < 1) = false := by simpa using hl1
    have hd8 : decide (8 < lv) = true := by simpa using hl8
    go_enter Tryd.func34, Tryd.ntmps34
    go_wp2_with fail
    go_ret
    exact ⟨rfl, HB.out⟩
  obtain ⟨n, rfl⟩ := Int.eq_ofNat_of_zero_le (show 0 ≤ lv by omega)
  by_cases h0 : ps.length = 0
  · have hps : ps = [] := List.eq_nil_of_length_eq_zero h0
    have HR := Lib.hid (show chkN n ps = 2 by unfold chkN; rw [if_pos (.inr (.inr hps))])
    rw [HR.out]
    clear HR
    have hd : decide ((n : Int) < 1) = false := by simpa using hl1
    have hd8 : decide (8 < (n : Int)) = false := by simpa using hl8
    rw [h0]
    rw [h0] at HB
    clear hps HP
    go_enter Tryd.func34, Tryd.ntmps34
    go_wp2_with fail
    go_ret
    exact ⟨rfl, HB.out⟩
  have hne : ps ≠ [] := fun e => h0 (by rw [e]; rfl)
  have hd : decide ((n : Int) < 1) = false := by simpa using hl1
  have hd8 : decide (8 < (n : Int)) = false := by simpa using hl8
  have hd0 : ((ps.length : Int) == 0) = false := by rw [beq_eq_false_iff_ne]; omega
  by_cases hm : 8 < ps.length
  · have HR := Lib.hid (show chkN n ps = 5 by unfold chkN; rw [if_neg (fun hc => hc.elim hl1 (fun hc => hc.elim hl8 hne)), if_pos hm])
    rw [HR.out]
    clear HR hne
    have hdm : decide ((8 : Int) < (ps.length : Int)) = true := by simp; omega
    go_enter Tryd.func34, Tryd.ntmps34
    go_wp2_with fail
    go_ret
    exact ⟨rfl, HB.out⟩
  have HR := Lib.hid (show chkN n ps = if badPart (mostOf n) ps ≠ 0 then badPart (mostOf n) ps else if 32768 < sumP ps then 5 else 0 by
    unfold chkN
    rw [if_neg (fun hc => hc.elim hl1 (fun hc => hc.elim hl8 hne)), if_neg hm, Int.toNat_natCast])
  have hdm : decide ((8 : Int) < (ps.length : Int)) = false := by simp; omega
  have HMX := Lib.hid (fun W => maxPart_any n (by omega) (by omega) W)
  have hmo := mostOf_le n
  obtain ⟨mo, hmo'⟩ : ∃ m, m = mostOf n := ⟨_, rfl⟩
  rw [← hmo'] at HR HMX hmo
  clear hmo' hne
  go_enter Tryd.func34, Tryd.ntmps34
  go_wp2_with fail
  refine (HMX.out _).mono ?_
  rintro e w1 ⟨rfl, rfl⟩
  go_wp2_with fail
  obtain ⟨W1, hW1⟩ : ∃ W, W = w.alloc (.cells #[.int .i64 (n : Int), .slice a ps.length cap] 25) := ⟨_, rfl⟩
  have hcn0 : W1.cell? ⟨w.heap.size, 0, none⟩ = some (.int .i64 (n : Int)) := by rw [hW1]; exact (Mem.new w 25 [.int .i64 (n : Int), .slice a ps.length cap]).cell 0
  have hcn1 : W1.cell? ⟨w.heap.size, 1, none⟩ = some (.slice a ps.length cap) := by rw [hW1]; exact (Mem.new w 25 [.int .i64 (n : Int), .slice a ps.length cap]).cell 1
  have hws : w.heap.size < W1.heap.size := by rw [hW1]; simp
  rw [← hW1] at HB
  rw [← hW1]
  clear hW1 HMX
  go_loopw [30] (fun i wr => ∃ k : Nat, k ≤ ps.length ∧ i = .int .i64 k ∧ Below W1.heap.size W1 wr ∧ Hid (badPart mo ps = badPart mo (ps.drop k))) (fun i _ => ps.length - (intOf i).toNat)
  case atStart => exact ⟨0, by omega, rfl, Below.refl _ _, Lib.hid rfl⟩
  case round =>
    obtain ⟨k, hk, rfl, hb, HBP⟩ := hrel
    by_cases hlt : k < ps.length
    · obtain ⟨a', cap', hv', -, hc'⟩ := (HP.out.below (belowThen HB.out hb)).form
      injection hv' with h1 h2 h3
      obtain ⟨g, off, ha, hgl, hrng⟩ := hc' k hlt
      rw [← h1] at ha
      subst ha
      have HST := Lib.hid (badPart_step HBP.out hlt)
      obtain ⟨p, hp⟩ : ∃ p, p = ps[k] := ⟨_, rfl⟩
      have hp32 := HP.out.1 p (by rw [hp]; exact List.getElem_mem hlt)
      rw [← hp] at hrng HST
      have HRNG := Lib.hid hrng
      have SZ := Lib.hid (sz_pt p hp32)
      have HZ := Lib.hid (show (List.replicate 32 (byteV 0) ++ [Value.int .i64 0]).length = (ptC p).length by rw [length_ptC p hp32]; rfl)
      have ONE := Lib.hid (one_ptC p)
      have HC32 := Lib.hid (show (ptC p)[32]? = some (.int .i64 p.2) by simp [ptC, hp32])
      clear hp h1 h2 h3 hc' hrng hp32
      have hdk : decide (k < ps.length) = true := by simpa using hlt
      by_cases hp1 : p.2 < 1
      · have hdp : decide (p.2 < 1) = true := by simpa using hp1
        have HRR := Lib.hid (show chkN n ps = 2 by rw [HR.out, HST.out]; simp [hp1])
        clear HST HR HBP
        go_wp2_with (first
          | (refine wp_load_row HRNG.out Tpt (.tmp 32) _ rfl rfl rfl Tryd.underlying43 rfl SZ.out ?_)
          | (refine wp_store_gen (B := wr.heap.size) (w0 := wr) (belowSelf wr _) (Nat.le_refl _) (Mem.newAt wr Tpt (List.replicate 32 (byteV 0) ++ [.int .i64 0]) rfl) (ptC p) Tpt (.tmp 5) (.tmp 33) rfl rfl rfl rfl SZ.out HZ.out ONE.out ?_
             intro W2 hm2 hb2 hz2 hk2
             have hc2 : W2.cell? ⟨wr.heap.size, 32, none⟩ = some (.int .i64 p.2) := (hm2.cell 32).trans HC32.out
             have hb02 := belowThen hb hb2
             clear hm2 hb2 hz2 hk2)
          | fail)
        go_ret
        exact ⟨by rw [HRR.out]; rfl, belowThen HB.out hb02⟩
      · have hdp : decide (p.2 < 1) = false := by simpa using hp1
        by_cases hpm : (mo : Int) < p.2
        · have hdq : decide ((mo : Int) < p.2) = true := by simpa using hpm
          have HRR := Lib.hid (show chkN n ps = 5 by rw [HR.out, HST.out]; simp [hp1, hpm])
          clear HST HR HBP
          go_wp2_with (first
            | (refine wp_load_row HRNG.out Tpt (.tmp 32) _ rfl rfl rfl Tryd.underlying43 rfl SZ.out ?_)
            | (refine wp_store_gen (B := wr.heap.size) (w0 := wr) (belowSelf wr _) (Nat.le_refl _) (Mem.newAt wr Tpt (List.replicate 32 (byteV 0) ++ [.int .i64 0]) rfl) (ptC p) Tpt (.tmp 5) (.tmp 33) rfl rfl rfl rfl SZ.out HZ.out ONE.out ?_
               intro W2 hm2 hb2 hz2 hk2
               have hc2 : W2.cell? ⟨wr.heap.size, 32, none⟩ = some (.int .i64 p.2) := (hm2.cell 32).trans HC32.out
               have hb02 := belowThen hb hb2
               clear hm2 hb2 hz2 hk2)
            | fail)
          go_ret
          exact ⟨by rw [HRR.out]; rfl, belowThen HB.out hb02⟩
        · have hdq : decide ((mo : Int) < p.2) = false := by simpa using hpm
          have HBP2 := Lib.hid (show badPart mo ps = badPart mo (ps.drop (k + 1)) by rw [HST.out, if_neg hp1, if_neg hpm])
          clear HST
          go_wp2_with (first
            | (refine wp_load_row HRNG.out Tpt (.tmp 32) _ rfl rfl rfl Tryd.underlying43 rfl SZ.out ?_)
            | (refine wp_store_gen (B := wr.heap.size) (w0 := wr) (belowSelf wr _) (Nat.le_refl _) (Mem.newAt wr Tpt (List.replicate 32 (byteV 0) ++ [.int .i64 0]) rfl) (ptC p) Tpt (.tmp 5) (.tmp 33) rfl rfl rfl rfl SZ.out HZ.out ONE.out ?_
               intro W2 hm2 hb2 hz2 hk2
               have hc2 : W2.cell? ⟨wr.heap.size, 32, none⟩ = some (.int .i64 p.2) := (hm2.cell 32).trans HC32.out
               have hb02 := belowThen hb hb2
               clear hm2 hb2 hz2 hk2)
            | fail)
          go_roundw
          case rel => exact ⟨k + 1, by omega, by go_num, hb02, HBP2⟩
          case measure => simp [intOf]; omega
    · have ek : k = ps.length := by omega
      subst ek
      have hbp : badPart mo ps = 0 := by rw [HBP.out, List.drop_length]; rfl
      have hall := badPart_zero hbp
      have hsm := small_of (fun p hp => by have := hall p hp; omega) (by omega)
      have HSZ := Lib.hid (size_any (n : Int) (.slice a ps.length cap) ps wr (HP.out.below (belowThen HB.out hb)) hsm.1 hsm.2 hn)
      have hdk : decide (ps.length < ps.length) = false := by simp
      have hcw0 : wr.cell? ⟨w.heap.size, 0, none⟩ = some (.int .i64 (n : Int)) := (hb.cell (p := ⟨w.heap.size, 0, none⟩) hws).trans hcn0
      have hcw1 : wr.cell? ⟨w.heap.size, 1, none⟩ = some (.slice a ps.length cap) := (hb.cell (p := ⟨w.heap.size, 1, none⟩) hws).trans hcn1
      rw [hbp] at HR
      simp only [ne_eq, not_true_eq_false, if_false] at HR
      have HBB := Lib.hid (belowThen HB.out hb)
      obtain ⟨q, hq⟩ : ∃ q, q = sumP ps := ⟨_, rfl⟩
      rw [← hq] at HR HSZ
      clear hq hall hsm hbp HBP hcn0 hcn1
      by_cases hs : 32768 < q
      · have hds : decide (32768 < q) = true := by simpa using hs
        rw [if_pos hs] at HR
        go_wp2_with fail
        refine HSZ.out.mono ?_
        rintro e w2 ⟨rfl, hb2⟩
        go_wp2_with fail
        go_ret
        exact ⟨by rw [HR.out]; rfl, belowThen HBB.out hb2⟩
      · have hds : decide (32768 < q) = false := by simpa using hs
        rw [if_neg hs] at HR
        go_wp2_with fail
        refine HSZ.out.mono ?_
        rintro e w2 ⟨rfl, hb2⟩
        go_wp2_with fail
        go_ret
        exact ⟨by rw [HR.out]; rfl, belowThen HBB.out hb2⟩

/-! ### The reference's Check -/
abbrev Trp : TypeId := 48
def rpC (p : Pt) : List Value := [.string (str p.1), .int .i64 p.2]
/-- A slice value that reads as the reference's parts. -/
def RPts (w : World) (v : Value) (ps : List Pt) : Prop := Rd w 2 v (ps.map rpC)
theorem RPts.below {w w' : World} {v : Value} {ps : List Pt} (h : RPts w v ps) (hb : Below w.heap.size w w') : RPts w' v ps := Rd.below h hb
theorem RPts.form {w : World} {v : Value} {ps : List Pt} (h : RPts w v ps) : ∃ a cap, v = .slice a ps.length cap ∧ ps.length ≤ cap ∧ ∀ i (hi : i < ps.length), ∃ g off, a = some ⟨g, off, none⟩ ∧ g < w.heap.size ∧ w.cell? ⟨g, off + i * 2, none⟩ = some (.string (str ps[i].1)) ∧ w.cell? ⟨g, off + i * 2 + 1, none⟩ = some (.int .i64 ps[i].2) := by
  obtain ⟨a, cap, hv, hcap, hc⟩ := h
  rw [List.length_map] at hv hcap
  refine ⟨a, cap, hv, hcap, fun i hi => ?_⟩
  obtain ⟨g, off, h1, h2, h3⟩ := hc i (by rw [List.length_map]; exact hi)
  rw [List.getElem_map] at h3
  exact ⟨g, off, h1, h2, h3 0 _ rfl, h3 1 _ rfl⟩
set_option maxRecDepth 100000 in
set_option maxHeartbeats 2000000 in
theorem rchk_any (lv : Int) (v : Value) (ps : List Pt) (w : World) (h : RPts w v ps) (hn : ps.length ≤ 1000000) :
    Calls Tryd.prog 38 #[.agg #[.int .i64 lv, v]] w fun e w' => e = .returned (.int .i64 (chkN lv ps)) ∧ Below w.heap.size w w' := by
  obtain ⟨a, cap, rfl, hcap, hc⟩ := h.form
  have HB := Lib.hid (belowSelf w (.cells #[.int .i64 lv, .slice a ps.length cap] 31))
  have HP := Lib.hid h
  clear hc h
  by_cases hl1 : lv < 1
  · have HR := Lib.hid (show chkN lv ps = 2 by unfold chkN; rw [if_pos (.inl hl1)])
    rw [HR.out]
    clear HR
    have hd : decide (lv < 1) = true := by simpa using hl1
    go_enter Tryd.func38, Tryd.ntmps38
    go_wp2_with fail
    go_ret
    exact ⟨rfl, HB.out⟩
  by_cases hl8 : 8 < lv
  · have HR := Lib.hid (show chkN lv ps = 2 by unfold chkN; rw [if_pos (.inr (.inl hl8))])
    rw [HR.out]
    clear HR
    have hd : decide (lv < 1) = false := by simpa using hl1
    have hd8 : decide (8 < lv) = true := by simpa using hl8
    go_enter Tryd.func38, Tryd.ntmps38
    go_wp2_with fail
    go_ret
    exact ⟨rfl, HB.out⟩
  obtain ⟨n, rfl⟩ := Int.eq_ofNat_of_zero_le (show 0 ≤ lv by omega)
  by_cases h0 : ps.length = 0
  · have hps : ps = [] := List.eq_nil_of_length_eq_zero h0
    have HR := Lib.hid (show chkN n ps = 2 by unfold chkN; rw [if_pos (.inr (.inr hps))])
    rw [HR.out]
    clear HR
    have hd : decide ((n : Int) < 1) = false := by simpa using hl1
    have hd8 : decide (8 < (n : Int)) = false := by simpa using hl8
    rw [h0]
    rw [h0] at HB
    clear hps HP
    go_enter Tryd.func38, Tryd.ntmps38
    go_wp2_with fail
    go_ret
    exact ⟨rfl, HB.out⟩
  have hne : ps ≠ [] := fun e => h0 (by rw [e]; rfl)
  have hd : decide ((n : Int) < 1) = false := by simpa using hl1
  have hd8 : decide (8 < (n : Int)) = false := by simpa using hl8
  have hd0 : ((ps.length : Int) == 0) = false := by rw [beq_eq_false_iff_ne]; omega
  by_cases hm : 8 < ps.length
  · have HR := Lib.hid (show chkN n ps = 5 by unfold chkN; rw [if_neg (fun hc => hc.elim hl1 (fun hc => hc.elim hl8 hne)), if_pos hm])
    rw [HR.out]
    clear HR hne
    have hdm : decide ((8 : Int) < (ps.length : Int)) = true := by simp; omega
    go_enter Tryd.func38, Tryd.ntmps38
    go_wp2_with fail
    go_ret
    exact ⟨rfl, HB.out⟩
  have HR := Lib.hid (show chkN n ps = if badPart (mostOf n) ps ≠ 0 then badPart (mostOf n) ps else if 32768 < sumP ps then 5 else 0 by
    unfold chkN
    rw [if_neg (fun hc => hc.elim hl1 (fun hc => hc.elim hl8 hne)), if_neg hm, Int.toNat_natCast])
  have hdm : decide ((8 : Int) < (ps.length : Int)) = false := by simp; omega
  have HMX := Lib.hid (show ∀ (W : World) (k : Nat), Calls Tryd.prog 63 #[.int .i64 (n : Int)] (W.drewN k) fun e w'' => e = .returned (.int .i64 (mostOf n : Int)) ∧ ∃ m, w'' = W.drewN m from fun W k => (most_any n (by omega) (by omega) (W.drewN k)).mono fun e w' h => ⟨h.1, k, h.2.symm⟩)
  have hmo := mostOf_le n
  obtain ⟨mo, hmo'⟩ : ∃ m, m = mostOf n := ⟨_, rfl⟩
  rw [← hmo'] at HR HMX hmo
  clear hmo' hne
  go_enter Tryd.func38, Tryd.ntmps38
  go_wp2_with fail
  obtain ⟨W1, hW1⟩ : ∃ W, W = w.alloc (.cells #[.int .i64 (n : Int), .slice a ps.length cap] 31) := ⟨_, rfl⟩
  have hcn0 : W1.cell? ⟨w.heap.size, 0, none⟩ = some (.int .i64 (n : Int)) := by rw [hW1]; exact (Mem.new w 31 [.int .i64 (n : Int), .slice a ps.length cap]).cell 0
  have hws : w.heap.size < W1.heap.size := by rw [hW1]; simp
  rw [← hW1] at HB
  rw [← hW1]
  clear hW1
  go_loopw [3, 27] (fun s i wr => ∃ k : Nat, k ≤ ps.length ∧ i = .int .i64 k ∧ Below W1.heap.size W1 wr ∧ s = .int .i64 (sumP (ps.take k)) ∧ 0 ≤ sumP (ps.take k) ∧ sumP (ps.take k) ≤ 32768 * (k : Int) ∧ Hid (badPart mo ps = badPart mo (ps.drop k))) (fun _ i _ => ps.length - (intOf i).toNat)
  case atStart => exact ⟨0, by omega, rfl, Below.refl _ _, rfl, by simp [sumP], by simp [sumP], Lib.hid rfl⟩
  case round =>
    obtain ⟨k, hk, rfl, hb, rfl, hs0, hs1, HBP⟩ := hrel
    have hcw0 : wr.cell? ⟨w.heap.size, 0, none⟩ = some (.int .i64 (n : Int)) := (hb.cell (p := ⟨w.heap.size, 0, none⟩) hws).trans hcn0
    by_cases hlt : k < ps.length
    · obtain ⟨a', cap', hv', -, hc'⟩ := (HP.out.below (belowThen HB.out hb)).form
      injection hv' with h1 h2 h3
      obtain ⟨g, off, ha, hgl, hx0, hx1⟩ := hc' k hlt
      rw [← h1] at ha
      subst ha
      have HST := Lib.hid (badPart_step HBP.out hlt)
      have HSUM := Lib.hid (sumP_take_succ ps k hlt)
      obtain ⟨p, hp⟩ : ∃ p, p = ps[k] := ⟨_, rfl⟩
      rw [← hp] at hx0 hx1 HST HSUM
      obtain ⟨q, hq⟩ : ∃ q, q = sumP (ps.take k) := ⟨_, rfl⟩
      rw [← hq] at hs0 hs1 HSUM ⊢
      clear hp h1 h2 h3 hc' hq
      have hdk : decide (k < ps.length) = true := by simpa using hlt
      by_cases hp1 : p.2 < 1
      · have hdp : decide (p.2 < 1) = true := by simpa using hp1
        have HRR := Lib.hid (show chkN n ps = 2 by rw [HR.out, HST.out]; simp [hp1])
        clear HST HR HBP
        go_wp2_with fail
        go_ret
        exact ⟨by rw [HRR.out]; rfl, belowThen HB.out (belowThen hb (belowSelf _ _))⟩
      · have hdp : decide (p.2 < 1) = false := by simpa using hp1
        by_cases hpm : (mo : Int) < p.2
        · have hdq : decide ((mo : Int) < p.2) = true := by simpa using hpm
          have HRR := Lib.hid (show chkN n ps = 5 by rw [HR.out, HST.out]; simp [hp1, hpm])
          clear HST HR HBP
          go_wp2_with fail
          have hwr : w.heap.size < wr.heap.size := Nat.lt_of_lt_of_le hws hb.size
          go_quiet ((go_at_call 63; exact HMX.out _ _))
          rename_i K hK
          refine hK _ _ ?_
          go_wp2_with fail
          go_ret
          exact ⟨by rw [HRR.out]; rfl, below_drewN (belowThen HB.out (belowThen hb (belowSelf _ _))) nq⟩
        · have hdq : decide ((mo : Int) < p.2) = false := by simpa using hpm
          have HBP2 := Lib.hid (show badPart mo ps = badPart mo (ps.drop (k + 1)) by rw [HST.out, if_neg hp1, if_neg hpm])
          clear HST
          go_wp2_with fail
          have hwr : w.heap.size < wr.heap.size := Nat.lt_of_lt_of_le hws hb.size
          go_quiet ((go_at_call 63; exact HMX.out _ _))
          rename_i K hK
          refine hK _ _ ?_
          go_wp2_with fail
          go_roundw
          case rel => exact ⟨k + 1, by omega, by go_num, below_drewN (belowThen hb (belowSelf _ _)) nq, by rw [HSUM.out], by rw [HSUM.out]; omega, by rw [HSUM.out]; push_cast; omega, HBP2⟩
          case measure => simp [intOf]; omega
    · have ek : k = ps.length := by omega
      subst ek
      have hbp : badPart mo ps = 0 := by rw [HBP.out, List.drop_length]; rfl
      have hdk : decide (ps.length < ps.length) = false := by simp
      rw [hbp] at HR
      simp only [ne_eq, not_true_eq_false, if_false] at HR
      have HBB := Lib.hid (belowThen HB.out hb)
      rw [List.take_length] at hs0 hs1 ⊢
      obtain ⟨q, hq⟩ : ∃ q, q = sumP ps := ⟨_, rfl⟩
      rw [← hq] at HR hs0 hs1 ⊢
      clear hq hbp HBP hcn0
      by_cases hs : 32768 < q
      · have hds : decide (32768 < q) = true := by simpa using hs
        rw [if_pos hs] at HR
        go_wp2_with fail
        go_ret
        exact ⟨by rw [HR.out]; rfl, HBB.out⟩
      · have hds : decide (32768 < q) = false := by simpa using hs
        rw [if_neg hs] at HR
        go_wp2_with fail
        go_ret
        exact ⟨by rw [HR.out]; rfl, HBB.out⟩
end Go.Proofs.YtjdhcanblpifcaaDoor

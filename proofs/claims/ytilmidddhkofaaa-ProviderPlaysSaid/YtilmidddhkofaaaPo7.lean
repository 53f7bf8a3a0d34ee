/-
  ProviderPlays: the loop over the acts.
-/
import Derived.Test.YtilmidddhkofaaaPo8
namespace Go.Proofs.Ytilmidddhkofaaa
open Go.RowKit Go.Maps Crv

/-- An act: its kind, its name's number, its address, its tick. -/
abbrev AC := Int × Int × Int × Int
abbrev acC (a : AC) : List Value := [iv a.1, iv a.2.1, iv a.2.2.1, iv a.2.2.2]
abbrev Tac : TypeId := 28
/-- Acts as an argument. -/
def ActsP (W : World) (v : Value) (acts : List AC) : Prop := Rd W 4 v (acts.map acC) ∧ ∀ a ∈ acts, In64 a.2.2.1 ∧ In64 a.2.2.2
theorem ActsP.at {W w : World} {a : Option Addr} {n cap : Nat} {acts : List AC} (h : ActsP W (.slice a n cap) acts) (hb : Below W.heap.size W w) {i : Nat} (hi : i < acts.length) :
    ∃ g off, a = some ⟨g, off, none⟩ ∧ w.cell? ⟨g, off + i * 4, none⟩ = some (iv acts[i].1) ∧ w.cell? ⟨g, off + i * 4 + 1, none⟩ = some (iv acts[i].2.1) ∧ w.cell? ⟨g, off + i * 4 + 2, none⟩ = some (iv acts[i].2.2.1) ∧ w.cell? ⟨g, off + i * 4 + 3, none⟩ = some (iv acts[i].2.2.2) := by
  obtain ⟨a', cap', h1, _, h3⟩ := Rd.below h.1 hb
  injection h1 with h1 _ _
  obtain ⟨g, off, ha, _, hr⟩ := h3 i (by simpa using hi)
  rw [← h1] at ha
  simp only [List.getElem_map] at hr
  exact ⟨g, off, ha, hr 0 _ rfl, hr 1 _ rfl, hr 2 _ rfl, hr 3 _ rfl⟩
theorem same_nil : Same [] [] := ⟨List.Perm.nil, by simp [Uniq], by simp, by simp, by simp⟩
attribute [local go_sem ↓] ld_id
set_option maxHeartbeats 16000000 in
set_option maxRecDepth 100000 in
theorem plays_loop (v : Value) (acts : List AC) (now : Int) (W : World) (hA : ActsP W v acts) : Calls Try.prog 3 #[v, iv now] W fun e w' => e = .returned (.bool true) ∧ Below W.heap.size W w' := by
  obtain ⟨aa, ac, rfl, -⟩ := hA.1
  rw [List.length_map] at hA ⊢
  have HA := Lib.hid hA
  have HAW := Lib.hid (fun w => awake21_any w)
  obtain ⟨N, hN⟩ : ∃ N, N = acts.length := ⟨_, rfl⟩
  have HN := Lib.hid hN
  rw [← hN] at HA ⊢
  clear hA hN
  go_enter Try.func3, Try.ntmps3
  go_wp2_with fail
  refine (HAW.out _).mono ?_
  rintro e w1 ⟨rfl, hb1⟩
  have HMK := Lib.hid (St.make (W0 := W) hb1)
  clear hb1
  go_wp2_with fail
  refine HMK.out.mono ?_
  rintro e w2 ⟨rfl, h2⟩
  obtain ⟨tb, ht⟩ : ∃ tb, tb = w1.heap.size + 1 := ⟨_, rfl⟩
  rw [← ht] at h2 ⊢
  have H2 := Lib.hid (show St W [] tb [] (.slice (some ⟨w2.heap.size, 0, none⟩) 0 0) [] (w2.alloc (.cells #[] Ton)) from h2.list (belowSelf w2 _) (Rw.rd (Rw.new (w := w2) (base := w2.heap.size) Ton 3 (Nat.le_refl _))) (fun g hg => by
    have e : w2.heap.size = g := by injection hg
    subst e
    exact .inr ⟨Nat.le_refl _, by simp⟩))
  clear h2 ht HMK
  go_wp2_with fail
  go_loopw [6, 7] (fun v s wr => ∃ (i : Nat) (l : List OV) (V : PV), i ≤ N ∧ i ≤ 120 ∧ s = .int .i64 i ∧ Hid (l.length ≤ i) ∧ Hid (Same l V) ∧ Hid (St W [] tb V v l wr)) (fun _ s _ => 120 - (intOf s).toNat)
  case atStart => exact ⟨0, [], [], by omega, by omega, rfl, Lib.hid (Nat.le_refl _), Lib.hid same_nil, H2⟩
  case round =>
    obtain ⟨i, l, V, hi, hi2, rfl, HLL, HSM, HS⟩ := hrel
    clear H2
    by_cases hlt : i < N ∧ i < 120
    · have hd1 : decide ((i : Int) < (N : Int)) = true := by simp; omega
      have hd2 : decide ((i : Int) < 120) = true := by simp; omega
      have hd3 : (i : Int) < (N : Int) := by omega
      have hd4 : (i : Int) < 120 := by omega
      have hil : i < acts.length := by rw [← HN.out]; exact hlt.1
      obtain ⟨g, off, rfl, c0, c1, c2, c3⟩ := HA.out.at HS.out.below hil
      have hin := HA.out.2 _ (List.getElem_mem hil)
      obtain ⟨act, hact⟩ : ∃ act, act = acts[i] := ⟨_, rfl⟩
      rw [← hact] at c0 c1 c2 c3 hin
      obtain ⟨k, nm0, n, u⟩ := act
      simp only at c0 c1 c2 c3 hin
      have HIN := Lib.hid hin
      have HMA := Lib.hid (Mem.new wr Tac [iv k, iv nm0, iv n, iv u])
      have HSA := Lib.hid (HS.out.add (belowSelf wr (.cells #[iv k, iv nm0, iv n, iv u] Tac)) (Nat.le_refl _) (by simp))
      obtain ⟨ba, hba⟩ : ∃ ba, ba = wr.heap.size := ⟨_, rfl⟩
      have HBA := Lib.hid hba
      clear hact hin hil hba HS
      go_wp2_with fail
      refine (lawid_any nm0 _).mono ?_
      rintro e w3 ⟨o, ho, rfl, hb3⟩
      have hgr := HBA.out
      rw [← hgr] at HMA HSA ⊢
      clear hgr
      have HM3 := Lib.hid (HMA.out.below hb3 (by simp [← HBA.out]))
      have HS3 := Lib.hid (HSA.out.on hb3)
      have SZ := Lib.hid (show (Try.prog.info? TI).map (·.size) = some ((nm2 o).map byteV).length from sz_id (nm2 o) rfl)
      have HZ32 := Lib.hid (show (List.replicate 32 (byteV 0)).length = ((nm2 o).map byteV).length from rfl)
      have ONE := Lib.hid (oneBytes (nm2 o))
      obtain ⟨x, hx⟩ : ∃ x, x = nm2 o := ⟨_, rfl⟩
      have HXL := Lib.hid (show x.length = 32 from by rw [hx]; rfl)
      rw [← hx] at SZ HZ32 ONE ⊢
      clear hb3 HMA HSA hx
      have hkind : k = 1 ∨ k = 2 ∨ k = 3 ∨ (k ≠ 1 ∧ k ≠ 2 ∧ k ≠ 3) := by omega
      rcases hkind with rfl | rfl | rfl | ⟨n1, n2, n3⟩
      · go_wp2_with (first
          | (refine wp_store_gen (Mem.newAt w3 TI (List.replicate 32 (byteV 0)) rfl) (x.map byteV) TI (.tmp 9) (.tmp 42) rfl rfl rfl rfl SZ.out HZ32.out ONE.out ?_
             intro W4 hm4 hg4 hz4
             have HX4 := Lib.hid hm4
             have hb4 : Below w3.heap.size w3 W4 := belowNew (belowSelf w3 _) hg4 (Nat.le_refl _)
             have HS4 := Lib.hid (HS3.out.add hb4 (Nat.le_refl _) (by rw [hz4]; simp))
             have HM4 := Lib.hid (HM3.out.below hb4 HM3.out.lt)
             have k0 := HM4.out.cell 0
             have k2 := HM4.out.cell 2
             have k3 := HM4.out.cell 3
             have hld := ld_id_at HX4.out HXL.out
             clear hm4 hg4 hz4 hb4)
          | fail)
        refine (HS4.out.put (a := n) (u := u) HXL.out HIN.out.2).mono ?_
        rintro e w5 ⟨rfl, hs5, hkeep⟩
        have HX6 := Lib.hid (show Mem w5 w3.heap.size TI (x.map byteV) from (hkeep _ (by simp)).trans HX4.out)
        have HM6 := Lib.hid (show Mem w5 ba Tac [iv 1, iv nm0, iv n, iv u] from (hkeep _ (by simp)).trans HM4.out)
        have hsm := HSM.out.put HXL.out n u hs5.uq.1 hs5.uq.2.1
        have HSM5 := Lib.hid hsm.1
        obtain ⟨r, hr⟩ : ∃ r, r = (putV x n u V).2 := ⟨_, rfl⟩
        rw [← hr]
        have HEQ := Lib.hid (hsm.2.trans hr.symm)
        have HS5 := Lib.hid hs5
        have HL5 := Lib.hid (show (putO x n u l).1.length ≤ i + 1 from Nat.le_trans (putO_len x n u l) (Nat.succ_le_succ HLL.out))
        clear hs5 hkeep hsm hr HX4 HM4 HS4 HS3 HM3 k0 k2 k3 hld
        go_wp2_with fail
        have hcs := HX6.out.range 0 (x.map byteV) ⟨[], by simp⟩
        have q2 : w5.cell? ⟨ba, 2, none⟩ = some (iv n) := HM6.out.cell 2
        have q3 : w5.cell? ⟨ba, 3, none⟩ = some (iv u) := HM6.out.cell 3
        have hu30 := Try.underlying30
        have hsz30 := SZ.out
        go_region_held3 (fun w' => w'.rangeAt w3.heap.size 0 (x.map byteV) ∧ w'.cell? ⟨ba, 2, none⟩ = some (iv n) ∧ w'.cell? ⟨ba, 3, none⟩ = some (iv u)) (refine ⟨?_, ?_, ?_⟩ <;> assumption)
          (first
            | (go_at_call 12
               refine (bytes_any x _ HXL.out).mono ?_
               rintro e w6 ⟨rfl, hb60⟩
               have hb6 : Below w5.heap.size w5 w6 := belowThen (below_drewB (Below.refl _ _)) hb60
               clear hb60
               have HS6 := Lib.hid (HS5.out.on hb6)
               have HX7 := Lib.hid (HX6.out.below hb6 HX6.out.lt)
               have HM7 := Lib.hid (HM6.out.below hb6 HM6.out.lt)
               have hcs6 := HX7.out.range 0 (x.map byteV) ⟨[], by simp⟩
               have q26 : w6.cell? ⟨ba, 2, none⟩ = some (iv n) := HM7.out.cell 2
               have q36 : w6.cell? ⟨ba, 3, none⟩ = some (iv u) := HM7.out.cell 3
               clear hb6 HS5 HX6 HM6)
            | (go_at_call 11
               refine (rput_any x n u HS6.out.rd (by have := HLL.out; omega)).mono ?_
               rintro e w7 ⟨v7, rfl, hr7, hv7, hb7⟩
               rw [HEQ.out]
               have HST := Lib.hid (HS6.out.list hb7 hr7 hv7)
               have HX5 := Lib.hid (HX7.out.below hb7 HX7.out.lt)
               have hm5 := HM7.out.below hb7 HM7.out.lt
               have hcs7 := HX5.out.range 0 (x.map byteV) ⟨[], by simp⟩
               have q27 : w7.cell? ⟨ba, 2, none⟩ = some (iv n) := hm5.cell 2
               have q37 : w7.cell? ⟨ba, 3, none⟩ = some (iv u) := hm5.cell 3
               clear hr7 hv7 hb7 hm5 HS6 HX7 HM7)
            | fail)
        clear hcs q2 q3 hcs6 q26 q36 hcs7 q27 q37 hu30 hsz30 HLL HSM
        have hld := ld_id_at HX5.out HXL.out
        go_wp2_with fail
        refine (HST.out.get (now := now) HXL.out).mono ?_
        rintro e wG ⟨z, rfl, hz, hst, hbG⟩
        have HSG := Lib.hid hst
        have HZ := Lib.hid hz
        have HXG := Lib.hid (HX5.out.below hbG HX5.out.lt)
        clear hst hz hbG HST HX5 hld
        have hld := ld_id_at HXG.out HXL.out
        go_wp2_with fail
        refine (bytes_any x _ HXL.out).mono ?_
        rintro e wB ⟨rfl, hbB⟩
        have HSB := Lib.hid (HSG.out.on hbB)
        have HZB := Lib.hid (HZ.out.below hbB)
        clear hbB HSG HZ HXG hld
        go_wp2_with fail
        refine (rget_any x now HSB.out.rd (by have := HL5.out; omega)).mono ?_
        rintro e wR ⟨y, rfl, hy, hbR⟩
        rw [HSM5.out.get x now HSB.out.uq.2.2] at hy
        have HSR := Lib.hid (HSB.out.on hbR)
        obtain ⟨L, hL⟩ : ∃ L, L = getV x now (putV x n u V).1 := ⟨_, rfl⟩
        rw [← hL] at hy HZB
        have hzr := HZB.out.below hbR
        obtain ⟨za, zc, rfl, -, -, hzc⟩ := hzr.form
        obtain ⟨ya, yc, rfl, -, -, hyc⟩ := hy.form
        rw [List.length_map] at hzc hyc ⊢
        obtain ⟨M, hM⟩ : ∃ M, M = L.length := ⟨_, rfl⟩
        have hM2 : M ≤ 64000 := by
          have h1 := getO_len x now (putO x n u l).1 64
          rw [HSM5.out.get x now HSR.out.uq.2.2, ← hL, ← hM] at h1
          have h2 := HL5.out
          omega
        rw [← hM] at hzc hyc ⊢
        have HMM := Lib.hid hM
        have HZC := Lib.hid hzc
        have HYC := Lib.hid hyc
        clear hbR HSB HZB hy hzr hL hM hzc hyc
        have HLV : ∀ j, j < M → ∃ q, L[j]? = some q := fun j hj => ⟨L[j]'(by rw [← HMM.out]; exact hj), List.getElem?_eq_getElem _⟩
        have HLV := Lib.hid HLV
        go_wp2_with fail
        go_loopw [109] (fun s w8 => ∃ j : Nat, j ≤ M ∧ s = .int .i64 j ∧ Hid (Below wR.heap.size wR w8)) (fun s _ => M - (intOf s).toNat)
        case atStart => exact ⟨0, by omega, rfl, Lib.hid (Below.refl _ _)⟩
        case round =>
          obtain ⟨j, hj, rfl, HBJ⟩ := hrel
          by_cases hjm : j < M
          · have hdj : decide ((j : Int) < (M : Int)) = true := by simp; omega
            have hdj2 : (j : Int) < (M : Int) := by omega
            obtain ⟨q, hq⟩ := HLV.out j hjm
            obtain ⟨zg, rfl, -, hz2⟩ := HZC.out j hjm
            obtain ⟨yg, rfl, -, hy2⟩ := HYC.out j hjm
            rw [List.getElem?_map, hq] at hz2 hy2
            simp only [Option.map_some] at hz2 hy2
            have hz3 := (HBJ.out.cell (p := ⟨zg, j, none⟩) (World.block_lt_of_cell? wR _ hz2)).trans hz2
            have hy3 := (HBJ.out.cell (p := ⟨yg, j, none⟩) (World.block_lt_of_cell? wR _ hy2)).trans hy2
            clear hq hz2 hy2
            go_wp2_with fail
            go_quiet (fail)
            go_wp2_with fail
            go_roundw
            case rel => exact ⟨j + 1, by omega, by go_num, Lib.hid (below_drewN HBJ.out _)⟩
            case measure => simp [intOf]; omega
          · have hdj : decide ((j : Int) < (M : Int)) = false := by simp; omega
            have hdj2 : ¬ (j : Int) < (M : Int) := by omega
            have HSE := Lib.hid ((HSR.out.on HBJ.out).less (S' := []) (by simp))
            clear HSR HLV
            go_wp2_with fail
            go_roundw
            case rel => exact ⟨i + 1, _, _, by omega, by omega, by go_num, HL5, HSM5, HSE⟩
            case measure => simp [intOf]; omega
      · go_wp2_with (first
          | (refine wp_store_gen (Mem.newAt w3 TI (List.replicate 32 (byteV 0)) rfl) (x.map byteV) TI (.tmp 9) (.tmp 42) rfl rfl rfl rfl SZ.out HZ32.out ONE.out ?_
             intro W4 hm4 hg4 hz4
             have HX4 := Lib.hid hm4
             have hb4 : Below w3.heap.size w3 W4 := belowNew (belowSelf w3 _) hg4 (Nat.le_refl _)
             have HS4 := Lib.hid (HS3.out.add hb4 (Nat.le_refl _) (by rw [hz4]; simp))
             have HM4 := Lib.hid (HM3.out.below hb4 HM3.out.lt)
             have k0 := HM4.out.cell 0
             have k2 := HM4.out.cell 2
             have hld := ld_id_at ((HX4.out).alloc (.cells #[iv n] Tin)) HXL.out
             have hld0 := ld_id_at HX4.out HXL.out
             clear hm4 hg4 hz4 hb4)
          | fail)
        have hzs : ZsP (W4.alloc (.cells #[iv n] Tin)) (.slice (some ⟨W4.heap.size, 0, none⟩) 1 1) [n] := ⟨_, 1, rfl, fun q hq => ⟨W4.heap.size, 0, rfl, by
          have e : q = 0 := by simp at hq; omega
          subst e
          exact (Mem.new W4 Tin [iv n]).cell 0⟩⟩
        refine ((HS4.out.on (belowSelf W4 (.cells #[iv n] Tin))).drop HXL.out hzs (fun q hq => by
          rw [List.mem_singleton.1 hq]
          exact HIN.out.1) (by simp)).mono ?_
        rintro e w5 ⟨rfl, hs5, hkeep⟩
        have HX6 := Lib.hid (show Mem w5 w3.heap.size TI (x.map byteV) from (hkeep _ (by simp)).trans (HX4.out.alloc _))
        have HM6 := Lib.hid (show Mem w5 ba Tac [iv 2, iv nm0, iv n, iv u] from (hkeep _ (by simp)).trans (HM4.out.alloc _))
        have HSM5 := Lib.hid (HSM.out.drop x n hs5.uq.1 hs5.uq.2.1)
        have HS5 := Lib.hid hs5
        have HL5 := Lib.hid (show (dropO x n l).length ≤ i + 1 from Nat.le_succ_of_le (Nat.le_trans (dropO_len x n l) HLL.out))
        clear hs5 hkeep hzs HX4 HM4 HS4 HS3 HM3 k0 k2 hld hld0
        go_wp2_with fail
        have hcs := HX6.out.range 0 (x.map byteV) ⟨[], by simp⟩
        have q2 : w5.cell? ⟨ba, 2, none⟩ = some (iv n) := HM6.out.cell 2
        have hu30 := Try.underlying30
        have hsz30 := SZ.out
        go_region_held3 (fun w' => w'.rangeAt w3.heap.size 0 (x.map byteV) ∧ w'.cell? ⟨ba, 2, none⟩ = some (iv n)) (refine ⟨?_, ?_⟩ <;> assumption)
          (first
            | (go_at_call 12
               refine (bytes_any x _ HXL.out).mono ?_
               rintro e w6 ⟨rfl, hb60⟩
               have hb6 : Below w5.heap.size w5 w6 := belowThen (below_drewB (Below.refl _ _)) hb60
               clear hb60
               have HS6 := Lib.hid (HS5.out.on hb6)
               have HX7 := Lib.hid (HX6.out.below hb6 HX6.out.lt)
               have HM7 := Lib.hid (HM6.out.below hb6 HM6.out.lt)
               have hcs6 := HX7.out.range 0 (x.map byteV) ⟨[], by simp⟩
               have q26 : w6.cell? ⟨ba, 2, none⟩ = some (iv n) := HM7.out.cell 2
               clear hb6 HS5 HX6 HM6)
            | (go_at_call 14
               refine (rdrop_any x n HS6.out.rd (by have := HLL.out; omega)).mono ?_
               rintro e w7 ⟨v7, rfl, hr7, hb7⟩
               have HST := Lib.hid (HS6.out.list hb7 hr7.rd (fun g hg => .inr ⟨(Rw.lt hr7 g hg).2, (Rw.lt hr7 g hg).1⟩))
               have HX5 := Lib.hid (HX7.out.below hb7 HX7.out.lt)
               have hcs7 := HX5.out.range 0 (x.map byteV) ⟨[], by simp⟩
               have q27 : w7.cell? ⟨ba, 2, none⟩ = some (iv n) := (HM7.out.below hb7 HM7.out.lt).cell 2
               clear hr7 hb7 HS6 HX7 HM7)
            | fail)
        clear hcs q2 hcs6 q26 hcs7 q27 hu30 hsz30 HLL HSM
        have hld := ld_id_at HX5.out HXL.out
        go_wp2_with fail
        refine (HST.out.get (now := now) HXL.out).mono ?_
        rintro e wG ⟨z, rfl, hz, hst, hbG⟩
        have HSG := Lib.hid hst
        have HZ := Lib.hid hz
        have HXG := Lib.hid (HX5.out.below hbG HX5.out.lt)
        clear hst hz hbG HST HX5 hld
        have hld := ld_id_at HXG.out HXL.out
        go_wp2_with fail
        refine (bytes_any x _ HXL.out).mono ?_
        rintro e wB ⟨rfl, hbB⟩
        have HSB := Lib.hid (HSG.out.on hbB)
        have HZB := Lib.hid (HZ.out.below hbB)
        clear hbB HSG HZ HXG hld
        go_wp2_with fail
        refine (rget_any x now HSB.out.rd (by have := HL5.out; omega)).mono ?_
        rintro e wR ⟨y, rfl, hy, hbR⟩
        rw [HSM5.out.get x now HSB.out.uq.2.2] at hy
        have HSR := Lib.hid (HSB.out.on hbR)
        obtain ⟨L, hL⟩ : ∃ L, L = getV x now (dropV x [n] V) := ⟨_, rfl⟩
        rw [← hL] at hy HZB
        have hzr := HZB.out.below hbR
        obtain ⟨za, zc, rfl, -, -, hzc⟩ := hzr.form
        obtain ⟨ya, yc, rfl, -, -, hyc⟩ := hy.form
        rw [List.length_map] at hzc hyc ⊢
        obtain ⟨M, hM⟩ : ∃ M, M = L.length := ⟨_, rfl⟩
        have hM2 : M ≤ 64000 := by
          have h1 := getO_len x now (dropO x n l) 64
          rw [HSM5.out.get x now HSR.out.uq.2.2, ← hL, ← hM] at h1
          have h2 := HL5.out
          omega
        rw [← hM] at hzc hyc ⊢
        have HMM := Lib.hid hM
        have HZC := Lib.hid hzc
        have HYC := Lib.hid hyc
        clear hbR HSB HZB hy hzr hL hM hzc hyc
        have HLV : ∀ j, j < M → ∃ q, L[j]? = some q := fun j hj => ⟨L[j]'(by rw [← HMM.out]; exact hj), List.getElem?_eq_getElem _⟩
        have HLV := Lib.hid HLV
        go_wp2_with fail
        go_loopw [109] (fun s w8 => ∃ j : Nat, j ≤ M ∧ s = .int .i64 j ∧ Hid (Below wR.heap.size wR w8)) (fun s _ => M - (intOf s).toNat)
        case atStart => exact ⟨0, by omega, rfl, Lib.hid (Below.refl _ _)⟩
        case round =>
          obtain ⟨j, hj, rfl, HBJ⟩ := hrel
          by_cases hjm : j < M
          · have hdj : decide ((j : Int) < (M : Int)) = true := by simp; omega
            have hdj2 : (j : Int) < (M : Int) := by omega
            obtain ⟨q, hq⟩ := HLV.out j hjm
            obtain ⟨zg, rfl, -, hz2⟩ := HZC.out j hjm
            obtain ⟨yg, rfl, -, hy2⟩ := HYC.out j hjm
            rw [List.getElem?_map, hq] at hz2 hy2
            simp only [Option.map_some] at hz2 hy2
            have hz3 := (HBJ.out.cell (p := ⟨zg, j, none⟩) (World.block_lt_of_cell? wR _ hz2)).trans hz2
            have hy3 := (HBJ.out.cell (p := ⟨yg, j, none⟩) (World.block_lt_of_cell? wR _ hy2)).trans hy2
            clear hq hz2 hy2
            go_wp2_with fail
            go_quiet (fail)
            go_wp2_with fail
            go_roundw
            case rel => exact ⟨j + 1, by omega, by go_num, Lib.hid (below_drewN HBJ.out _)⟩
            case measure => simp [intOf]; omega
          · have hdj : decide ((j : Int) < (M : Int)) = false := by simp; omega
            have hdj2 : ¬ (j : Int) < (M : Int) := by omega
            have HSE := Lib.hid ((HSR.out.on HBJ.out).less (S' := []) (by simp))
            clear HSR HLV
            go_wp2_with fail
            go_roundw
            case rel => exact ⟨i + 1, _, _, by omega, by omega, by go_num, HL5, HSM5, HSE⟩
            case measure => simp [intOf]; omega
      · go_wp2_with (first
          | (refine wp_store_gen (Mem.newAt w3 TI (List.replicate 32 (byteV 0)) rfl) (x.map byteV) TI (.tmp 9) (.tmp 42) rfl rfl rfl rfl SZ.out HZ32.out ONE.out ?_
             intro W4 hm4 hg4 hz4
             have HX4 := Lib.hid hm4
             have hb4 : Below w3.heap.size w3 W4 := belowNew (belowSelf w3 _) hg4 (Nat.le_refl _)
             have HS4 := Lib.hid (HS3.out.add hb4 (Nat.le_refl _) (by rw [hz4]; simp))
             have HM4 := Lib.hid (HM3.out.below hb4 HM3.out.lt)
             have k0 := HM4.out.cell 0
             have k3 := HM4.out.cell 3
             clear hm4 hg4 hz4 hb4)
          | fail)
        refine (HS4.out.expire (now := u)).mono ?_
        rintro e w5 ⟨rfl, hs5, hkeep⟩
        have HX6 := Lib.hid (show Mem w5 w3.heap.size TI (x.map byteV) from (hkeep _ (by simp)).trans HX4.out)
        have hm5 : Mem w5 ba Tac [iv 3, iv nm0, iv n, iv u] := (hkeep _ (by simp)).trans HM4.out
        have HSM5 := Lib.hid (HSM.out.expire u hs5.uq.1 hs5.uq.2.1)
        have HS5 := Lib.hid hs5
        clear hs5 hkeep HX4 HM4 HS4 HS3 HM3 HSM k0 k3
        have k3 := hm5.cell 3
        clear hm5
        go_wp2_with fail
        refine (rexp_any u HS5.out.rd (by have := HLL.out; omega)).mono ?_
        rintro e w6 ⟨v6, rfl, hr6, hb6⟩
        have HST := Lib.hid (HS5.out.list hb6 hr6.rd (fun g hg => .inr ⟨(Rw.lt hr6 g hg).2, (Rw.lt hr6 g hg).1⟩))
        have HX5 := Lib.hid (HX6.out.below hb6 HX6.out.lt)
        have HL5 := Lib.hid (show (expO u l).length ≤ i + 1 from Nat.le_succ_of_le (Nat.le_trans (expO_len u l) HLL.out))
        clear hr6 hb6 HS5 HX6 k3 HLL
        have hld := ld_id_at HX5.out HXL.out
        go_wp2_with fail
        refine (HST.out.get (now := now) HXL.out).mono ?_
        rintro e wG ⟨z, rfl, hz, hst, hbG⟩
        have HSG := Lib.hid hst
        have HZ := Lib.hid hz
        have HXG := Lib.hid (HX5.out.below hbG HX5.out.lt)
        clear hst hz hbG HST HX5 hld
        have hld := ld_id_at HXG.out HXL.out
        go_wp2_with fail
        refine (bytes_any x _ HXL.out).mono ?_
        rintro e wB ⟨rfl, hbB⟩
        have HSB := Lib.hid (HSG.out.on hbB)
        have HZB := Lib.hid (HZ.out.below hbB)
        clear hbB HSG HZ HXG hld
        go_wp2_with fail
        refine (rget_any x now HSB.out.rd (by have := HL5.out; omega)).mono ?_
        rintro e wR ⟨y, rfl, hy, hbR⟩
        rw [HSM5.out.get x now HSB.out.uq.2.2] at hy
        have HSR := Lib.hid (HSB.out.on hbR)
        obtain ⟨L, hL⟩ : ∃ L, L = getV x now (expireV u V) := ⟨_, rfl⟩
        rw [← hL] at hy HZB
        have hzr := HZB.out.below hbR
        obtain ⟨za, zc, rfl, -, -, hzc⟩ := hzr.form
        obtain ⟨ya, yc, rfl, -, -, hyc⟩ := hy.form
        rw [List.length_map] at hzc hyc ⊢
        obtain ⟨M, hM⟩ : ∃ M, M = L.length := ⟨_, rfl⟩
        have hM2 : M ≤ 64000 := by
          have h1 := getO_len x now (expO u l) 64
          rw [HSM5.out.get x now HSR.out.uq.2.2, ← hL, ← hM] at h1
          have h2 := HL5.out
          omega
        rw [← hM] at hzc hyc ⊢
        have HMM := Lib.hid hM
        have HZC := Lib.hid hzc
        have HYC := Lib.hid hyc
        clear hbR HSB HZB hy hzr hL hM hzc hyc
        have HLV : ∀ j, j < M → ∃ q, L[j]? = some q := fun j hj => ⟨L[j]'(by rw [← HMM.out]; exact hj), List.getElem?_eq_getElem _⟩
        have HLV := Lib.hid HLV
        go_wp2_with fail
        go_loopw [109] (fun s w8 => ∃ j : Nat, j ≤ M ∧ s = .int .i64 j ∧ Hid (Below wR.heap.size wR w8)) (fun s _ => M - (intOf s).toNat)
        case atStart => exact ⟨0, by omega, rfl, Lib.hid (Below.refl _ _)⟩
        case round =>
          obtain ⟨j, hj, rfl, HBJ⟩ := hrel
          by_cases hjm : j < M
          · have hdj : decide ((j : Int) < (M : Int)) = true := by simp; omega
            have hdj2 : (j : Int) < (M : Int) := by omega
            obtain ⟨q, hq⟩ := HLV.out j hjm
            obtain ⟨zg, rfl, -, hz2⟩ := HZC.out j hjm
            obtain ⟨yg, rfl, -, hy2⟩ := HYC.out j hjm
            rw [List.getElem?_map, hq] at hz2 hy2
            simp only [Option.map_some] at hz2 hy2
            have hz3 := (HBJ.out.cell (p := ⟨zg, j, none⟩) (World.block_lt_of_cell? wR _ hz2)).trans hz2
            have hy3 := (HBJ.out.cell (p := ⟨yg, j, none⟩) (World.block_lt_of_cell? wR _ hy2)).trans hy2
            clear hq hz2 hy2
            go_wp2_with fail
            go_quiet (fail)
            go_wp2_with fail
            go_roundw
            case rel => exact ⟨j + 1, by omega, by go_num, Lib.hid (below_drewN HBJ.out _)⟩
            case measure => simp [intOf]; omega
          · have hdj : decide ((j : Int) < (M : Int)) = false := by simp; omega
            have hdj2 : ¬ (j : Int) < (M : Int) := by omega
            have HSE := Lib.hid ((HSR.out.on HBJ.out).less (S' := []) (by simp))
            clear HSR HLV
            go_wp2_with fail
            go_roundw
            case rel => exact ⟨i + 1, _, _, by omega, by omega, by go_num, HL5, HSM5, HSE⟩
            case measure => simp [intOf]; omega
      · have e1 : (k == 1) = false := by simpa using n1
        have e2 : (k == 2) = false := by simpa using n2
        have e3 : (k == 3) = false := by simpa using n3
        clear n1 n2 n3
        go_wp2_with (first
          | (refine wp_store_gen (Mem.newAt w3 TI (List.replicate 32 (byteV 0)) rfl) (x.map byteV) TI (.tmp 9) (.tmp 42) rfl rfl rfl rfl SZ.out HZ32.out ONE.out ?_
             intro W4 hm4 hg4 hz4
             have HX4 := Lib.hid hm4
             have hb4 : Below w3.heap.size w3 W4 := belowNew (belowSelf w3 _) hg4 (Nat.le_refl _)
             have HS4 := Lib.hid (HS3.out.add hb4 (Nat.le_refl _) (by rw [hz4]; simp))
             have HM4 := Lib.hid (HM3.out.below hb4 HM3.out.lt)
             have k0 := HM4.out.cell 0
             have hld := ld_id_at HX4.out HXL.out
             clear hm4 hg4 hz4 hb4)
          | fail)
        have HST := HS4
        have HX5 := HX4
        have HSM5 := HSM
        have HL5 := Lib.hid (show l.length ≤ i + 1 from Nat.le_succ_of_le HLL.out)
        clear HS4 HX4 HM4 HS3 HM3 k0 HSM HLL
        refine (HST.out.get (now := now) HXL.out).mono ?_
        rintro e wG ⟨z, rfl, hz, hst, hbG⟩
        have HSG := Lib.hid hst
        have HZ := Lib.hid hz
        have HXG := Lib.hid (HX5.out.below hbG HX5.out.lt)
        clear hst hz hbG HST HX5 hld
        have hld := ld_id_at HXG.out HXL.out
        go_wp2_with fail
        refine (bytes_any x _ HXL.out).mono ?_
        rintro e wB ⟨rfl, hbB⟩
        have HSB := Lib.hid (HSG.out.on hbB)
        have HZB := Lib.hid (HZ.out.below hbB)
        clear hbB HSG HZ HXG hld
        go_wp2_with fail
        refine (rget_any x now HSB.out.rd (by have := HL5.out; omega)).mono ?_
        rintro e wR ⟨y, rfl, hy, hbR⟩
        rw [HSM5.out.get x now HSB.out.uq.2.2] at hy
        have HSR := Lib.hid (HSB.out.on hbR)
        obtain ⟨L, hL⟩ : ∃ L, L = getV x now V := ⟨_, rfl⟩
        rw [← hL] at hy HZB
        have hzr := HZB.out.below hbR
        obtain ⟨za, zc, rfl, -, -, hzc⟩ := hzr.form
        obtain ⟨ya, yc, rfl, -, -, hyc⟩ := hy.form
        rw [List.length_map] at hzc hyc ⊢
        obtain ⟨M, hM⟩ : ∃ M, M = L.length := ⟨_, rfl⟩
        have hM2 : M ≤ 64000 := by
          have h1 := getO_len x now l 64
          rw [HSM5.out.get x now HSR.out.uq.2.2, ← hL, ← hM] at h1
          have h2 := HL5.out
          omega
        rw [← hM] at hzc hyc ⊢
        have HMM := Lib.hid hM
        have HZC := Lib.hid hzc
        have HYC := Lib.hid hyc
        clear hbR HSB HZB hy hzr hL hM hzc hyc
        have HLV : ∀ j, j < M → ∃ q, L[j]? = some q := fun j hj => ⟨L[j]'(by rw [← HMM.out]; exact hj), List.getElem?_eq_getElem _⟩
        have HLV := Lib.hid HLV
        go_wp2_with fail
        go_loopw [109] (fun s w8 => ∃ j : Nat, j ≤ M ∧ s = .int .i64 j ∧ Hid (Below wR.heap.size wR w8)) (fun s _ => M - (intOf s).toNat)
        case atStart => exact ⟨0, by omega, rfl, Lib.hid (Below.refl _ _)⟩
        case round =>
          obtain ⟨j, hj, rfl, HBJ⟩ := hrel
          by_cases hjm : j < M
          · have hdj : decide ((j : Int) < (M : Int)) = true := by simp; omega
            have hdj2 : (j : Int) < (M : Int) := by omega
            obtain ⟨q, hq⟩ := HLV.out j hjm
            obtain ⟨zg, rfl, -, hz2⟩ := HZC.out j hjm
            obtain ⟨yg, rfl, -, hy2⟩ := HYC.out j hjm
            rw [List.getElem?_map, hq] at hz2 hy2
            simp only [Option.map_some] at hz2 hy2
            have hz3 := (HBJ.out.cell (p := ⟨zg, j, none⟩) (World.block_lt_of_cell? wR _ hz2)).trans hz2
            have hy3 := (HBJ.out.cell (p := ⟨yg, j, none⟩) (World.block_lt_of_cell? wR _ hy2)).trans hy2
            clear hq hz2 hy2
            go_wp2_with fail
            go_quiet (fail)
            go_wp2_with fail
            go_roundw
            case rel => exact ⟨j + 1, by omega, by go_num, Lib.hid (below_drewN HBJ.out _)⟩
            case measure => simp [intOf]; omega
          · have hdj : decide ((j : Int) < (M : Int)) = false := by simp; omega
            have hdj2 : ¬ (j : Int) < (M : Int) := by omega
            have HSE := Lib.hid ((HSR.out.on HBJ.out).less (S' := []) (by simp))
            clear HSR HLV
            go_wp2_with fail
            go_roundw
            case rel => exact ⟨i + 1, _, _, by omega, by omega, by go_num, HL5, HSM5, HSE⟩
            case measure => simp [intOf]; omega
    · have hex : (decide ((i : Int) < (N : Int)) = false ∧ ¬ (i : Int) < (N : Int)) ∨ (decide ((i : Int) < (N : Int)) = true ∧ (i : Int) < (N : Int) ∧ decide ((i : Int) < 120) = false ∧ ¬ (i : Int) < 120) := by
        by_cases h : i < N
        · exact .inr ⟨by simp; omega, by omega, by simp; omega, by omega⟩
        · exact .inl ⟨by simp; omega, by omega⟩
      obtain ⟨la, lc, hlv, -⟩ := HS.out.rd.form
      obtain ⟨B, hB⟩ : ∃ B, B = l.length := ⟨_, rfl⟩
      rw [← hB] at hlv
      have hB2 : B ≤ 120 := by rw [hB]; exact Nat.le_trans HLL.out hi2
      have HBL := Lib.hid hB
      subst hlv
      have HM0 := Lib.hid (show MpT (wr.alloc (.map #[] 0)) wr.heap.size (cntM (l.take 0)) from MpS.made wr)
      have HS0 := Lib.hid (HS.out.add (belowSelf wr (.map #[] 0)) (Nat.le_refl _) (by simp))
      have HVN := Lib.hid (HS.out.new (g := wr.heap.size) (Nat.le_refl _))
      have HWB := Lib.hid HS.out.below.size
      obtain ⟨mb, hmb⟩ : ∃ mb, mb = wr.heap.size := ⟨_, rfl⟩
      have HMB := Lib.hid hmb
      have hmm := @run_makeMap Try.prog
      clear HS HA HN HLL hB hmb hlt
      rcases hex with ⟨a1, a2⟩ | ⟨a1, a2, a3, a4⟩
      all_goals
        go_wp2_with fail
        clear hmm
        have hgg := HMB.out
        rw [← hgg] at HM0 HS0 HVN HWB
        simp only [← hgg]
        clear hgg
        go_loopw [125] (fun s w5 => ∃ i : Nat, i ≤ B ∧ s = .int .i64 i ∧ Hid (MpT w5 mb (cntM (l.take i))) ∧ Hid (St W [mb] tb V (.slice la B lc) l w5)) (fun s _ => B - (intOf s).toNat)
        case atStart => exact ⟨0, by omega, rfl, HM0, HS0⟩
        case round =>
          obtain ⟨j, hj, rfl, HM, HS5⟩ := hrel
          clear HM0 HS0
          by_cases hlt : j < B
          · have hd5 : decide ((j : Int) < (B : Int)) = true := by simp; omega
            have hd6 : (j : Int) < (B : Int) := by omega
            have hjl : j < l.length := by rw [← HBL.out]; exact hlt
            obtain ⟨g, off, rfl, c0, c1, c2⟩ := HS5.out.rd.at hjl
            have hid : (l[j]'hjl).1.length = 32 := (HSM.out.addr _ (List.getElem_mem hjl)).1
            have hck := cntM_ok (l.take j)
            have htk : cntM (l.take (j + 1)) = eS.set (l[j]'hjl).1 ((getK (l[j]'hjl).1 (cntM (l.take j))).getD 0 + 1) (cntM (l.take j)) := by
              rw [List.take_succ_eq_append_getElem hjl, cntM_snoc]
            obtain ⟨o, ho⟩ : ∃ o, o = l[j] := ⟨_, rfl⟩
            rw [← ho] at c0 c1 c2 hid htk
            obtain ⟨x, n, u⟩ := o
            simp only at c0 c1 c2 hid htk
            have hM6 := HM.out.of (W' := wr.alloc (.cells #[tx x, iv n, iv u] Ton)) ((belowSelf wr (.cells #[tx x, iv n, iv u] Ton)).block mb HM.out.lt)
            have hS6 := HS5.out.on (belowSelf wr (.cells #[tx x, iv n, iv u] Ton))
            have hlk := MpT.look hM6 hid
            obtain ⟨c, hc⟩ : ∃ c, c = (getK x (cntM (l.take j))).getD 0 := ⟨_, rfl⟩
            have hc0 : 0 ≤ c ∧ c ≤ 120 := by
              rw [hc, hck.2.1]
              have h1 : countO x (l.take j) ≤ (l.take j).length := List.countP_le_length
              rw [List.length_take] at h1
              split <;> simp <;> omega
            rw [← hc] at hlk htk
            obtain ⟨w6, hput, hm7, hg7⟩ := MpT.put hM6 hid (u := c + 1) (in64_of (by omega)) (by have := hck.2.2; rw [List.length_take] at this; omega)
            have HM7 := Lib.hid (show MpT w6 mb (cntM (l.take (j + 1))) from by rw [htk]; exact hm7)
            have HS7 := Lib.hid (hS6.set (g := mb) (by simp) HWB.out HVN.out hg7)
            have hcw : IntKind.i64.wrap (c + 1) = c + 1 := IntWalk.i64_in _ (by omega)
            clear hck hid htk hM6 hS6 hc hm7 hg7 ho hjl HM HS5
            go_wp2_with fail
            go_roundw
            case rel => exact ⟨j + 1, by omega, by go_num, HM7, HS7⟩
            case measure => simp [intOf]; omega
          · have hd5 : decide ((j : Int) < (B : Int)) = false := by simp; omega
            have hd6 : ¬ (j : Int) < (B : Int) := by omega
            have HM7 := Lib.hid (show MpT wr mb (cntM l) from by
              have := HM.out
              rwa [List.take_of_length_le (by rw [← HBL.out]; omega)] at this)
            clear HM
            go_wp2_with fail
            refine HS5.out.names.mono ?_
            rintro e w7 ⟨z, rfl, hz, hs7, hb7⟩
            have HB7 := Lib.hid hs7.below
            obtain ⟨za, zc, rfl, hzk, hzr⟩ := names_rows hz
            have HZK := Lib.hid hzk
            have HZR := Lib.hid hzr
            have HRI := Lib.hid (hs7.rise hzk)
            have HM8 := Lib.hid (HM7.out.of (hb7.block mb HM7.out.lt))
            have HCN := Lib.hid HSM.out.cnt
            have hKB : V.length ≤ 120 := by
              rw [← HSM.out.cnt.1]
              have := (cntM_ok l).2.2
              rw [← HBL.out] at this
              omega
            obtain ⟨C, hC⟩ : ∃ C, C = V.length := ⟨_, rfl⟩
            have HCV := Lib.hid hC
            rw [← hC] at hKB ⊢
            clear hz hs7 hb7 hzk hzr HM7 HS5 HVN hC
            go_wp2_with fail
            go_loopw [139] (fun s w8 => ∃ q : Nat, q ≤ C ∧ s = .int .i64 q ∧ Hid (Below w7.heap.size w7 w8)) (fun s _ => C - (intOf s).toNat)
            case atStart => exact ⟨0, by omega, rfl, Lib.hid (Below.refl _ _)⟩
            case round =>
              obtain ⟨q, hq, rfl, HBQ⟩ := hrel
              by_cases hlq : q < C
              · have hd7 : decide ((q : Int) < (C : Int)) = true := by simp; omega
                have hd8 : (q : Int) < (C : Int) := by omega
                have hqv : q < V.length := by rw [← HCV.out]; exact hlq
                obtain ⟨zg, rfl, hrow⟩ := HZR.out q hqv
                have HROW := Lib.hid (hrow _ HBQ.out)
                obtain ⟨x, hx⟩ : ∃ x, x = (V[q]'hqv).1 := ⟨_, rfl⟩
                have HXL := Lib.hid (show x.length = 32 from by rw [hx]; exact HZK.out _ (List.getElem_mem hqv))
                obtain ⟨c, hc, hc0⟩ := HCN.out.2 _ (List.getElem_mem hqv)
                rw [← hx] at HROW hc
                have HCX := Lib.hid hc
                have hcz : (c == 0) = false := by simp; omega
                have SZ := Lib.hid (sz_id x HXL.out)
                have HZ32 := Lib.hid (show (List.replicate 32 (byteV 0)).length = (x.map byteV).length from by rw [List.length_map, HXL.out]; rfl)
                have ONE := Lib.hid (oneBytes x)
                have HLT := Lib.hid (show ∀ r (hr : q = r + 1), cmpOf (V[r]'(by omega)).1 x < 0 from fun r hr => by
                  subst hr
                  rw [hx]
                  exact HRI.out r hqv)
                clear hrow hx hc
                go_wp2_with (first
                  | (refine wp_load_row HROW.out TI (.tmp 142) (.array 32 5) rfl rfl rfl Try.underlying30 rfl SZ.out ?_)
                  | (refine wp_store_gen (Mem.newAt wr TI (List.replicate 32 (byteV 0)) rfl) (x.map byteV) TI (.tmp 21) (.tmp 143) rfl rfl rfl rfl SZ.out HZ32.out ONE.out ?_
                     intro W9 hm9 hg9 hz9
                     have HX9 := Lib.hid hm9
                     have HB9 := Lib.hid (belowThen HBQ.out (belowNew (belowSelf wr _) hg9 (Nat.le_refl _)))
                     clear hm9 hg9 hz9)
                  | fail)
                have HLD := Lib.hid (fun p : Bw W9 => ld_id_at (HX9.out.below p.h HX9.out.lt) HXL.out)
                have HLK := Lib.hid (fun p : Bw W9 => show (Instr.lookup Tsi (.map (some mb)) (tx x) false).run Try.prog p.W = .ok (iv c) p.W from by
                  have h := MpT.look (HM8.out.of ((belowThen HB9.out p.h).block mb HM8.out.lt)) HXL.out
                  rwa [HCX.out] at h)
                have HBY := Lib.hid (fun p : Bw W9 => bytes_any x p.W HXL.out)
                by_cases hq0 : q = 0
                · subst hq0
                  have hld := HLD.out
                  have hlk := HLK.out
                  clear HBQ
                  refine wp_region_bw (by kernel_rfl) (by kernel_rfl) ?_
                  iterate 6 (quiet_step ((first
                    | (go_at_call 12; rename_i p; exact Bw.call (HBY.out p)))))
                  repeat (go_big_quiet_step ((first
                    | (go_at_call 12; rename_i p; exact Bw.call (HBY.out p)))))
                  refine wpQuiet_nil ?_
                  rintro _ ⟨p, rfl⟩
                  have HBP := Lib.hid (belowThen HB9.out p.h)
                  clear hld hlk
                  go_wp2_with fail
                  go_roundw
                  case rel => exact ⟨1, by omega, by go_num, HBP⟩
                  case measure => simp [intOf]; omega
                · obtain ⟨r, hr⟩ : ∃ r, q = r + 1 := ⟨q - 1, by omega⟩
                  have hrv : r < V.length := by omega
                  obtain ⟨zg2, e2, hrow2⟩ := HZR.out r hrv
                  have e3 : zg = zg2 := by
                    injection e2 with e2
                    injection e2
                  subst e3
                  obtain ⟨y, hy⟩ : ∃ y, y = (V[r]'hrv).1 := ⟨_, rfl⟩
                  have hyl : y.length = 32 := by rw [hy]; exact HZK.out _ (List.getElem_mem hrv)
                  have hlt0 := HLT.out r hr
                  rw [← hy] at hrow2 hlt0
                  have HLP := Lib.hid (fun p : Bw W9 => show (ldRow TI (.pointer (some ⟨zg, r * 32, none⟩))).run Try.prog p.W = .ok (.agg (y.map byteV).toArray) p.W from by
                    rw [← ld_id]
                    exact run_loadAt_mid _ _ _ _ _ (.array 32 5) (hrow2 _ (belowThen HB9.out p.h)) Try.underlying30 rfl (sz_id y hyl))
                  have HCM := Lib.hid (fun p : Bw W9 => compare_any y x p.W hyl HXL.out)
                  obtain ⟨d, hd⟩ : ∃ d, d = cmpOf y x := ⟨_, rfl⟩
                  simp only [← hd] at HCM
                  rw [← hd] at hlt0
                  have hdn : decide (d ≥ 0) = false := by simp; omega
                  have hq1 : decide ((q : Int) > 0) = true := by simp; omega
                  have hq2 : decide (0 < q) = true := by simp; omega
                  have hq3 : 0 < q := by omega
                  have hq4 : (0 : Int) < (q : Int) := by omega
                  have hq5 : decide ((0 : Int) < (q : Int)) = true := by simp; omega
                  have hs1 : IntKind.i64.wrap ((q : Int) - 1) = (r : Int) := by rw [IntWalk.i64_in _ (by omega)]; omega
                  have hs2 : wrap64 ((q : Int) - 1) = (r : Int) := by rw [IntWalk.wrap64_in _ (by omega)]; omega
                  have hr1 : (r : Int) < (C : Int) := by omega
                  have hr2 : r < C := by omega
                  have hr3 : (0 : Int) ≤ (r : Int) := by omega
                  have hld := HLD.out
                  have hlp := HLP.out
                  have hlk := HLK.out
                  clear HBQ hrow2 hlt0 hy hd hyl hrv e2 hr
                  refine wp_region_bw (by kernel_rfl) (by kernel_rfl) ?_
                  iterate 6 (quiet_step ((first
                    | (go_at_call 12; rename_i p; exact Bw.call (HBY.out p)))))
                  repeat (go_big_quiet_step ((first
                    | (go_at_call 12; rename_i p; exact Bw.call (HBY.out p))
                    | (go_at_call 20; rename_i p; exact Bw.call (HCM.out p)))))
                  refine wpQuiet_nil ?_
                  rintro _ ⟨p, rfl⟩
                  have HBP := Lib.hid (belowThen HB9.out p.h)
                  clear hld hlk hlp
                  go_wp2_with fail
                  go_roundw
                  case rel => exact ⟨q + 1, by omega, by go_num, HBP⟩
                  case measure => simp [intOf]; omega
              · have hd7 : decide ((q : Int) < (C : Int)) = false := by simp; omega
                have hd8 : ¬ (q : Int) < (C : Int) := by omega
                have hln := MpT.len (HM8.out.of (HBQ.out.block mb HM8.out.lt)) 
                rw [HCN.out.1, ← HCV.out] at hln
                have HBE := Lib.hid (belowThen HB7.out HBQ.out)
                clear HB7 HM8 HBQ HZR HZK HRI HCN HCV
                go_wp2_with fail
                go_ret
                exact ⟨rfl, HBE.out⟩
end Go.Proofs.Ytilmidddhkofaaa

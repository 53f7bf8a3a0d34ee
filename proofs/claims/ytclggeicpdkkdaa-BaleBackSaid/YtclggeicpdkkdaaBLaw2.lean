/-
  BalePuts: the walk.
-/
import Derived.Test.YtclggeicpdkkdaaBal13
import Derived.Test.YtclggeicpdkkdaaBal3n
import Derived.Test.YtclggeicpdkkdaaBLaw1
namespace Go.Proofs.Ytclggeicpdkkdaa
open Go.RowKit Crv
attribute [local go_sem] ByteArray.mk_append_mk

abbrev iv (k : Int) : Value := .int .i64 k
def cut40 (ls : List (List UInt8)) : List (List UInt8) := ls.map (·.take 40)
/-- A cell of an argument in a later world. -/
theorem Txs.at {w : World} {a : Option Addr} {cap : Nat} {ls : List (List UInt8)} (h : Txs w (.slice a ls.length cap) ls) (k : Nat) (hk : k < ls.length) : ∃ b off, a = some ⟨b, off, none⟩ ∧ w.cell? ⟨b, off + k, none⟩ = some (tx (ls[k])) ∧ b < w.heap.size := by
  obtain ⟨a', cap', hv', hc'⟩ := h
  injection hv' with h1 h2 h3
  obtain ⟨b, off, ha, hc⟩ := hc' k hk
  rw [List.getD_eq_getElem?_getD, List.getElem?_eq_getElem hk] at hc
  exact ⟨b, off, h1.trans ha, hc, World.block_lt_of_cell? w _ hc⟩
theorem Ints.at {w : World} {a : Option Addr} {cap : Nat} {ks : List Int} (h : Ints w (.slice a ks.length cap) ks) (k : Nat) (hk : k < ks.length) : ∃ b off, a = some ⟨b, off, none⟩ ∧ w.cell? ⟨b, off + k, none⟩ = some (iv (ks[k])) ∧ b < w.heap.size := by
  obtain ⟨a', cap', hv', hc'⟩ := h
  injection hv' with h1 h2 h3
  obtain ⟨b, off, ha, hc⟩ := hc' k (by simpa using hk)
  rw [List.getElem?_map, List.getElem?_eq_getElem hk] at hc
  exact ⟨b, off, h1.trans ha, hc, World.block_lt_of_cell? w _ hc⟩

theorem below_old {w wC w' : World} (hb : Below w.heap.size w wC) (hg : wC.grownBy w' (some w.heap.size)) : Below w.heap.size w w' :=
  ⟨hg.os.trans hb.os, hg.tape.trans hb.tape, hg.output.trans hb.output, Nat.le_trans hb.size hg.size, fun k hk => (hg.block k (Nat.lt_of_lt_of_le hk hb.size) (fun e => by injection e with e; omega)).trans (hb.block k hk)⟩

set_option maxRecDepth 100000 in
set_option maxHeartbeats 4000000 in
theorem balePuts_walk (n : Nat) (hn : n < 18446744073709551616) (v1 v2 v3 : Value) (ks : List Int) (ts is : List (List UInt8)) (w : World) (h1 : Ints w v1 ks) (h2 : Txs w v2 ts) (h3 : Txs w v3 is)
    (hk : ∀ k ∈ ks, -9223372036854775808 ≤ k ∧ k < 9223372036854775808) :
    Calls Try.prog 3 #[.int .u64 (n : Int), v1, v2, v3] w fun e w' => e = .returned (.bool true) ∧ Below w.heap.size w w' := by
  have hv1 : ∃ a cap, v1 = .slice a ks.length cap := by obtain ⟨a, cap, h, _⟩ := h1; exact ⟨a, cap, by rw [h, List.length_map]⟩
  have hv2 : ∃ a cap, v2 = .slice a ts.length cap := by obtain ⟨a, cap, h, _⟩ := h2; exact ⟨a, cap, h⟩
  have hv3 : ∃ a cap, v3 = .slice a is.length cap := by obtain ⟨a, cap, h, _⟩ := h3; exact ⟨a, cap, h⟩
  obtain ⟨a1, cap1, rfl⟩ := hv1
  obtain ⟨a2, cap2, rfl⟩ := hv2
  obtain ⟨a3, cap3, rfl⟩ := hv3
  have H1 := Lib.hid h1
  have H2 := Lib.hid h2
  have H3 := Lib.hid h3
  have HK := Lib.hid hk
  clear h1 h2 h3 hk
  obtain ⟨ti, hti, htz, hts, htb⟩ : ∃ i, Try.prog.info? 3 = some i ∧ i.zero = some (.int .i64 0) ∧ i.size = 1 ∧ i.bytes = 8 := info_of (by kernel_rfl)
  have HTI := Lib.hid hti
  have HTZ := Lib.hid htz
  have HTS := Lib.hid hts
  have HTB : ti.bytes ≤ 64 := by omega
  obtain ⟨tt, htt, httz, htts, httb⟩ : ∃ i, Try.prog.info? 9 = some i ∧ i.zero = some (.string (str [])) ∧ i.size = 1 ∧ i.bytes = 16 := info_of (by kernel_rfl)
  have HTT := Lib.hid htt
  have HTTZ := Lib.hid httz
  have HTTS := Lib.hid htts
  have HTTB : tt.bytes ≤ 64 := by omega
  obtain ⟨tid, hii, hiz, his, hib⟩ : ∃ i, Try.prog.info? Ti = some i ∧ i.zero = some (.agg zs32) ∧ i.size = 32 ∧ i.bytes = 32 := info_of (by kernel_rfl)
  have HII := Lib.hid hii
  have HIZ := Lib.hid hiz
  have HIS := Lib.hid his
  have HIB := Lib.hid hib
  clear hti htz hts htb htt httz htts httb hii hiz his hib
  have HA0 := Lib.hid (show Mem (w.alloc (.cells #[] 9)) w.heap.size Ts [] from Mem.newAt w Ts [] rfl)
  have HF0 := Lib.hid (show Owns ((w.alloc (.cells #[] 9)).alloc (.cells #[] 3)) (w.heap.size + 1) 3 (.slice (some ⟨w.heap.size + 1, 0, none⟩) 0 0) ((ks.take 0).map iv) from Owns.of_mem (Mem.newAt _ 3 [] (by simp)) (Nat.le_refl _) 0 0 (Nat.le_refl _) rfl (by simp [maxLen]) rfl)
  have hbA : Below (w.heap.size + 1) (w.alloc (.cells #[] 9)) ((w.alloc (.cells #[] 9)).alloc (.cells #[] 3)) := (Below.refl _ _).alloc (by simp) _
  have HBA := Lib.hid hbA
  clear hbA
  obtain ⟨wA, hwA⟩ : ∃ wA, wA = w.alloc (.cells #[] 9) := ⟨_, rfl⟩
  have HWA := Lib.hid (show Below w.heap.size w wA by rw [hwA]; exact belowSelf w _)
  have HWS := Lib.hid (show wA.heap.size = w.heap.size + 1 by rw [hwA]; simp)
  rw [← hwA] at HA0 HF0 HBA
  go_enter Try.func3, Try.ntmps3
  go_wp2_with fail
  rw [← hwA]
  clear hwA
  go_loopw [9, 12, 13] (fun s v i wr => ∃ k : Nat, k ≤ ks.length ∧ k ≤ 6 ∧ i = .int .i64 k ∧ s = .string (str ((ks.take k).flatMap fun k => numOf (nat0 k))) ∧ Hid (Owns wr (w.heap.size + 1) 3 v ((ks.take k).map iv) ∧ Below (w.heap.size + 1) wA wr)) (fun _ _ i _ => 6 - (intOf i).toNat)
  case atStart => exact ⟨0, by omega, by omega, rfl, rfl, Lib.hid ⟨HF0.out, HBA.out⟩⟩
  case round =>
    clear HF0 HBA
    obtain ⟨k, hk1, hk6, rfl, rfl, HR⟩ := hrel
    by_cases hlt : k < ks.length ∧ k < 6
    · obtain ⟨hlt1, hlt2⟩ := hlt
      obtain ⟨b, off, rfl, hc, hbl⟩ := H1.out.at k hlt1
      obtain ⟨x, hx⟩ : ∃ x, x = ks[k] := ⟨_, rfl⟩
      rw [← hx] at hc
      have hxr := HK.out x (by rw [hx]; exact List.getElem_mem hlt1)
      have HC0 := Lib.hid hc
      have hcell := (HWA.out.trans (HR.out.2.mono (Nat.le_succ _))).cell (p := ⟨b, off + k, none⟩) hbl
      rw [hc] at hcell
      have hwz : w.heap.size + 1 ≤ wr.heap.size := by have := HR.out.2.size; rw [HWS.out] at this; exact this
      have HTK := Lib.hid (show (ks.take (k + 1)).map iv = (ks.take k).map iv ++ [iv x] by rw [List.take_succ_eq_append_getElem hlt1, ← hx]; simp)
      have HSUM := Lib.hid (show ((ks.take (k + 1)).flatMap fun k => numOf (nat0 k)) = ((ks.take k).flatMap fun k => numOf (nat0 k)) ++ numOf (nat0 x) by rw [flatMap_take_succ _ ks k hlt1, ← hx])
      have hq : ((ks.take k).flatMap fun k => numOf (nat0 k)).length ≤ 54 := by
        have h4 := length_nums (ks.take k) (fun l hl => (HK.out l (List.mem_of_mem_take hl)).2)
        have h5 := List.length_take_le k ks
        omega
      have HLEN := Lib.hid (show ((ks.take k).map iv).length + [iv x].length ≤ 1099511627776 by
        have h5 := List.length_take_le k ks
        simp; omega)
      have HONE := Lib.hid (show ∀ u ∈ [iv x], u.oneCell' = true by intro u hu; simp at hu; subst hu; rfl)
      obtain ⟨q, hq'⟩ : ∃ q, q = (ks.take k).flatMap fun k => numOf (nat0 k) := ⟨_, rfl⟩
      rw [← hq'] at HSUM hq ⊢
      have hd1 : decide (k < ks.length) = true := by simpa using hlt1
      have hd2 : decide ((k : Int) < 6) = true := by simp; omega
      clear hc hx hq'
      by_cases h0 : 0 ≤ x
      · obtain ⟨m, rfl⟩ := Int.eq_ofNat_of_zero_le h0
        rw [show nat0 (m : Int) = m from by unfold nat0; omega] at HSUM
        clear h0
        go_wp2_with (first
          | (at_builtin; refine wp_append_keep (HR.out.1.alloc _) (w.heap.size + 1) (HR.out.2.alloc hwz _) (Nat.le_refl _) [iv (m : Int)] (.tmp 32) (.tmp 37) 23 ti (.int .i64 0) rfl rfl Try.underlying23 HTI.out HTZ.out HTS.out HTB rfl rfl rfl (fun j u hu => cell_news_one _ _ _ j u hu) HONE.out HLEN.out (by simp; omega) ?_
             intro v2 w2 hown2 hb2 hz2 hkp2
             rw [← HTK.out] at hown2
             have HR2 := Lib.hid (show Owns w2 (w.heap.size + 1) 3 v2 ((ks.take (k + 1)).map iv) ∧ Below (w.heap.size + 1) wA w2 from ⟨hown2, hb2⟩)
             have c2 := (HWA.out.trans (hb2.mono (Nat.le_succ _))).cell (p := ⟨b, off + k, none⟩) hbl
             rw [HC0.out] at c2
             clear hown2 hb2 hz2 hkp2)
          | fail)
        refine (refNum_any m _ (by omega)).mono ?_
        rintro e w3 ⟨rfl, hb3⟩
        have HR3 := Lib.hid (show Owns w3 (w.heap.size + 1) 3 v2 ((ks.take (k + 1)).map iv) ∧ Below (w.heap.size + 1) wA w3 from ⟨HR2.out.1.below hb3, HR2.out.2.trans (hb3.mono (by have := HR2.out.2.size; rw [HWS.out] at this; exact this))⟩)
        have hnl := length_numOf (n := m) (by omega)
        obtain ⟨nm, hnm⟩ : ∃ nm, nm = numOf m := ⟨_, rfl⟩
        rw [← hnm] at HSUM hnl
        rw [← hnm]
        clear hnm c2 hcell HR2 hb3
        go_wp2_with fail
        go_roundw
        case rel => exact ⟨k + 1, by omega, by omega, by go_num, by rw [HSUM.out], HR3⟩
        case measure => simp [intOf]; omega
      · have h0' : x < 0 := by omega
        rw [show nat0 x = 0 from by unfold nat0; omega] at HSUM
        go_wp2_with (first
          | (at_builtin; refine wp_append_keep (HR.out.1.alloc _) (w.heap.size + 1) (HR.out.2.alloc hwz _) (Nat.le_refl _) [iv x] (.tmp 32) (.tmp 37) 23 ti (.int .i64 0) rfl rfl Try.underlying23 HTI.out HTZ.out HTS.out HTB rfl rfl rfl (fun j u hu => cell_news_one _ _ _ j u hu) HONE.out HLEN.out (by simp; omega) ?_
             intro v2 w2 hown2 hb2 hz2 hkp2
             rw [← HTK.out] at hown2
             have HR2 := Lib.hid (show Owns w2 (w.heap.size + 1) 3 v2 ((ks.take (k + 1)).map iv) ∧ Below (w.heap.size + 1) wA w2 from ⟨hown2, hb2⟩)
             have c2 := (HWA.out.trans (hb2.mono (Nat.le_succ _))).cell (p := ⟨b, off + k, none⟩) hbl
             rw [HC0.out] at c2
             clear hown2 hb2 hz2 hkp2)
          | fail)
        refine (refNum_any 0 _ (by omega)).mono ?_
        rintro e w3 ⟨rfl, hb3⟩
        have HR3 := Lib.hid (show Owns w3 (w.heap.size + 1) 3 v2 ((ks.take (k + 1)).map iv) ∧ Below (w.heap.size + 1) wA w3 from ⟨HR2.out.1.below hb3, HR2.out.2.trans (hb3.mono (by have := HR2.out.2.size; rw [HWS.out] at this; exact this))⟩)
        have hnl := length_numOf (n := 0) (by omega)
        obtain ⟨nm, hnm⟩ : ∃ nm, nm = numOf 0 := ⟨_, rfl⟩
        rw [← hnm] at HSUM hnl
        rw [← hnm]
        clear hnm c2 hcell HR2 hb3
        go_wp2_with fail
        go_roundw
        case rel => exact ⟨k + 1, by omega, by omega, by go_num, by rw [HSUM.out], HR3⟩
        case measure => simp [intOf]; omega
    · have hor : ks.length = k ∨ (k < ks.length ∧ k = 6) := by omega
      clear hlt
      obtain ⟨K1, hK1⟩ : ∃ K1, K1 = ks.take k := ⟨_, rfl⟩
      have hK1l : K1.length ≤ 6 := by
        rw [hK1]
        have := List.length_take_le k ks
        omega
      have HK1R := Lib.hid (show ∀ x ∈ K1, -9223372036854775808 ≤ x ∧ x < 9223372036854775808 from fun x hx => HK.out x (by rw [hK1] at hx; exact List.mem_of_mem_take hx))
      rw [← hK1] at HR ⊢
      clear hK1
      obtain ⟨wB, hwB⟩ : ∃ wB : World, wB = wr := ⟨_, rfl⟩
      subst hwB
      obtain ⟨few, hfew⟩ : ∃ few : Value, few = u12 := ⟨_, rfl⟩
      subst hfew
      have HBW := Lib.hid (show Below w.heap.size w wB from HWA.out.trans (HR.out.2.mono (Nat.le_succ _)))
      have HNB := Lib.hid (show Mem wB w.heap.size Ts [] from HA0.out.below HR.out.2 (Nat.lt_succ_self _))
      have hNB : w.heap.size + 1 ≤ wB.heap.size := by have := HR.out.2.size; rw [HWS.out] at this; exact this
      have HFEW := Lib.hid HR.out.1
      clear HR HA0 HWA HWS
      have HS0 := Lib.hid (show Owns (wB.alloc (.cells #[] 9)) wB.heap.size Ts (.slice (some ⟨wB.heap.size, 0, none⟩) 0 0) ((cut40 (ts.take 0)).map tx) ∧ Below wB.heap.size wB (wB.alloc (.cells #[] 9)) from ⟨Owns.of_mem (Mem.newAt wB Ts [] rfl) (Nat.le_refl _) 0 0 (Nat.le_refl _) rfl (by simp [maxLen]) rfl, belowSelf _ _⟩)
      have hds : (decide (k < ks.length) = false) ∨ (decide (k < ks.length) = true ∧ decide ((k : Int) < 6) = false) := by
        rcases hor with h | ⟨h, h'⟩
        · left; simp; omega
        · right; exact ⟨by simpa using h, by simp; omega⟩
      clear hor
      rcases hds with hda | ⟨hda, hdb⟩
      all_goals
        go_wp2_with fail
        go_loopw [10, 14, 15] (fun s v i w2 => ∃ j : Nat, j ≤ ts.length ∧ j ≤ 6 ∧ i = .int .i64 j ∧ s = .string (str ((cut40 (ts.take j)).flatMap strOf)) ∧ Hid (Owns w2 wB.heap.size Ts v ((cut40 (ts.take j)).map tx) ∧ Below wB.heap.size wB w2)) (fun _ _ i _ => 6 - (intOf i).toNat)
        case atStart => exact ⟨0, by omega, by omega, rfl, rfl, HS0⟩
        case round =>
          clear HS0
          obtain ⟨j, hj1, hj6, rfl, rfl, HR⟩ := hrel
          by_cases hlt : j < ts.length ∧ j < 6
          · obtain ⟨hlt1, hlt2⟩ := hlt
            obtain ⟨b, off, rfl, hc, hbl⟩ := H2.out.at j hlt1
            obtain ⟨x, hx⟩ : ∃ x, x = ts[j] := ⟨_, rfl⟩
            rw [← hx] at hc
            have hcell := (belowThen HBW.out HR.out.2).cell (p := ⟨b, off + j, none⟩) hbl
            rw [hc] at hcell
            have HTK := Lib.hid (show (cut40 (ts.take (j + 1))).map tx = (cut40 (ts.take j)).map tx ++ [tx (x.take (40 : Int).toNat)] by rw [List.take_succ_eq_append_getElem hlt1, ← hx]; simp [cut40])
            have HSUM := Lib.hid (show (cut40 (ts.take (j + 1))).flatMap strOf = (cut40 (ts.take j)).flatMap strOf ++ strOf (x.take (40 : Int).toNat) by rw [List.take_succ_eq_append_getElem hlt1, ← hx]; simp [cut40])
            have hq : ((cut40 (ts.take j)).flatMap strOf).length ≤ 6054 := by
              have h4 := length_strs (cut40 (ts.take j)) (fun l hl => by
                obtain ⟨y, _, rfl⟩ := List.mem_map.1 hl
                have := List.length_take_le 40 y
                omega)
              have h5 := List.length_take_le j ts
              simp only [cut40, List.length_map] at h4 ⊢
              omega
            obtain ⟨q, hq'⟩ : ∃ q, q = (cut40 (ts.take j)).flatMap strOf := ⟨_, rfl⟩
            rw [← hq'] at HSUM hq ⊢
            have HLEN := Lib.hid (show ((cut40 (ts.take j)).map tx).length + 1 ≤ 1099511627776 by
              have h5 := List.length_take_le j ts
              simp [cut40]; omega)
            have hd1 : decide (j < ts.length) = true := by simpa using hlt1
            have hd2 : decide ((j : Int) < 6) = true := by simp; omega
            have hwz := HR.out.2.size
            clear hc hx hq'
            go_wp2_with fail
            refine (cutB x _ (by decide) _).mono ?_
            rintro e w' ⟨rfl, rfl⟩
            obtain ⟨y, hy⟩ : ∃ y, y = x.take (40 : Int).toNat := ⟨_, rfl⟩
            have hyl : y.length ≤ 40 := by rw [hy]; exact List.length_take_le _ _
            rw [← hy] at HTK HSUM
            rw [← hy]
            have HONE := Lib.hid (show ∀ u ∈ [tx y], u.oneCell' = true by intro u hu; simp at hu; subst hu; rfl)
            clear hy
            go_wp2_with (first
              | (at_builtin; refine wp_append_keep (HR.out.1.alloc _) wB.heap.size (HR.out.2.alloc hwz _) (Nat.le_refl _) [tx y] (.tmp 64) (.tmp 66) 24 tt (.string (str [])) rfl rfl Try.underlying24 HTT.out HTTZ.out HTTS.out HTTB rfl rfl rfl (fun j u hu => cell_news_one _ _ _ j u hu) HONE.out HLEN.out (by simp; omega) ?_
                 intro v2 w2 hown2 hb2 hz2 hkp2
                 rw [← HTK.out] at hown2
                 have HR2 := Lib.hid (show Owns w2 wB.heap.size Ts v2 ((cut40 (ts.take (j + 1))).map tx) ∧ Below wB.heap.size wB w2 from ⟨hown2, hb2⟩)
                 clear hown2 hb2 hz2 hkp2)
              | fail)
            refine (refStr_any y _ (by omega)).mono ?_
            rintro e w3 ⟨rfl, hb3⟩
            have HR3 := Lib.hid (show Owns w3 wB.heap.size Ts v2 ((cut40 (ts.take (j + 1))).map tx) ∧ Below wB.heap.size wB w3 from ⟨HR2.out.1.below hb3, belowThen HR2.out.2 hb3⟩)
            have hnl : (strOf y).length ≤ 49 := by
              have := length_numOf (n := y.length) (by omega)
              unfold strOf
              rw [List.length_append]
              omega
            obtain ⟨nm, hnm⟩ : ∃ nm, nm = strOf y := ⟨_, rfl⟩
            rw [← hnm] at HSUM hnl
            rw [← hnm]
            clear hnm hcell HR2 hb3
            go_wp2_with fail
            go_roundw
            case rel => exact ⟨j + 1, by omega, by omega, by go_num, by rw [HSUM.out], HR3⟩
            case measure => simp [intOf]; omega
          · have hor : ts.length = j ∨ (j < ts.length ∧ j = 6) := by omega
            clear hlt
            obtain ⟨T1, hT1⟩ : ∃ T1, T1 = cut40 (ts.take j) := ⟨_, rfl⟩
            have hT1l : T1.length ≤ 6 := by
              rw [hT1, cut40, List.length_map]
              have := List.length_take_le j ts
              omega
            have HT1R := Lib.hid (show ∀ x ∈ T1, x.length ≤ 1000 from fun x hx => by
              rw [hT1] at hx
              obtain ⟨y, _, rfl⟩ := List.mem_map.1 hx
              have := List.length_take_le 40 y
              omega)
            rw [← hT1] at HR ⊢
            clear hT1
            obtain ⟨wC, hwC⟩ : ∃ wC : World, wC = wr := ⟨_, rfl⟩
            subst hwC
            obtain ⟨short, hshort⟩ : ∃ short : Value, short = u14 := ⟨_, rfl⟩
            subst hshort
            have HBC := Lib.hid (show Below w.heap.size w wC from belowThen HBW.out HR.out.2)
            have HFC := Lib.hid (show Owns wC (w.heap.size + 1) 3 few (K1.map iv) from HFEW.out.below HR.out.2)
            have hNC : w.heap.size < wC.heap.size := by have := HR.out.2.size; omega
            have HSC := Lib.hid (show Owns wC wB.heap.size Ts short (T1.map tx) from HR.out.1)
            have HL0 := Lib.hid (show L3 wC w.heap.size (.slice (some ⟨wC.heap.size, 0, none⟩) 0 0) (.slice (some ⟨w.heap.size, 0, none⟩) 0 0) ((is.take 0).map nameOf) ((is.take 0).map nameOf) (wC.alloc (.cells #[] Ti)) from L3.begin (HNB.out.below HR.out.2 HNB.out.lt))
            clear HR HNB HFEW HBW
            have hds : (decide (j < ts.length) = false) ∨ (decide (j < ts.length) = true ∧ decide ((j : Int) < 6) = false) := by
              rcases hor with h | ⟨h, h'⟩
              · left; simp; omega
              · right; exact ⟨by simpa using h, by simp; omega⟩
            clear hor
            rcases hds with hdc | ⟨hdc, hdd⟩
            all_goals
              go_wp2_with fail
              go_loopw [11, 17, 18] (fun va vs i w3 => ∃ p : Nat, p ≤ is.length ∧ p ≤ 6 ∧ i = .int .i64 p ∧ Hid (L3 wC w.heap.size vs va ((is.take p).map nameOf) ((is.take p).map nameOf) w3)) (fun _ _ i _ => 6 - (intOf i).toNat)
              case atStart => exact ⟨0, by omega, by omega, rfl, HL0⟩
              case round =>
                clear HL0
                obtain ⟨p, hp1, hp6, rfl, HR⟩ := hrel
                by_cases hlt : p < is.length ∧ p < 6
                · obtain ⟨hlt1, hlt2⟩ := hlt
                  obtain ⟨b, off, rfl, hc, hbl⟩ := H3.out.at p hlt1
                  obtain ⟨x0, hx0⟩ : ∃ x, x = is[p] := ⟨_, rfl⟩
                  rw [← hx0] at hc
                  have hcell := (below_old HBC.out HR.out.2.2.1).cell (p := ⟨b, off + p, none⟩) hbl
                  rw [hc] at hcell
                  have HTK := Lib.hid (show (is.take (p + 1)).map nameOf = (is.take p).map nameOf ++ [nameOf x0] by rw [List.take_succ_eq_append_getElem hlt1, ← hx0]; simp)
                  have HLEN := Lib.hid (show ((is.take p).map nameOf).length ≤ 1000 by
                    have h5 := List.length_take_le p is
                    simp; omega)
                  have HNM := Lib.hid (name_any x0)
                  obtain ⟨x, hx⟩ : ∃ x, x = nameOf x0 := ⟨_, rfl⟩
                  have hxl : x.length = 32 := by rw [hx]; exact length_nameOf _
                  rw [← hx] at HNM HTK
                  have SZ := Lib.hid (sz_id x hxl)
                  have HZ := Lib.hid (show (List.replicate 32 (byteV 0)).length = (x.map byteV).length by rw [List.length_map, hxl]; rfl)
                  have ONE := Lib.hid (oneBytes x)
                  have HXL := Lib.hid hxl
                  obtain ⟨L, hL⟩ : ∃ L, L = (is.take p).map nameOf := ⟨_, rfl⟩
                  rw [← hL] at HR HTK HLEN
                  have HONE := Lib.hid (show ∀ u ∈ [tx x], u.oneCell' = true by intro u hu; simp at hu; subst hu; rfl)
                  have HLEN2 := Lib.hid (show L.length ≤ 1099511627776 from Nat.le_trans HLEN.out (by omega))
                  have HLEN3 := Lib.hid (show (L.map tx).length + [tx x].length ≤ 1099511627776 by
                    have := HLEN.out
                    simp; omega)
                  have hd1 : decide (p < is.length) = true := by simpa using hlt1
                  have hd2 : decide ((p : Int) < 6) = true := by simp; omega
                  clear hc hx0 hx hxl hL
                  go_wp2_with fail
                  refine (HNM.out _).mono ?_
                  rintro e w4 ⟨rfl, hb4⟩
                  have HR4 := Lib.hid (HR.out.below hb4)
                  have HNE := Lib.hid (show some w4.heap.size ≠ u17.ownBlock from fun e => by
                    have := (HR4.out.1.lt w4.heap.size e.symm).1
                    omega)
                  clear HR hb4 hcell
                  go_wp2_with (first
                    | (refine wp_store_gen (B := w4.heap.size) (w0 := w4) (belowSelf w4 _) (Nat.le_refl _) (Mem.newAt w4 Ti (List.replicate 32 (byteV 0)) rfl) (x.map byteV) Ti (.tmp 19) (.tmp 87) rfl rfl rfl rfl SZ.out HZ.out ONE.out ?_
                       intro W5 hm5 hb5 hz5 hk5
                       have HX5 := Lib.hid hm5
                       have HR5 := Lib.hid (HR4.out.below hb5)
                       have HLC := Lib.hid (show wC.heap.size ≤ (W5.alloc (.cells (x.map byteV).toArray Ti)).heap.size from Nat.le_trans HR5.out.2.2.1.size (by simp))
                       clear hm5 hb5 hz5 hk5)
                    | (refine wp_load_mem HX5.out Ti (.tmp 19) (.array 32 5) rfl rfl rfl Try.underlying30 rfl SZ.out ?_)
                    | (refine wp_build_id x HXL.out (.tmp 89) rfl rfl rfl ?_)
                    | (at_builtin; refine wp_append_id (HR5.out.1.below (belowSelf _ _)) wC.heap.size (Below.refl _ _) (Nat.le_refl _) x HXL.out (.tmp 88) (.tmp 90) 28 tid (.agg zs32) rfl rfl Try.underlying28 HII.out HIZ.out HIS.out HIB.out rfl rfl rfl (Mem.newAt W5 Ti (x.map byteV) rfl) HLEN2.out HLC.out ?_
                       intro v6 w6 hids6 hb6 hz6 hg6 hat6
                       have HR6 := Lib.hid ((HR5.out.below (belowSelf _ _)).id hids6 hg6 hat6)
                       have hcv6 := arr_string (Mem.grown (HX5.out.alloc _) hg6 HNE.out) HXL.out
                       clear hids6 hb6 hz6 hg6 hat6)
                    | (at_builtin; refine wp_append_news (HR6.out.2.1.alloc _) w.heap.size (Below.refl _ _) (Nat.le_refl _) [tx x] (.tmp 92) (.tmp 95) 24 tt (.string (str [])) rfl rfl Try.underlying24 HTT.out HTTZ.out HTTS.out HTTB rfl rfl rfl (fun j u hu => cell_news_one _ _ _ j u hu) HONE.out HLEN3.out (Nat.le_trans (Nat.le_of_lt hNC) (Nat.le_trans HR6.out.2.2.1.size (by simp))) ?_
                       intro v7 w7 hown7 hb7 hz7 hg7 hat7
                       have HR7 := Lib.hid ((HR6.out.below (belowSelf _ _)).str (ys' := L ++ [x]) (by rw [List.map_append]; exact hown7) hg7 hat7)
                       rw [← HTK.out] at HR7
                       clear hown7 hb7 hz7 hg7 hat7 hcv6)
                    | fail)
                  go_roundw
                  case rel => exact ⟨p + 1, by omega, by omega, by go_num, HR7⟩
                  case measure => simp [intOf]; omega
                · have hor : is.length = p ∨ (p < is.length ∧ p = 6) := by omega
                  clear hlt
                  obtain ⟨P1, hP1⟩ : ∃ P1, P1 = (is.take p).map nameOf := ⟨_, rfl⟩
                  have hP1l : P1.length ≤ 6 := by
                    rw [hP1, List.length_map]
                    have := List.length_take_le p is
                    omega
                  rw [← hP1] at HR
                  clear hP1
                  have HBD := Lib.hid (below_old HBC.out HR.out.2.2.1)
                  have HFD := Lib.hid (Owns.grownN HFC.out HR.out.2.2.1 (Nat.lt_succ_self _))
                  have HSD := Lib.hid (Owns.grownN HSC.out HR.out.2.2.1 (by omega))
                  obtain ⟨wD, hwD⟩ : ∃ wD : World, wD = wr := ⟨_, rfl⟩
                  subst hwD
                  have hds : (decide (p < is.length) = false) ∨ (decide (p < is.length) = true ∧ decide ((p : Int) < 6) = false) := by
                    rcases hor with h | ⟨h, h'⟩
                    · left; simp; omega
                    · right; exact ⟨by simpa using h, by simp; omega⟩
                  clear hor HBC HFC HSC
                  rcases hds with hde | ⟨hde, hdf⟩
                  all_goals
                    go_wp2_with fail
                    refine (awake4_any _).mono ?_
                    rintro e w5 ⟨rfl, hb5⟩
                    go_wp2_with fail
                    refine (num_any n _ hn).mono ?_
                    rintro e w6 ⟨rfl, hb6⟩
                    have hb06 := belowThen hb5 hb6
                    clear hb5 hb6
                    go_wp2_with fail
                    refine (refNum_any n _ hn).mono ?_
                    rintro e w7 ⟨rfl, hb7⟩
                    have hb07 := belowThen hb06 hb7
                    clear hb06 hb7
                    go_wp2_with fail
                    refine (nums_any w7 few K1 (HFD.out.below hb07).reads (by omega) HK1R.out).mono ?_
                    rintro e w8 ⟨rfl, hb8⟩
                    have hb08 := belowThen hb07 hb8
                    clear hb07 hb8
                    go_wp2_with fail
                    refine (strs_any w8 short T1 (Txs.of_owns (HSD.out.below hb08)) (by omega) HT1R.out).mono ?_
                    rintro e w9 ⟨rfl, hb9⟩
                    have hb09 := belowThen hb08 hb9
                    clear hb08 hb9
                    go_wp2_with fail
                    refine (ids_any w9 wC.heap.size _ P1 (HR.out.1.below hb09) (by omega)).mono ?_
                    rintro e w10 ⟨rfl, hb10⟩
                    have hb010 := belowThen hb09 hb10
                    clear hb09 hb10
                    go_wp2_with fail
                    refine (refIDs_any w10 _ P1 (Txs.of_owns (HR.out.2.1.below hb010)) (by omega) HR.out.1.1).mono ?_
                    rintro e w11 ⟨rfl, hb11⟩
                    have hb011 := belowThen hb010 hb11
                    clear hb010 hb11
                    go_wp2_with fail
                    go_ret
                    exact ⟨rfl, belowThen HBD.out hb011⟩
end Go.Proofs.Ytclggeicpdkkdaa

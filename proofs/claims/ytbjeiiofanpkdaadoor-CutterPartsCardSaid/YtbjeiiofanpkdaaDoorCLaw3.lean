/-
  CutterAgain: the walk.
-/
import Derived.Test.YtbjeiiofanpkdaaDoorCut9
namespace Go.Proofs.YtbjeiiofanpkdaaDoor
open Go.RowKit Crv

theorem strs_kt {A C : World} {B base : Nat} {o : Value} {xs : List Value} (h : Owns A base 9 o xs) (hk : Kt B A C) : Owns C base 9 o xs := h.of_below (fun g hgo => by
  obtain ⟨cs, hcs⟩ := row_tag h g hgo
  refine hk.block g (Array.getElem?_eq_some_iff.1 hcs).1 (fun hm => ?_)
  obtain ⟨cs', T, fr, h1, h2⟩ := hm.2
  rw [hcs] at h1
  injection h1 with h1
  injection h1 with _ h1
  rcases h2 with h2 | h2 | h2
  · exact absurd (h1.trans h2) (by decide)
  · exact absurd (h1.trans h2) (by decide)
  · exact absurd (h1.trans h2) (by decide))
theorem not_mine_new {w : World} {B : Nat} {xs : Array Value} : ∀ g, (Value.slice (some ⟨w.heap.size, 0, none⟩) xs.size xs.size).ownBlock = some g → ¬ Mine B (w.alloc (.cells xs 9)) g := fun g hg hm => by
  injection hg with hg
  subst hg
  obtain ⟨cs', T, fr, h1, h2⟩ := hm.2
  rw [World.alloc_heap_new w (.cells xs 9)] at h1
  injection h1 with h1
  injection h1 with _ h1
  rcases h2 with h2 | h2 | h2
  · exact absurd (h1.trans h2) (by decide)
  · exact absurd (h1.trans h2) (by decide)
  · exact absurd (h1.trans h2) (by decide)
theorem CutH.alloc {w : World} {B cb rb tb v n : Nat} {t : List Nat} {h : List UInt8} {hv : Value} (H : CutH w B cb rb tb t v n h hv) (o : Obj) : CutH (w.alloc o) B cb rb tb t v n h hv := H.apart (World.grownBy_alloc w o none) (fun g hg => by cases hg)
theorem Kt.alloc {w : World} (B : Nat) (o : Obj) : Kt B w (w.alloc o) := (Kt.refl B w).step (World.grownBy_alloc w o none) (fun g hg => by cases hg)
theorem fed_end {t : List Nat} {s : List UInt8} {ls : List (List UInt8)} {h : List UInt8} (f : Fed t [] s ls h) : cuts t s = if h = [] then ls else ls ++ [h] := by
  have h1 := f.cut []
  rw [List.append_nil, List.append_nil, List.nil_append] at h1
  split
  · rename_i h2
    rw [h1, h2, cuts_nil, List.append_nil]
  · rename_i h2
    rw [h1, cuts_wait f.no h2]
theorem Tb.low {A C : World} {B tb : Nat} {t : List Nat} (h : Tb A tb t) (hb : Below B A C) (hl : tb < B) : Tb C tb t := ⟨h.1.below hb hl, h.2⟩
set_option maxHeartbeats 4000000 in
set_option maxRecDepth 100000 in
theorem cutterAgain_walk (a0 b0 : List UInt8) (n : Int) (w : World) (hc : Consts w) :
    Calls Tryd.prog 13 #[.string (str a0), .string (str b0), .int .i64 n] w fun e w' => e = .returned (.bool true) ∧ Below w.heap.size w w' := by
  have HCA := Lib.hid (fun W => cutB a0 200 (by omega) W)
  have HCB := Lib.hid (fun W => cutB b0 200 (by omega) W)
  rw [show (200 : Int).toNat = 200 from rfl] at HCA HCB
  have HBA := Lib.hid (fun W => bytes_of (a0.take 200) n W)
  have HBB := Lib.hid (fun W => bytes_of (b0.take 200) 700 W)
  have HC := Lib.hid hc
  have HN := Lib.hid (fun W hW => gearNew_any [99, 97, 114, 97, 118, 97, 110] W hW (by decide))
  obtain ⟨t, ht⟩ : ∃ t, t = gearTab [99, 97, 114, 97, 118, 97, 110] := ⟨_, rfl⟩
  simp only [← ht] at HN
  obtain ⟨ti, hi, hz, hsz, hby⟩ := str_info
  have HTI := Lib.hid hi
  have HTZ := Lib.hid hz
  have HTS := Lib.hid hsz
  have HTB : ti.bytes ≤ 64 := by omega
  clear ht hc hi hz hsz hby
  go_enter Tryd.func13, Tryd.ntmps13
  go_wp2_with fail
  refine (HCA.out _).mono ?_
  rintro e w' ⟨rfl, rfl⟩
  go_wp2_with fail
  refine (HBA.out _).mono ?_
  rintro e w1 ⟨sa, rfl, hal, hb1⟩
  have ha15 : sa.length ≤ 1500 := by omega
  clear hal
  go_wp2_with fail
  refine (HCB.out _).mono ?_
  rintro e w' ⟨rfl, rfl⟩
  go_wp2_with fail
  refine (HBB.out _).mono ?_
  rintro e w3 ⟨s, rfl, hsl, hb3⟩
  have hs15 : s.length ≤ 1500 := by omega
  have HB3 := Lib.hid (belowThen hb1 hb3)
  clear hsl hb1 hb3 HCA HCB HBA HBB
  have HA := Lib.hid (awake8_any w3 (HC.out.below HB3.out))
  go_wp2_with fail
  refine HA.out.mono ?_
  rintro e w4 ⟨rfl, hb4⟩
  have HB4 := Lib.hid (belowThen HB3.out hb4)
  clear hb4 HA
  go_wp2_with fail
  refine (HN.out _ (HC.out.below HB4.out)).mono ?_
  rintro e w5 ⟨rfl, htb, hb5⟩
  have HB5 := Lib.hid (belowThen HB4.out hb5)
  obtain ⟨tb, htbe⟩ : ∃ b, b = w4.heap.size := ⟨_, rfl⟩
  rw [← htbe] at htb
  simp only [← htbe]
  have HT5 := Lib.hid htb
  clear hb5 htbe htb HN HB4 HC
  obtain ⟨B, hB⟩ : ∃ B, B = w5.heap.size := ⟨_, rfl⟩
  have hwB : w.heap.size ≤ B := by rw [hB]; exact HB5.out.size
  have HTL := Lib.hid (show tb < B by rw [hB]; exact HT5.out.1.lt)
  go_wp2_with fail
  refine (cutNew_any tb t w5 HT5.out).mono ?_
  rintro e w6 ⟨tb1, rb, cb, rfl, ht6, hr6, hc6, hb6, k1, k2, k3⟩
  rw [← hB] at hb6 k1 k2 k3
  have HB6 := Lib.hid (show Below w.heap.size w w6 from HB5.out.trans (hb6.mono hwB))
  have HH6 := Lib.hid (show CutH w6 B cb rb tb1 t (rollAll t []) ([] : List UInt8).length [] (.slice none 0 0) from ⟨ht6, hr6, hc6, Owns.nil _ _ _, k3, k2, by rw [hB]; rw [hB] at hb6; exact hb6.size⟩)
  have HT6 := Lib.hid (HT5.out.low hb6 HTL.out)
  have hB6 := HH6.out.bs
  have HHa := Lib.hid (HH6.out.alloc (.cells #[tx sa] 9))
  have HWA := Lib.hid (write8_any B cb rb tb1 t [] _ _ [sa] _ HHa.out (NoStop.nil t) (Txs.new (w := w6) (t := 9) [sa] 1) (not_mine_new (w := w6) (xs := #[tx sa])) (by simp) (by simp; omega))
  have HKa := Lib.hid (Kt.alloc (w := w6) B (.cells #[tx sa] 9))
  clear ht6 hr6 hc6 hb6 k1 k2 k3 hB HT5 HH6
  go_wp2_with fail
  refine HWA.out.mono ?_
  rintro e w7 ⟨v7, ls7, h7, hv7, rfl, -, hh7, hf7, hk7⟩
  have HK7 := Lib.hid (HKa.out.trans hk7)
  have HCL := Lib.hid (close_any B cb rb tb1 _ _ t h7 hv7 w7 hh7 (by have := hf7.no.short; omega))
  clear hh7 hf7 hk7 HWA HKa HHa
  go_wp2_with fail
  refine HCL.out.mono ?_
  rintro e w8 ⟨rfl, hh8, hk8⟩
  have HK8 := Lib.hid (HK7.out.trans hk8)
  have HHb := Lib.hid (show CutH (w8.alloc (.cells #[tx s] 9)) B cb rb tb1 t (rollAll t []) ([] : List UInt8).length [] (.slice none 0 0) from hh8.alloc _)
  have HWB := Lib.hid (write8_any B cb rb tb1 t [] _ _ [s] _ HHb.out (NoStop.nil t) (Txs.new (w := w8) (t := 9) [s] 1) (not_mine_new (w := w8) (xs := #[tx s])) (by simp) (by simp; omega))
  have HKb := Lib.hid (HK8.out.trans (Kt.alloc (w := w8) B (.cells #[tx s] 9)))
  rw [show [s].flatten = s by simp] at HWB
  have hsz9 := HHb.out.bs
  clear hh8 hk8 HCL HK7 HK8 HHb
  go_wp2_with fail
  refine HWB.out.mono ?_
  rintro e w9 ⟨v9, ls, h9, hv9, rfl, ho9, hh9, hf9, hk9⟩
  have HK9 := Lib.hid (HKb.out.trans hk9)
  have hls := fed_count hf9
  have hsh := hf9.no.short
  have HFE := Lib.hid (fed_end hf9)
  have HCL := Lib.hid (close_any B cb rb tb1 _ _ t h9 hv9 w9 hh9 (by omega))
  have HO9 := Lib.hid ho9
  have HK9s := Lib.hid hk9.size
  clear hh9 hf9 hk9 HWB HKb ho9
  go_wp2_with fail
  refine HCL.out.mono ?_
  rintro e w10 ⟨rfl, -, hk10⟩
  have HK10 := Lib.hid (HK9.out.trans hk10)
  have HO10 := Lib.hid (strs_kt HO9.out hk10)
  have HT10 := Lib.hid (HT6.out.low (HK10.out.below hB6) HTL.out)
  have HB10 := Lib.hid (show Below w.heap.size w w10 from HB6.out.trans ((HK10.out.below hB6).mono hwB))
  have hz10 : (w8.alloc (.cells #[tx s] 9)).heap.size ≤ w10.heap.size := by
    have h1 := HK9s.out
    have h2 := hk10.size
    omega
  have HRC := Lib.hid (fun W hW => refCut_any tb t s W hW (by omega))
  have hlc := length_cuts t s
  obtain ⟨cs, hcs⟩ : ∃ c, c = cuts t s := ⟨_, rfl⟩
  simp only [← hcs] at HRC
  rw [← hcs] at HFE hlc
  obtain ⟨base, hbase⟩ : ∃ b, b = (w8.alloc (.cells #[tx s] 9)).heap.size := ⟨_, rfl⟩
  rw [← hbase] at HO10 hsz9 hz10
  clear hk10 HO9 HK9 HCL hcs hbase HK9s
  by_cases h0 : h9 = []
  · subst h0
    have HE := Lib.hid (show cs = ls by have := HFE.out; rwa [if_pos rfl] at this)
    go_wp2_with fail
    refine (HRC.out _ HT10.out).mono ?_
    rintro e w11 ⟨vz, rfl, hoz, hb11⟩
    rw [HE.out] at hoz
    have HSA := Lib.hid (same_any v9 vz ls w11 (Txs.of_owns (HO10.out.below hb11)) (Txs.of_owns hoz) (by simp at hls; omega))
    have HB11 := Lib.hid (belowThen HB10.out hb11)
    clear hoz hb11
    go_wp2_with fail
    refine HSA.out.mono ?_
    rintro e w12 ⟨rfl, hb12⟩
    have HB12 := Lib.hid (belowThen HB11.out hb12)
    clear hb12
    go_wp2
    go_ret
    exact ⟨rfl, HB12.out⟩
  · have hem : h9.isEmpty = false := by rw [List.isEmpty_eq_false_iff]; exact h0
    have HE := Lib.hid (show cs = ls ++ [h9] by have := HFE.out; rwa [if_neg h0] at this)
    have HLEN := Lib.hid (show (ls.map tx).length + [tx h9].length ≤ 1099511627776 by rw [List.length_map]; simp at hls ⊢; omega)
    have HONE := Lib.hid (show ∀ u ∈ [tx h9], u.oneCell' = true by intro u hu; simp at hu; subst hu; rfl)
    go_wp2_with (first
      | (at_builtin; refine wp_append_keep (HO10.out.alloc _) B ((Below.refl B w10).alloc (by omega) _) hsz9 [tx h9] (.tmp 40) (.tmp 42) 53 ti (.string ⟨#[]⟩) rfl rfl Tryd.underlying53 HTI.out HTZ.out HTS.out HTB rfl rfl rfl (fun j u hu => cell_news_one _ _ _ j u hu) HONE.out HLEN.out (by simp; omega) ?_
         intro v11 w11 ho11 hb11 hz11 hkp11
         rw [show ls.map tx ++ [tx h9] = (ls ++ [h9]).map tx by rw [List.map_append]; rfl] at ho11
         have HO11 := Lib.hid ho11
         have HT11 := Lib.hid (HT10.out.low hb11 HTL.out)
         have HB11 := Lib.hid (show Below w.heap.size w w11 from HB10.out.trans (hb11.mono hwB))
         clear ho11 hb11 hz11 hkp11)
      | fail)
    refine (HRC.out _ HT11.out).mono ?_
    rintro e w12 ⟨vz, rfl, hoz, hb12⟩
    rw [HE.out] at hoz
    have HSA := Lib.hid (same_any v11 vz (ls ++ [h9]) w12 (Txs.of_owns (HO11.out.below hb12)) (Txs.of_owns hoz) (by rw [List.length_append]; simp at hls ⊢; omega))
    have HB12 := Lib.hid (belowThen HB11.out hb12)
    clear hoz hb12
    go_wp2_with fail
    refine HSA.out.mono ?_
    rintro e w13 ⟨rfl, hb13⟩
    have HB13 := Lib.hid (belowThen HB12.out hb13)
    clear hb13
    go_wp2
    go_ret
    exact ⟨rfl, HB13.out⟩
end Go.Proofs.YtbjeiiofanpkdaaDoor

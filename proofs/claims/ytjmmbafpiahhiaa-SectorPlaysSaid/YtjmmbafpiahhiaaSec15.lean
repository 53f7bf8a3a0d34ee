/-
  Layer 3's laws: Few.
-/
import Derived.Test.YtjmmbafpiahhiaaSec14
namespace Go.Proofs.Ytjmmbafpiahhiaa
open Go.RowKit Go.Maps Go.Sort Go.Shelf Crv

/-- Texts, each cut. -/
def cutL (m : Nat) (ls : List (List UInt8)) : List (List UInt8) := ls.map fun l => l.take m
theorem cutL_step {m k : Nat} {ls : List (List UInt8)} (h : k < ls.length) : ((cutL m (ls.take (k + 1))).map tx) = (cutL m (ls.take k)).map tx ++ [tx ((ls.getD k []).take m)] := by
  rw [List.take_add_one, List.getD_eq_getElem?_getD, List.getElem?_eq_getElem h]
  unfold cutL
  rw [List.map_append, List.map_append]
  rfl
theorem length_cutL {m : Nat} {ls : List (List UInt8)} : (cutL m ls).length = ls.length := by simp [cutL]
theorem text_info : ∃ i, Try.prog.info? 9 = some i ∧ i.zero = some (.string ⟨#[]⟩) ∧ i.size = 1 ∧ i.bytes = 16 := info_of (by kernel_rfl)
theorem owns_none (w : World) : Owns (w.alloc (.cells #[] 9)) w.heap.size 9 (.slice (some ⟨w.heap.size, 0, none⟩) 0 0) [] :=
  Owns.of_mem (Mem.newAt w 9 [] rfl) (Nat.le_refl _) 0 0 (Nat.le_refl _) rfl (Nat.zero_le _) rfl

set_option maxHeartbeats 2000000 in
set_option maxRecDepth 100000 in
theorem few_any (w : World) (v : Value) (ls : List (List UInt8)) (hv : Txs w v ls) (hn : ls.length ≤ 9223372036854775807) :
    Calls Try.prog 21 #[v] w fun e w' => ∃ v', e = .returned v' ∧ Owns w' w.heap.size 9 v' ((cutL 70 (ls.take 6)).map tx) ∧ Below w.heap.size w w' := by
  obtain ⟨a, cap, rfl, hcell⟩ := hv
  have HV := Lib.hid (show Txs w (.slice a ls.length cap) ls from ⟨a, cap, rfl, hcell⟩)
  obtain ⟨tt, htt, htz, hts, htb⟩ := text_info
  have HTT := Lib.hid htt
  have HTZ := Lib.hid htz
  have HTS := Lib.hid hts
  have HTB := Lib.hid (show tt.bytes ≤ 64 by omega)
  clear hcell htt htz hts htb
  go_enter Try.func21, Try.ntmps21
  go_wp2_with fail
  go_loopw [3, 4] (fun o x wr => ∃ k : Nat, k ≤ ls.length ∧ k ≤ 6 ∧ x = .int .i64 k ∧ Hid (Owns wr w.heap.size 9 o ((cutL 70 (ls.take k)).map tx)) ∧ Hid (Below w.heap.size w wr)) (fun _ x _ => 6 - (intOf x).toNat)
  case atStart => exact ⟨0, by omega, by omega, rfl, Lib.hid (owns_none w), Lib.hid (belowSelf w _)⟩
  case round =>
    obtain ⟨k, hk, hk6, rfl, HO, HB⟩ := hrel
    by_cases hlt : k < ls.length
    · have hd1 : decide ((k : Int) < (ls.length : Int)) = true := by simp; omega
      by_cases hl6 : k < 6
      · have hd2 : decide ((k : Int) < 6) = true := by simp; omega
        obtain ⟨s, hs⟩ : ∃ s, s = ls.getD k [] := ⟨_, rfl⟩
        obtain ⟨a', cap', hv', hc'⟩ := HV.out.below HB.out
        injection hv' with h1 h2 h3
        obtain ⟨b, off, ha, hcell⟩ := hc' k hlt
        rw [← h1] at ha
        subst ha
        rw [← hs] at hcell
        have HST := Lib.hid (cutL_step (m := 70) hlt)
        rw [← hs] at HST
        have HC := Lib.hid (fun W => cutB s 70 (by omega) W)
        rw [show (70 : Int).toNat = 70 from rfl] at HC
        obtain ⟨x, hx⟩ : ∃ x, x = s.take 70 := ⟨_, rfl⟩
        rw [← hx] at HST HC
        have hbz := HB.out.size
        have HLE := Lib.hid (show ((cutL 70 (ls.take k)).map tx).length + [tx x].length ≤ 1099511627776 by rw [List.length_map, length_cutL, List.length_take]; simp; omega)
        have HONE := Lib.hid (show ∀ u ∈ [tx x], u.oneCell' = true by intro u hu; simp at hu; subst hu; rfl)
        have HB1 := Lib.hid (belowThen HB.out (belowSelf wr (.cells #[tx x] 9)))
        clear hs h1 h2 h3 hc' hx
        go_wp2_with fail
        refine (HC.out _).mono ?_
        rintro e w1 ⟨rfl, rfl⟩
        go_wp2_with (first
          | (at_builtin; refine wp_append_news (HO.out.alloc _) w.heap.size HB1.out (Nat.le_refl _) [tx x] (.tmp 16) (.tmp 22) 26 tt (.string ⟨#[]⟩) rfl rfl Try.underlying26 HTT.out HTZ.out HTS.out HTB.out rfl rfl rfl (fun j u hu => cell_news_one _ _ _ j u hu) HONE.out HLE.out (by simp; omega) ?_
             intro v2 w2 hown2 hb2 hz2 hg2 hat2
             rw [← HST.out] at hown2
             have HO2 := Lib.hid hown2
             have HB2 := Lib.hid hb2
             clear hown2 hb2 hz2 hg2 hat2)
          | fail)
        refine ⟨⟨k + 1, by omega, by omega, by go_num, HO2, HB2⟩, ?_⟩
        simp [intOf]; omega
      · have hd2 : decide ((k : Int) < 6) = false := by simp; omega
        have ek : k = 6 := by omega
        subst ek
        go_wp2
        go_ret
        exact ⟨_, rfl, HO.out, HB.out⟩
    · have hd1 : decide ((k : Int) < (ls.length : Int)) = false := by simp; omega
      have ek : ls.take k = ls.take 6 := by rw [List.take_of_length_le (by omega), List.take_of_length_le (by omega)]
      rw [ek] at HO
      go_wp2
      go_ret
      exact ⟨_, rfl, HO.out, HB.out⟩
end Go.Proofs.Ytjmmbafpiahhiaa

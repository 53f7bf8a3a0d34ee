/-
  The laws' first look at cutter.
-/
import Derived.Test.YtbjeiiofanpkdaaDoorCut5
namespace Go.Proofs.YtbjeiiofanpkdaaDoor
open Go.RowKit Crv

theorem cuts_short (t : List Nat) {s : List UInt8} (h0 : s ≠ []) (h : s.length < 32) : cuts t s = [s] := by
  have hn : firstStop t 0 0 s = none := firstStop_none (fun j hj => by unfold stops; exact endsB_short (by omega))
  have he : endOf t s = s.length := adv_none hn
  rw [cuts_cons t h0, he, List.take_length, List.drop_length, cuts_nil]
/-- A list of one's own of one text. -/
theorem owns_one {w : World} {base : Nat} {v : Value} {x : List UInt8} (h : Owns w base 9 v ([x].map tx)) : ∃ g cap, v = .slice (some ⟨g, 0, none⟩) 1 cap ∧ w.cell? ⟨g, 0, none⟩ = some (tx x) := by
  obtain ⟨a, cap, hv, hc⟩ := Txs.of_owns h
  obtain ⟨b, off, ha, hcell⟩ := hc 0 (by simp)
  obtain ⟨a2, cap2, hv2, _, _, h3⟩ := h.form
  obtain ⟨g, hg, _, hcg⟩ := h3 0 (by simp)
  refine ⟨g, cap2, by rw [hv2, hg]; rfl, ?_⟩
  rw [hcg]
  rfl
theorem owns_none0 {w : World} {base : Nat} {v : Value} (h : Owns w base 9 v (([] : List (List UInt8)).map tx)) : ∃ a cap, v = .slice a 0 cap := by
  obtain ⟨a2, cap2, hv2, _⟩ := h.form
  exact ⟨a2, cap2, hv2⟩
set_option maxHeartbeats 1000000 in
set_option maxRecDepth 100000 in
theorem awake8_any (w : World) (hc : Consts w) :
    Calls Tryd.prog 39 #[] w fun e w' => e = .returned (.bool true) ∧ Below w.heap.size w w' := by
  have HN := Lib.hid (gearNew_any [99, 97, 114, 97, 118, 97, 110] w hc (by decide))
  obtain ⟨t, ht⟩ : ∃ t, t = gearTab [99, 97, 114, 97, 118, 97, 110] := ⟨_, rfl⟩
  rw [← ht] at HN
  obtain ⟨z, hz⟩ : ∃ z, z = List.replicate 31 (0 : UInt8) := ⟨_, rfl⟩
  have hzl : z.length = 31 := by rw [hz]; rfl
  have HZL := Lib.hid hzl
  have HCZ := Lib.hid (cuts_short t (s := z) (by intro e; rw [e] at hzl; cases hzl) (by omega))
  have HMK := Lib.hid (fun W => make_full .i64 .i64 31 (by omega) W)
  have HMM := Lib.hid (fun W : World => (show Mem (W.alloc (.cells (List.replicate 31 (byteV 0)).toArray 5)) W.heap.size 5 (z.map byteV) by rw [hz, List.map_replicate]; exact Mem.new W _ _))
  clear ht hc hz hzl
  go_enter Tryd.func39, Tryd.ntmps39
  go_wp2_with fail
  refine HN.out.mono ?_
  rintro e w1 ⟨rfl, htb, hb1⟩
  have HTB := Lib.hid htb
  have HB1 := Lib.hid hb1
  obtain ⟨b, hb⟩ : ∃ b, b = w.heap.size := ⟨_, rfl⟩
  rw [← hb] at HTB
  simp only [← hb]
  clear htb hb1 HN hb
  go_wp2_with fail
  refine (cutNew_any b t w1 HTB.out).mono ?_
  rintro e w2 ⟨tb, rb, cb, rfl, -, -, -, hb2, -, -, -⟩
  have HB2 := Lib.hid (belowThen HB1.out hb2)
  have HT2 := Lib.hid (HTB.out.below hb2)
  obtain ⟨W3, hW3⟩ : ∃ W, W = w2.alloc (.cells (List.replicate 31 (byteV 0)).toArray 5) := ⟨_, rfl⟩
  have hmk := HMK.out w2
  have hmm := HMM.out w2
  have hb3 := belowSelf w2 (.cells (List.replicate 31 (byteV 0)).toArray 5)
  rw [← hW3] at hmk hmm hb3
  rw [show ((31 : Nat) : Int) = 31 from rfl] at hmk
  have hcv := (Owns.of_mem (base := 0) hmm (Nat.zero_le _) 31 31 (Nat.le_refl _) (by rw [List.length_map, HZL.out]) (by simp only [maxLen]; omega) (xs := z.map byteV) (by rw [List.take_of_length_le (by rw [List.length_map, HZL.out]; omega)])).string (P := Tryd.prog) (src := 26) (dst := 9) Tryd.underlying26 Tryd.underlying5 Tryd.underlying9
  have HB3 := Lib.hid (belowThen HB2.out hb3)
  have HT3 := Lib.hid (HT2.out.below hb3)
  have HCU := Lib.hid (cut_any b t z W3 HT3.out (by rw [HZL.out]; omega))
  rw [HCZ.out] at HCU
  clear hb2 hb3 hmm hW3
  go_wp2_with fail
  refine HCU.out.mono ?_
  rintro e w4 ⟨v, rfl, hov, hb4⟩
  obtain ⟨g, cap, rfl, hcell⟩ := owns_one hov
  have HB4 := Lib.hid (belowThen HB3.out hb4)
  have HT4 := Lib.hid (HT3.out.below hb4)
  have HCE := Lib.hid (cut_any b t [] w4 HT4.out (by simp))
  rw [cuts_nil] at HCE
  have hzl := HZL.out
  clear hmk hcv hov hb4 HCU
  go_wp2_with fail
  refine HCE.out.mono ?_
  rintro e w5 ⟨v, rfl, hov, hb5⟩
  obtain ⟨a, cap2, rfl⟩ := owns_none0 hov
  have HB5 := Lib.hid (belowThen HB4.out hb5)
  clear hov hb5
  go_wp2
  go_ret
  exact ⟨rfl, HB5.out⟩
end Go.Proofs.YtbjeiiofanpkdaaDoor

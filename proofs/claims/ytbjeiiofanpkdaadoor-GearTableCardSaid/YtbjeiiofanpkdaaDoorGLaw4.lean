/-
  GearTable: the walk.
-/
import Derived.Test.YtbjeiiofanpkdaaDoorGea4
namespace Go.Proofs.YtbjeiiofanpkdaaDoor
open Go.RowKit Crv

set_option maxHeartbeats 1000000 in
set_option maxRecDepth 100000 in
theorem gearTable_walk (s0 : List UInt8) (w : World) (hc : Consts w) :
    Calls Tryd.prog 5 #[.string (str s0)] w fun e w' => e = .returned (.bool true) ∧ Below w.heap.size w w' := by
  have HCU := Lib.hid (fun W => cutB s0 20 (by omega) W)
  rw [show (20 : Int).toNat = 20 from rfl] at HCU
  obtain ⟨s, hs⟩ : ∃ s, s = s0.take 20 := ⟨_, rfl⟩
  have hsl : s.length ≤ 20 := by rw [hs, List.length_take]; omega
  rw [← hs] at HCU
  have HA := Lib.hid (awake7_any w hc)
  have HC := Lib.hid hc
  have HN := Lib.hid (fun W hW => gearNew_any s W hW (by omega))
  have HRT := Lib.hid (fun W => refTable_any s W (by omega))
  have HL := Lib.hid (length_gearTab s)
  have HLT := Lib.hid (gearTab_lt s)
  obtain ⟨t, ht⟩ : ∃ t, t = gearTab s := ⟨_, rfl⟩
  simp only [← ht] at HN HRT HL HLT
  clear hs ht hc
  go_enter Tryd.func5, Tryd.ntmps5
  go_wp2_with fail
  refine (HCU.out _).mono ?_
  rintro e w' ⟨rfl, rfl⟩
  go_wp2_with fail
  refine HA.out.mono ?_
  rintro e w1 ⟨rfl, hb1⟩
  have HC1 := Lib.hid (HC.out.below hb1)
  clear HCU HA
  go_wp2_with fail
  refine (HN.out _ HC1.out).mono ?_
  rintro e w2 ⟨rfl, htb, hb2⟩
  have HB2 := Lib.hid (belowThen hb1 hb2)
  obtain ⟨tb, htbe⟩ : ∃ b, b = w1.heap.size := ⟨_, rfl⟩
  rw [← htbe] at htb
  simp only [← htbe]
  have HTB := Lib.hid htb
  clear hb1 hb2 htbe HC1 HN htb
  go_wp2_with fail
  refine (HRT.out _).mono ?_
  rintro e w3 ⟨v, rfl, hov, hb3⟩
  have HB3 := Lib.hid (belowThen HB2.out hb3)
  have HT3 := Lib.hid (HTB.out.below hb3)
  have HV := Lib.hid (show Nms w3 v t from hov.reads)
  obtain ⟨a, cap, hva, hcs⟩ := (show Nms w3 v t from hov.reads).at
  subst hva
  have HCS := Lib.hid hcs
  have HC3 := Lib.hid (HC.out.below HB3.out)
  have htl := HL.out
  rw [htl] at HV HCS ⊢
  clear hb3 hov hcs HRT HTB HB2 HC
  go_wp2_with fail
  clear htl
  go_loopw [17] (fun i wr => ∃ k : Nat, k ≤ 256 ∧ i = .int .i64 k ∧ w3 = wr) (fun i _ => 256 - (intOf i).toNat)
  case atStart => exact ⟨0, by omega, rfl, rfl⟩
  case round =>
    obtain ⟨k, hk, rfl, rfl⟩ := hrel
    by_cases hlt : k < 256
    · have hd : decide ((k : Int) < 256) = true := by simp; omega
      obtain ⟨b, off, ha, hcell⟩ := HCS.out k hlt
      subst ha
      have hc2 : w3.cell? ⟨tb, k, none⟩ = some (nV (t.getD k 0)) := by
        rw [HT3.out.1.cell, List.getElem?_map, List.getD_eq_getElem?_getD, List.getElem?_eq_getElem (by rw [HL.out]; exact hlt)]
        rfl
      obtain ⟨x, hx⟩ : ∃ x, x = t.getD k 0 := ⟨_, rfl⟩
      rw [← hx] at hcell hc2
      clear hx
      go_wp2
      refine ⟨⟨k + 1, by omega, by go_num, trivial⟩, ?_⟩
      simp [intOf]; omega
    · have e : k = 256 := by omega
      subst e
      have hd : decide ((256 : Int) < 256) = false := by simp
      have HNM := Lib.hid (tabName_any tb t w3 HT3.out HC3.out)
      have HRN := Lib.hid (fun W hW => refName_any (.slice a 256 cap) t W hW HL.out HLT.out)
      obtain ⟨d, hdd⟩ : ∃ d, d = textOf (sha (numsB t)) := ⟨_, rfl⟩
      simp only [← hdd] at HNM HRN
      clear hdd
      go_wp2_with fail
      refine HNM.out.mono ?_
      rintro e w4 ⟨rfl, hb4⟩
      have HB4 := Lib.hid (belowThen HB3.out hb4)
      have HV4 := Lib.hid (show Nms w4 (.slice a 256 cap) t from Reads.below HV.out hb4)
      clear hb4
      go_wp2_with fail
      refine (HRN.out _ HV4.out).mono ?_
      rintro e w5 ⟨rfl, hb5⟩
      have HB5 := Lib.hid (belowThen HB4.out hb5)
      clear hb5
      go_wp2
      go_ret
      exact ⟨rfl, HB5.out⟩
end Go.Proofs.YtbjeiiofanpkdaaDoor

/-
  Package bale: Nums.
-/
import Derived.Test.YtbkknhlagohhhaaBal3
namespace Go.Proofs.Ytbkknhlagohhhaa
open Go.RowKit Crv

/-- A slice value that reads as a list of numbers. -/
abbrev Ints (w : World) (v : Value) (ks : List Int) : Prop := Reads w v (ks.map fun k => Value.int .i64 k)
def nat0 (k : Int) : Nat := (max k 0).toNat
theorem length_nums : ∀ (ks : List Int), (∀ k ∈ ks, k < 9223372036854775808) → (ks.flatMap fun k => numOf (nat0 k)).length ≤ 9 * ks.length
  | [], _ => by simp
  | a :: r, h => by
    have h1 := h a (by simp)
    have h2 := length_nums r (fun l hl => h l (by simp [hl]))
    have h3 := length_numOf (n := nat0 a) (by unfold nat0; omega)
    simp only [List.flatMap_cons, List.length_append, List.length_cons]
    omega

set_option maxRecDepth 100000 in
set_option maxHeartbeats 1000000 in
theorem nums_any (w : World) (v : Value) (ks : List Int) (hv : Ints w v ks) (hn : ks.length ≤ 1000) (hl : ∀ k ∈ ks, -9223372036854775808 ≤ k ∧ k < 9223372036854775808) :
    Calls Try.prog 49 #[v] w fun e w' => e = .returned (.string (str (ks.flatMap fun k => numOf (nat0 k)))) ∧ Below w.heap.size w w' := by
  obtain ⟨a, cap, rfl, hcell⟩ := hv
  have HV := Lib.hid (show Ints w (.slice a (ks.map fun k => Value.int .i64 k).length cap) ks from ⟨a, cap, rfl, hcell⟩)
  rw [List.length_map] at HV ⊢
  have HL := Lib.hid hl
  clear hcell hl
  go_enter Try.func49, Try.ntmps49
  go_wp2_with fail
  go_loopw [3, 8] (fun v i wr => ∃ k : Nat, k ≤ ks.length ∧ i = .int .i64 k ∧ Hid (Owns wr w.heap.size 5 v (((ks.take k).flatMap fun k => numOf (nat0 k)).map byteV)) ∧ Below w.heap.size w wr) (fun _ i _ => ks.length - (intOf i).toNat)
  case atStart => exact ⟨0, by omega, rfl, Lib.hid (Owns.nil _ _ _), Below.refl _ _⟩
  case round =>
    obtain ⟨k, hk, rfl, HO, hb⟩ := hrel
    have hbz := hb.size
    by_cases hlt : k < ks.length
    · obtain ⟨s, hs⟩ : ∃ s, s = ks[k] := ⟨_, rfl⟩
      obtain ⟨a', cap', hv', hc'⟩ := HV.out.below hb
      injection hv' with h1 h2 h3
      obtain ⟨b, off, ha, hcell⟩ := hc' k (by simpa using hlt)
      rw [← h1] at ha
      subst ha
      rw [List.getElem?_map, List.getElem?_eq_getElem hlt, Option.map_some, ← hs] at hcell
      have hsl := HL.out s (by rw [hs]; exact List.getElem_mem hlt)
      have HSUM := Lib.hid (show ((ks.take (k + 1)).flatMap fun k => numOf (nat0 k)) = ((ks.take k).flatMap fun k => numOf (nat0 k)) ++ numOf (nat0 s) by
        rw [flatMap_take_succ _ ks k hlt, ← hs])
      have hq : ((ks.take k).flatMap fun k => numOf (nat0 k)).length ≤ 9 * 1000 := by
        have h4 := length_nums (ks.take k) (fun l hl => (HL.out l (List.mem_of_mem_take hl)).2)
        have h5 := List.length_take_le k ks
        omega
      have HC := Lib.hid (appendNum_any wr w.heap.size u3 ((ks.take k).flatMap fun k => numOf (nat0 k)) (nat0 s) (by unfold nat0; omega) HO.out hbz (by omega))
      clear hs h1 h2 h3 hc' hq
      have hd : decide (k < ks.length) = true := by simp; omega
      by_cases h0 : 0 ≤ s
      · obtain ⟨m, rfl⟩ := Int.eq_ofNat_of_zero_le h0
        rw [show nat0 (m : Int) = m from by unfold nat0; omega] at HC HSUM
        clear h0
        go_wp2_with fail
        with_reducible refine HC.out.mono ?_
        rintro e w1 ⟨v1, rfl, hown, hb1⟩
        rw [← HSUM.out] at hown
        have HO1 := Lib.hid hown
        clear hown HC
        go_wp2
        go_roundw
        case rel => exact ⟨k + 1, by omega, by go_num, HO1, hb.trans hb1⟩
        case measure => simp [intOf]; omega
      · rw [show nat0 s = 0 from by unfold nat0; omega] at HC HSUM
        have h0' : s < 0 := by omega
        go_wp2_with fail
        refine HC.out.mono ?_
        rintro e w1 ⟨v1, rfl, hown, hb1⟩
        rw [← HSUM.out] at hown
        have HO1 := Lib.hid hown
        clear hown HC
        go_wp2
        go_roundw
        case rel => exact ⟨k + 1, by omega, by go_num, HO1, hb.trans hb1⟩
        case measure => simp [intOf]; omega
    · have ek : k = ks.length := by omega
      subst ek
      rw [List.take_length] at HO
      have hcv := HO.out.string (P := Try.prog) (src := 122) (dst := 9) Try.underlying122 Try.underlying5 Try.underlying9
      go_wp2
      go_ret
      exact ⟨rfl, hb⟩
end Go.Proofs.Ytbkknhlagohhhaa

/-
  hash.Hex.
-/
import Derived.Test.YtjbjkkgkefpggaaDoorApp
import Derived.Test.YtjbjkkgkefpggaaDoorHash
import Derived.Test.YtjbjkkgkefpggaaDoorStr2
namespace Go.Proofs.YtjbjkkgkefpggaaDoor
open Go.RowKit Crv

def hexDigits : List UInt8 := [48, 49, 50, 51, 52, 53, 54, 55, 56, 57, 97, 98, 99, 100, 101, 102]
def hexd (n : Nat) : UInt8 := hexDigits.getD n 0
def hex2 (b : UInt8) : List UInt8 := [hexd (b.toNat / 16), hexd (b.toNat % 16)]
def hexOf (l : List UInt8) : List UInt8 := l.flatMap hex2
theorem length_hexOf (l : List UInt8) : (hexOf l).length = 2 * l.length := by
  unfold hexOf
  induction l with
  | nil => rfl
  | cons x r ih => simp only [List.flatMap_cons, List.length_append, List.length_cons, ih]; simp [hex2]; omega
theorem hexOf_take_succ (l : List UInt8) (k : Nat) (h : k < l.length) : hexOf (l.take (k + 1)) = hexOf (l.take k) ++ hex2 (l.getD k 0) := by
  unfold hexOf
  rw [List.take_succ_eq_append_getElem h, List.flatMap_append, List.getD_eq_getElem?_getD, List.getElem?_eq_getElem h]
  simp

set_option maxHeartbeats 1000000 in
set_option maxRecDepth 100000 in
theorem hex_any (l : List UInt8) (w : World) (hl : l.length = 32) :
    Calls Tryd.prog 16 #[.agg (l.map byteV).toArray] w fun e w' => e = .returned (.string (str (hexOf l))) ∧ Below w.heap.size w w' := by
  have HL := Lib.hid hl
  obtain ⟨i, hi, hz, hs, hby⟩ : ∃ i, Tryd.prog.info? 5 = some i ∧ i.zero = some (.int .u8 0) ∧ i.size = 1 ∧ i.bytes = 1 := info_of (by kernel_rfl)
  have HBY : i.bytes ≤ 64 := by omega
  have HI := Lib.hid hi
  have HZ := Lib.hid hz
  have HS := Lib.hid hs
  have sz32 : (Tryd.prog.info? 23).map (·.size) = some (l.map byteV).length := by rw [List.length_map, hl]; kernel_rfl
  clear hi hz hs hby hl
  have hmk : ∀ W, (Instr.makeSlice 26 (.int .i64 0) (.int .i64 64)).run Tryd.prog W = .ok (.slice (some ⟨W.heap.size, 0, none⟩) 0 64) (W.alloc (.cells (List.replicate 64 (.int .u8 0)).toArray 5)) := fun W => by kernel_rfl
  go_enter Tryd.func16, Tryd.ntmps16
  go_wp2_with (first
    | (refine wp_load_mem (Mem.alloc (Mem.newAt w 23 (l.map byteV) rfl) _) 23 (.tmp 1) (.array 32 5) rfl rfl rfl Tryd.underlying23 rfl sz32 ?_)
    | fail)
  clear hmk
  go_loopw [3, 8] (fun v i wr => ∃ k : Nat, k ≤ 32 ∧ i = .int .i64 k ∧ Owns wr w.heap.size 5 v ((hexOf (l.take k)).map byteV) ∧ Below w.heap.size w wr) (fun _ i _ => 32 - (intOf i).toNat)
  case atStart =>
    exact ⟨0, by omega, rfl, Owns.of_mem (Mem.newAt (w.alloc (.cells (l.map byteV).toArray 23)) 5 (List.replicate 64 (.int .u8 0)) (by simp)) (Nat.le_succ _) 0 64 (by omega) (by simp) (by simp [maxLen]) rfl, ((Below.refl _ _).alloc (Nat.le_refl _) _).alloc (by simp) _⟩
  case round =>
    obtain ⟨k, hk, rfl, hown, hb⟩ := hrel
    have HO := Lib.hid hown
    clear hown
    have hbz := hb.size
    by_cases hlt : k < 32
    · obtain ⟨b, hbd⟩ : ∃ b, b = l.getD k 0 := ⟨_, rfl⟩
      have hix := fun W => run_index_agg (P := Tryd.prog) 23 5 32 (l.map byteV) .u8 .i64 k (.int .u8 (b.toNat : Int)) Tryd.underlying23 Tryd.underlying5 (by kernel_rfl) hlt (by rw [hbd, List.getElem?_map, List.getD_eq_getElem?_getD, List.getElem?_eq_getElem (by rw [HL.out]; exact hlt)]; rfl) W
      have HB := Lib.hid hbd
      clear hbd
      have hbl := b.toNat_lt
      have hd : decide ((k : Int) < 32) = true := by simp; omega
      have hand : bits .and .u8 (b.toNat : Int) 15 = ((b.toNat % 16 : Nat) : Int) := by
        rw [show (15 : Int) = ((15 : Nat) : Int) from rfl, u8_and_nat _ _ (by omega) (by omega), nat_mask4]
      have x1 : ∀ W, (Instr.index 9 (.string ⟨#[48, 49, 50, 51, 52, 53, 54, 55, 56, 57, 97, 98, 99, 100, 101, 102]⟩) (.int .u8 ((b.toNat : Int) / 16))).run Tryd.prog W = .ok (.int .u8 ((hexd (b.toNat / 16)).toNat : Int)) W := fun W => by
        rw [show ((b.toNat : Int) / 16) = ((b.toNat / 16 : Nat) : Int) from by omega]
        exact run_index_str 9 Tryd.underlying9 hexDigits .u8 (b.toNat / 16) (by simp [hexDigits]; omega) W
      have x2 : ∀ W, (Instr.index 9 (.string ⟨#[48, 49, 50, 51, 52, 53, 54, 55, 56, 57, 97, 98, 99, 100, 101, 102]⟩) (.int .u8 ((b.toNat : Int) % 16))).run Tryd.prog W = .ok (.int .u8 ((hexd (b.toNat % 16)).toNat : Int)) W := fun W => by
        rw [show ((b.toNat : Int) % 16) = ((b.toNat % 16 : Nat) : Int) from by omega]
        exact run_index_str 9 Tryd.underlying9 hexDigits .u8 (b.toNat % 16) (by simp [hexDigits]; omega) W
      have hlx : (hexOf (l.take k)).length = 2 * k := by rw [length_hexOf, List.length_take, HL.out]; omega
      have HLX := Lib.hid hlx
      have hone := one_bytes (hex2 b)
      have HONE := Lib.hid hone
      clear hlx hone
      go_wp2_with fail
      go_region_held3 (fun _ => True) (trivial)
        (first
          | (refine step_append_keep ((HO.out.drewN _).alloc _) w.heap.size ((below_drewN hb _).alloc hbz _) (Nat.le_refl _) ((hex2 b).map byteV) (.tmp 11) (.tmp 18) 26 i (.int .u8 0) rfl rfl Tryd.underlying26 HI.out HZ.out HS.out HBY rfl rfl rfl (fun j u hu => (Mem.cell (Mem.newAt _ 5 ((hex2 b).map byteV) rfl) j).trans hu) HONE.out (by rw [List.length_map, HLX.out]; simp [hex2]; omega) (by simp; omega) ?_; intro v' w3 hown' hb3 hz3 hkp; have HO3 := Lib.hid hown'; clear hown'))
      all_goals
        have HR2 : Hid (Owns w3 w.heap.size 5 v' ((hexOf (l.take (k + 1))).map byteV)) := Lib.hid (by
          have h3 := HO3.out
          rw [hexOf_take_succ l k (by rw [HL.out]; exact hlt), ← HB.out, List.map_append]
          exact h3)
        clear hkp hz3 x1 x2 hand hix
        go_wp2
        go_roundw
        case rel =>
          first
            | exact ⟨k + 1, by omega, by go_num, HR2.out, hb3⟩
            | ((repeat apply Exists.intro); exact ⟨⟨k + 1, by omega, by go_num, HR2.out, hb3⟩, rfl⟩)
        case measure => simp [intOf]; omega
    · have e : k = 32 := by omega
      subst e
      rw [List.take_of_length_le (by rw [HL.out]; exact Nat.le_refl _)] at HO
      have hcv := HO.out.string (P := Tryd.prog) (src := 26) (dst := 9) Tryd.underlying26 Tryd.underlying5 Tryd.underlying9
      go_wp2
      go_ret
      exact ⟨rfl, hb⟩
end Go.Proofs.YtjbjkkgkefpggaaDoor

/-
  HashOf: the walk.
-/
import Derived.Test.YtjbjkkgkefpggaaDoorLawMore
namespace Go.Proofs.YtjbjkkgkefpggaaDoor
open Go.RowKit Crv
attribute [local go_sem] ByteArray.mk_append_mk

/-- What the last statement of a law reads: a digest in memory, the tables. -/
def We_rr (B : Nat) (d : List UInt8) (w' : World) : Prop := w'.rangeAt B 0 (d.map byteV) ∧ Mem w' B 23 (d.map byteV) ∧ Consts w'
theorem keeps_mc {W w3 : World} {B : Nat} {t : TypeId} {cs : List Value} (h : W.rangeAt B 0 cs ∧ Mem W B t cs ∧ Consts W) (hb : Below W.heap.size W w3) : w3.rangeAt B 0 cs ∧ Mem w3 B t cs ∧ Consts w3 :=
  ⟨(h.2.1.below hb h.2.1.lt).range 0 _ ⟨[], by simp⟩, h.2.1.below hb h.2.1.lt, h.2.2.below hb⟩
theorem hex_piece (n : Nat) (h : n < 16) : ((hexDigits.take (n + 1)).drop n) = [hexd n] := by
  have : ∀ j : Fin 16, ((hexDigits.take (j.val + 1)).drop j.val) = [hexd j.val] := by decide
  exact this ⟨n, h⟩

/-- string(b[:]) of an array's bytes. -/
theorem bytes_string {P : Program} {w : World} {g n : Nat} {t src dst e : TypeId} {l : List UInt8} (h : Mem w g t (l.map byteV)) (hs : P.underlying src = some (.slice e)) (he : P.underlying e = some (.int .u8)) (hd : P.underlying dst = some .string) (hn : l.length = n) :
    (convert src dst (.slice (some ⟨g, 0, none⟩) n n)).run P w = .ok (.string (str l)) w := by
  subst hn
  have hnums : strOfNums (l.map fun b => (b.toNat : Int)) = str l := by
    simp only [strOfNums, List.map_map, str]
    congr 2
    have : ((fun n : Int => UInt8.ofNat n.toNat) ∘ fun b : UInt8 => (b.toNat : Int)) = id := by
      funext b; simp
    rw [this, List.map_id]
  have := run_convert_bytes_arg w src e hs he g 0 l.length l.length (l.map fun b => (b.toNat : Int)) (by simp) (fun i hi => by
    rw [Nat.zero_add, h.cell, List.getElem?_map, List.getElem?_eq_getElem hi, List.getD_eq_getElem?_getD, List.getElem?_map, List.getElem?_eq_getElem hi]
    rfl) dst hd
  rw [this, hnums]

theorem below_then {a w w' : World} (h : Below a.heap.size a w) (h' : Below w.heap.size w w') : Below a.heap.size a w' := h.trans (h'.mono h.size)

set_option maxHeartbeats 2000000 in
set_option maxRecDepth 100000 in
theorem hashOf_walk (s0 : List UInt8) (w : World) (hc : Consts w) :
    Calls Tryd.prog 3 #[.string (str s0)] w fun e w' => e = .returned (.bool true) ∧ Below w.heap.size w w' := by
  have HC := Lib.hid hc
  clear hc
  go_enter Tryd.func3, Tryd.ntmps3
  go_wp2_with fail
  refine (cut_int s0 _ (by decide) _).mono ?_
  rintro e w' ⟨rfl, rfl⟩
  obtain ⟨s, hs⟩ : ∃ s, s = s0.take (300 : Int).toNat := ⟨_, rfl⟩
  have ls : s.length ≤ 300 := by rw [hs]; exact List.length_take_le _ _
  rw [← hs]
  clear hs
  go_wp2_with fail
  refine (of_any _ _ [s] (HC.out.alloc _) (StrSlice.new [s] 1) (by simp) (by simp; omega)).mono ?_
  rintro e w1 ⟨rfl, hb1⟩
  rw [show ([s] : List (List UInt8)).flatten = s from by simp]
  have hba := ((Below.refl w.heap.size w).alloc (Nat.le_refl _) (.cells (([s] : List (List UInt8)).map fun l => Value.string (str l)).toArray 9))
  have hb2 : Below w.heap.size w w1 := hba.trans (hb1.mono hba.size)
  have hbz := hb2.size
  clear hb1 hba
  obtain ⟨d, hd⟩ : ∃ d, d = sha s := ⟨_, rfl⟩
  rw [← hd]
  have hdl : d.length = 32 := by rw [hd]; rfl
  have HD := Lib.hid hd
  have HDL := Lib.hid hdl
  have sz32 : (Tryd.prog.info? 23).map (·.size) = some (d.map byteV).length := by rw [List.length_map, hdl]; kernel_rfl
  have hz32 : (List.replicate 32 (byteV 0)).length = (d.map byteV).length := by rw [List.length_map, hdl]; rfl
  have HONE := Lib.hid (one_bytes d)
  clear hd hdl
  go_wp2_with (first
    | (refine wp_store_gen (B := w.heap.size) (w0 := w) (hb2.alloc hbz _) hbz (Mem.newAt w1 23 (List.replicate 32 (byteV 0)) rfl) (d.map byteV) 23 (.tmp 3) (.tmp 12) rfl rfl rfl rfl sz32 hz32 HONE.out ?_
       intro W hm hb hz hk
       have HM := Lib.hid hm
       clear hm hk hz)
    | (refine wp_load_mem HM.out 23 (.tmp 3) (.array 32 5) rfl rfl rfl Tryd.underlying23 rfl sz32 ?_)
    | fail)
  clear sz32 hz32
  go_loopw [4, 14] (fun o i wr => ∃ k : Nat, k ≤ 32 ∧ i = .int .i64 k ∧ o = .string (str (hexOf (d.take k))) ∧ Below W.heap.size W wr) (fun _ i _ => 32 - (intOf i).toNat)
  case atStart => exact ⟨0, by omega, rfl, rfl, Below.refl _ _⟩
  case round =>
    obtain ⟨k, hk, rfl, rfl, hbr⟩ := hrel
    by_cases hlt : k < 32
    · obtain ⟨b, hbd⟩ : ∃ b, b = d.getD k 0 := ⟨_, rfl⟩
      have hix := fun W => run_index_agg (P := Tryd.prog) 23 5 32 (d.map byteV) .u8 .i64 k (.int .u8 (b.toNat : Int)) Tryd.underlying23 Tryd.underlying5 (by kernel_rfl) hlt (by rw [hbd, List.getElem?_map, List.getD_eq_getElem?_getD, List.getElem?_eq_getElem (by rw [HDL.out]; exact hlt)]; rfl) W
      have hsucc := Lib.hid (show hexOf (d.take (k + 1)) = hexOf (d.take k) ++ [hexd (b.toNat / 16), hexd (b.toNat % 16)] by rw [hexOf_take_succ d k (by rw [HDL.out]; exact hlt), ← hbd]; rfl)
      have hql : (hexOf (d.take k)).length ≤ 64 := by rw [length_hexOf, List.length_take, HDL.out]; omega
      obtain ⟨q, hq⟩ : ∃ q, q = hexOf (d.take k) := ⟨_, rfl⟩
      rw [← hq] at hsucc hql
      rw [← hq]
      have hbl := b.toNat_lt
      clear hbd hq
      have hdk : decide ((k : Int) < 32) = true := by simp; omega
      have x1 : ∀ W, (Instr.slice 9 (.string ⟨#[48, 49, 50, 51, 52, 53, 54, 55, 56, 57, 97, 98, 99, 100, 101, 102]⟩) (some (.int .u8 ((b.toNat : Int) / 16))) (some (.int .u8 ((b.toNat : Int) / 16 + 1))) none).run Tryd.prog W = .ok (.string (str [hexd (b.toNat / 16)])) W := fun W => by
        rw [← hex_piece (b.toNat / 16) (by omega), show ((b.toNat : Int) / 16) = ((b.toNat / 16 : Nat) : Int) from by omega]
        exact slice_str_mid Tryd.underlying9 hexDigits .u8 .u8 (b.toNat / 16) (b.toNat / 16 + 1) (by omega) (by simp [hexDigits]; omega) W
      have x2 : ∀ W, (Instr.slice 9 (.string ⟨#[48, 49, 50, 51, 52, 53, 54, 55, 56, 57, 97, 98, 99, 100, 101, 102]⟩) (some (.int .u8 ((b.toNat : Int) % 16))) (some (.int .u8 ((b.toNat : Int) % 16 + 1))) none).run Tryd.prog W = .ok (.string (str [hexd (b.toNat % 16)])) W := fun W => by
        rw [← hex_piece (b.toNat % 16) (by omega), show ((b.toNat : Int) % 16) = ((b.toNat % 16 : Nat) : Int) from by omega]
        exact slice_str_mid Tryd.underlying9 hexDigits .u8 .u8 (b.toNat % 16) (b.toNat % 16 + 1) (by omega) (by simp [hexDigits]; omega) W
      have u1 : IntKind.u8.wrap ((b.toNat : Int) / 16) = (b.toNat : Int) / 16 := IntWalk.u8_in _ (by omega)
      have u2 : IntKind.u8.wrap ((b.toNat : Int) / 16 + 1) = (b.toNat : Int) / 16 + 1 := IntWalk.u8_in _ (by omega)
      have u3 : IntKind.u8.wrap ((b.toNat : Int) % 16 + 1) = (b.toNat : Int) % 16 + 1 := IntWalk.u8_in _ (by omega)
      have u4 : (b.toNat : Int).tmod 16 = (b.toNat : Int) % 16 := Int.tmod_eq_emod_of_nonneg (by omega)
      have u5 : IntKind.u8.wrap ((b.toNat : Int).tdiv 16) = (b.toNat : Int) / 16 := IntWalk.u8_quo _ _ (by omega)
      go_wp2_with fail
      go_quiet (fail)
      go_wp2
      go_roundw
      case rel => exact ⟨k + 1, by omega, by go_num, by rw [hsucc.out], below_drewN hbr _⟩
      case measure => simp [intOf]; omega
    · have ek : k = 32 := by omega
      subst ek
      have hmr := HM.out.below hbr HM.out.lt
      have hcr := HC.out.below (hb.trans (hbr.mono hb.size))
      have hbe := hb.trans (hbr.mono hb.size)
      have hdt : d.take 32 = d := List.take_of_length_le (by rw [HDL.out]; exact Nat.le_refl _)
      rw [hdt]
      have hrr : We_rr w1.heap.size d wr := ⟨hmr.range 0 _ ⟨[], by simp⟩, hmr, hcr⟩
      have hu := Tryd.underlying23
      have hi : (Tryd.prog.info? 23).map (·.size) = some (d.map byteV).length := by rw [List.length_map, HDL.out]; kernel_rfl
      have hln : (d.map byteV).length = 32 := by rw [List.length_map, HDL.out]
      have hcv : ∀ W', Mem W' w1.heap.size 23 (d.map byteV) → (convert 26 9 (.slice (some ⟨w1.heap.size, 0, none⟩) 32 32)).run Tryd.prog W' = .ok (.string (str d)) W' := fun W' h => by
        exact bytes_string h Tryd.underlying26 Tryd.underlying5 Tryd.underlying9 HDL.out
      have HBE := Lib.hid hbe
      have HRF := Lib.hid (show ∀ W', Calls Tryd.prog 15 #[.string (str s)] W' fun e w' => e = .returned (.string (str d)) ∧ Below W'.heap.size W' w' from fun W' => by rw [HD.out]; exact refOf_any s W' (by omega))
      clear hdt hbr hb hb2 HM
      obtain ⟨We, hWe⟩ : ∃ We : World, We = wr := ⟨_, rfl⟩
      subst hWe
      go_wp2_with fail
      go_region_held3 (fun w' => w'.rangeAt w1.heap.size 0 (d.map byteV) ∧ Mem w' w1.heap.size 23 (d.map byteV) ∧ Consts w')
        (first
          | (exact hrr)
          | (exact keeps_mc (by assumption) hbk))
        (first
          | (go_at_call 14; refine (awake1_any _ ?_).mono ?_; (exact hcr); rintro e w3 ⟨rfl, hbk⟩)
          | (go_at_call 15; refine (HRF.out _).mono ?_; rintro e w4 ⟨rfl, hbk⟩)
          | (go_at_call 16; refine (hex_any d _ HDL.out).mono ?_; rintro e w5 ⟨rfl, hbk⟩))
      rename_i K hK hb3 hb4 hHe
      refine hK _ _ ?_
      go_wp2
      go_ret
      have hbd : Below w.heap.size w We.drew := ⟨HBE.out.os, HBE.out.tape, HBE.out.output, HBE.out.size, HBE.out.block⟩
      exact ⟨rfl, below_then (below_then (below_then hbd hb3) hb4) hbk⟩
end Go.Proofs.YtjbjkkgkefpggaaDoor

/-
  Repute: Sort.
-/
import Derived.Test.YtblfekecmahagaaDoorRSrt
import Derived.Test.YtblfekecmahagaaDoorZp
namespace Go.Proofs.YtblfekecmahagaaDoor
open Go.RowKit Go.Maps Crv

/-- Those that may. -/
def maysL (M : MKt) (B : BNt) (now : Int) (l : List Int) : List Int := l.filter fun n => mayB M B n now
theorem maysL_len (M : MKt) (B : BNt) (now : Int) (l : List Int) : (maysL M B now l).length ≤ l.length := List.length_filter_le _ _
/-- What Sort's loop keeps. -/
def SoR (w0 : World) (k : Nat) (M : MKt) (B : BNt) (now : Int) (l : List Int) (i : Nat) (u : Value) (w : World) : Prop :=
  Owns w (w0.heap.size + 1) Tin u ((maysL M B now (l.take i)).map iv) ∧ Mem w w0.heap.size Tbp [bpV k] ∧ Below w0.heap.size w0 w
theorem maysL_step (M : MKt) (B : BNt) (now : Int) {l : List Int} {i : Nat} (hi : i < l.length) : maysL M B now (l.take (i + 1)) = maysL M B now (l.take i) ++ (if mayB M B (l.getD i 0) now = true then [l.getD i 0] else []) := by
  unfold maysL
  rw [List.take_succ_eq_append_getElem hi, List.filter_append, List.getD_eq_getElem?_getD, List.getElem?_eq_getElem hi]
  congr 1
  by_cases h : mayB M B l[i] now = true <;> simp [h]
section
variable {w : World} {k mb bb : Nat} {M : MKt} {B : BNt} {v : Value} {l : List Int}
set_option maxHeartbeats 2000000 in
set_option maxRecDepth 100000 in
theorem rsort_any (hv : Bv w k mb bb M B) (hl : ZsP w v l) (hin : ∀ x ∈ l, In64 x) (hlen : l.length ≤ 100000) (now : Int) : Calls Tryd.prog 25 #[.pointer (some ⟨k, 0, none⟩), iv now, v] w fun e w' =>
    ∃ u ys, e = .returned u ∧ ys.Perm (maysL M B now l) ∧ SrtS M ys ∧ Owns w' w.heap.size Tin u (ys.map iv) ∧ Below w.heap.size w w' := by
  obtain ⟨a, cap, rfl, hk0⟩ := hl
  have HL := Lib.hid (show ZsP w (.slice a l.length cap) l from ⟨a, cap, rfl, hk0⟩)
  have HV := Lib.hid hv
  have HIN := Lib.hid hin
  obtain ⟨N, hN⟩ : ∃ N, N = l.length := ⟨_, rfl⟩
  have HN := Lib.hid hN
  rw [← hN] at HL hlen ⊢
  have HS0 : Hid (SoR w k M B now l 0 (.slice none 0 0) (w.alloc (.cells #[bpV k] Tbp))) := Lib.hid ⟨Owns.nil _ _ _, Mem.new w Tbp [bpV k], belowSelf w _⟩
  obtain ⟨ti, hti, hz, hs1, hby⟩ := int_inf
  have HTI := Lib.hid hti
  have HZ := Lib.hid hz
  have HS1 := Lib.hid hs1
  have HBY : ti.bytes ≤ 64 := by omega
  clear hv hk0 hin hN hti hz hs1 hby
  go_enter Tryd.func25, Tryd.ntmps25
  go_wp2_with fail
  go_loopw [7, 12] (fun u s wr => ∃ i : Nat, i ≤ N ∧ s = .int .i64 i ∧ Hid (SoR w k M B now l i u wr)) (fun _ s _ => N - (intOf s).toNat)
  case atStart => exact ⟨0, by omega, rfl, HS0⟩
  case round =>
    obtain ⟨i, hi, rfl, HSO⟩ := hrel
    clear HS0
    by_cases hlt : i < N
    · have hd : decide ((i : Int) < (N : Int)) = true := by simp; omega
      have hd2 : (i : Int) < (N : Int) := by omega
      have hil : i < l.length := by rw [← HN.out]; exact hlt
      obtain ⟨a', cap', e, hc⟩ := HL.out.below HSO.out.2.2
      injection e with e1 e2 e3
      subst e1
      obtain ⟨b, off, rfl, hcell⟩ := hc i hil
      clear hc
      have HST := Lib.hid (maysL_step M B now hil)
      have HI0 := Lib.hid (show In64 (l.getD i 0) from HIN.out _ (by rw [List.getD_eq_getElem?_getD, List.getElem?_eq_getElem hil]; exact List.getElem_mem hil))
      obtain ⟨n0, hn0⟩ : ∃ n0, n0 = l.getD i 0 := ⟨_, rfl⟩
      rw [← hn0] at hcell HST HI0
      have hbx := HSO.out.2.1.cell 0
      have hbx2 : wr.cell? ⟨w.heap.size, 0, none⟩ = some (.pointer (some ⟨k, 0, none⟩)) := hbx
      have HMY := Lib.hid (may_any (HV.out.below HSO.out.2.2) (n := n0) HI0.out now)
      obtain ⟨bm, hbm⟩ : ∃ bm, bm = mayB M B n0 now := ⟨_, rfl⟩
      rw [← hbm] at HMY HST
      clear hn0 hil hbx hbm e2 e3
      cases bm with
      | true =>
        have HST2 := Lib.hid (show maysL M B now (l.take (i + 1)) = maysL M B now (l.take i) ++ [n0] from HST.out)
        go_wp2_with fail
        refine HMY.out.mono ?_
        rintro e w3 ⟨rfl, hb3⟩
        have HB3 := Lib.hid hb3
        have HO3 := Lib.hid (show Owns w3 (w.heap.size + 1) Tin u7 ((maysL M B now (l.take i)).map iv) from HSO.out.1.below hb3)
        have HM3 := Lib.hid (show Mem w3 w.heap.size Tbp [bpV k] from HSO.out.2.1.below hb3 HSO.out.2.1.lt)
        have HW3 := Lib.hid (show Below w.heap.size w w3 from belowThen HSO.out.2.2 hb3)
        have HLEN := Lib.hid (show ((maysL M B now (l.take i)).map iv).length + [iv n0].length ≤ 1099511627776 by have := maysL_len M B now (l.take i); rw [List.length_take] at this; rw [List.length_map]; simp; omega)
        clear hb3 hcell hbx2
        go_wp2_with (first
          | (at_builtin
             go_loud (
             refine wp_append_gr (HO3.out.alloc _) [iv n0] (.tmp 20) (.tmp 22) Tis ti (iv 0) rfl rfl Tryd.underlying23 HTI.out HZ.out HS1.out HBY rfl rfl rfl (fun j u hu => cell_news_one _ _ _ j u hu) (by intro u hu; simp at hu; subst hu; rfl) HLEN.out (by have := HM3.out.lt; simp; omega) ?_
             intro v2 w2 ho2 hg2 hat2
             have HS2 := Lib.hid (show SoR w k M B now l (i + 1) v2 w2 from ⟨by rw [HST2.out, List.map_append]; exact ho2, (hg2.block w.heap.size (by have := HM3.out.lt; simp; omega) (fun e => by have := (HO3.out.lt _ e.symm).2; omega)).trans (HM3.out.alloc _), below_own (belowThen HW3.out (belowSelf w3 _)) hg2 (fun g hg => by have := (HO3.out.lt g hg).2; omega)⟩)
             clear ho2 hg2 hat2))
          | fail)
        go_roundw
        case rel => exact ⟨i + 1, by omega, by go_num, HS2⟩
        case measure => simp [intOf]; omega
      | false =>
        have HST2 := Lib.hid (show maysL M B now (l.take (i + 1)) = maysL M B now (l.take i) from HST.out.trans (List.append_nil _))
        go_wp2_with fail
        refine HMY.out.mono ?_
        rintro e w3 ⟨rfl, hb3⟩
        have HS2 := Lib.hid (show SoR w k M B now l (i + 1) u7 w3 from ⟨by rw [HST2.out]; exact HSO.out.1.below hb3, HSO.out.2.1.below hb3 HSO.out.2.1.lt, belowThen HSO.out.2.2 hb3⟩)
        clear hb3 hcell hbx2
        go_wp2_with fail
        go_roundw
        case rel => exact ⟨i + 1, by omega, by go_num, HS2⟩
        case measure => simp [intOf]; omega
    · have hd : decide ((i : Int) < (N : Int)) = false := by simp; omega
      have hd2 : ¬ (i : Int) < (N : Int) := by omega
      have hO : Owns wr (w.heap.size + 1) Tin u7 ((maysL M B now l).map iv) := by
        have := HSO.out.1
        rwa [List.take_of_length_le (by rw [← HN.out]; omega)] at this
      have HSF := Lib.hid (sortInts hO (fun x hx => HIN.out x ((List.mem_filter.1 hx).1)) (by have := maysL_len M B now l; rw [← HN.out] at this; omega) (HV.out.below HSO.out.2.2) HSO.out.2.1)
      have HO := Lib.hid hO
      clear hO
      go_wp2_with fail
      refine HSF.out.mono ?_
      rintro e w5 ⟨rfl, ys, hp, hs, ho, hg⟩
      have HP := Lib.hid hp
      have HSR := Lib.hid hs
      have HO5 := Lib.hid (owns_base ho (Nat.le_succ _))
      have HB5 := Lib.hid (show Below w.heap.size w w5 from below_own HSO.out.2.2 hg (fun g hg => by have := (HO.out.lt g hg).2; omega))
      clear hp hs ho hg
      go_wp2_with fail
      go_ret
      exact ⟨u7, ys, rfl, HP.out, HSR.out, HO5.out, HB5.out⟩
end
end Go.Proofs.YtblfekecmahagaaDoor

/-
  Package gear: rolls; the law's first look.
-/
import Derived.Test.YtbjeiiofanpkdaaDoorGea2
namespace Go.Proofs.YtbjeiiofanpkdaaDoor
open Go.RowKit Crv

abbrev pV (b : Nat) : Value := .pointer (some ⟨b, 0, none⟩)
/-- A roll in memory. -/
def Rl (w : World) (rb tb v n : Nat) : Prop := Mem w rb 92 [pV tb, nV v, .int .i64 n]
theorem Rl.below {w w' : World} {rb tb v n : Nat} (h : Rl w rb tb v n) (hb : Below w.heap.size w w') : Rl w' rb tb v n := Mem.below h hb (Mem.lt h)
theorem Tb.ne {w : World} {tb rb v n : Nat} {b : Nat} {t : List Nat} (ht : Tb w tb t) (hr : Rl w rb b v n) : tb ≠ rb := fun e => by
  subst e
  have h1 := ht.1
  unfold Mem at h1
  unfold Rl Mem at hr
  rw [h1] at hr
  injection hr with hr
  injection hr with _ hr
  exact absurd hr (by decide)
theorem Tb.grown {w w' : World} {b g : Nat} {t : List Nat} (h : Tb w b t) (hg : w.grownBy w' (some g)) (hne : b ≠ g) : Tb w' b t := ⟨h.1.grown hg (fun e => hne (by injection e)), h.2⟩
set_option maxHeartbeats 400000 in
theorem over_any (b : Nat) (w : World) :
    Calls Tryd.prog 30 #[pV b] w fun e w' => e = .returned (pV w.heap.size) ∧ Rl w' w.heap.size b 0 0 ∧ Below w.heap.size w w' := by
  go_enter Tryd.func30, Tryd.ntmps30
  go_wp2
  go_ret
  exact ⟨rfl, Mem.new w _ [pV b, nV 0, .int .i64 0], belowSelf w _⟩
set_option maxHeartbeats 400000 in
theorem count_any (rb tb v n : Nat) (w : World) (h : Rl w rb tb v n) :
    Calls Tryd.prog 33 #[pV rb] w fun e w' => e = .returned (.int .i64 n) ∧ w = w' := by
  have hc : w.cell? ⟨rb, 2, none⟩ = some (.int .i64 (n : Int)) := Mem.cell h 2
  clear h
  go_enter Tryd.func33, Tryd.ntmps33
  go_wp2
  go_ret
  exact ⟨rfl, rfl⟩
set_option maxHeartbeats 400000 in
theorem reset_any (rb tb v n : Nat) (w : World) (h : Rl w rb tb v n) :
    Calls Tryd.prog 34 #[pV rb] w fun e w' => e = .returned (.tuple #[]) ∧ Rl w' rb tb 0 0 ∧ w.grownBy w' (some rb) := by
  have hc1 : w.cell? ⟨rb, 1, none⟩ = some (nV v) := Mem.cell h 1
  have hc2 : w.cell? ⟨rb, 2, none⟩ = some (.int .i64 (n : Int)) := Mem.cell h 2
  have hf1 := Mem.frozen h 1
  have hf2 := Mem.frozen h 2
  have HR := Lib.hid (show Rl ((w.setCell ⟨rb, 1, none⟩ (nV 0)).setCell ⟨rb, 2, none⟩ (.int .i64 0)) rb tb 0 0 from (Mem.set h 1 (nV 0)).set 2 (.int .i64 0))
  have HG := Lib.hid (grown_cell (grown_cell (grownRefl w (some rb)) 1 (nV 0)) 2 (.int .i64 0))
  clear h
  go_enter Tryd.func34, Tryd.ntmps34
  go_wp2
  go_end0
  exact ⟨rfl, HR.out, HG.out⟩
set_option maxHeartbeats 1000000 in
set_option maxRecDepth 100000 in
theorem next_any (rb tb v n : Nat) (c : UInt8) (t : List Nat) (w : World) (ht : Tb w tb t) (h : Rl w rb tb v n) (hn : n < 4611686018427387904) :
    Calls Tryd.prog 31 #[pV rb, byteV c] w fun e w' => e = .returned (nV (roll t v c)) ∧ Rl w' rb tb (roll t v c) (n + 1) ∧ w.grownBy w' (some rb) := by
  have hc0 : w.cell? ⟨rb, 0, none⟩ = some (pV tb) := Mem.cell h 0
  have hc1 : w.cell? ⟨rb, 1, none⟩ = some (nV v) := Mem.cell h 1
  have hc2 : w.cell? ⟨rb, 2, none⟩ = some (.int .i64 (n : Int)) := Mem.cell h 2
  have hf1 := Mem.frozen h 1
  have hf2 := Mem.frozen h 2
  have HA := Lib.hid ((after_any tb v c t w.drew ⟨ht.1.drew, ht.2⟩).mono fun _ _ ⟨h1, h2⟩ => (⟨h1, h2.symm⟩ : _ ∧ _ = w.drew))
  obtain ⟨r, hr⟩ : ∃ r, r = roll t v c := ⟨_, rfl⟩
  rw [← hr] at HA ⊢
  have HR := Lib.hid (show Rl ((w.setCell ⟨rb, 1, none⟩ (nV r)).setCell ⟨rb, 2, none⟩ (.int .i64 ((n : Int) + 1))).drew rb tb r (n + 1) from (((Mem.set h 1 (nV r)).set 2 (.int .i64 ((n + 1 : Nat) : Int)))).drew)
  have HG := Lib.hid (grown_drew (grown_cell (grown_cell (grownRefl w (some rb)) 1 (nV r)) 2 (.int .i64 ((n : Int) + 1))))
  clear h ht hr
  go_enter Tryd.func31, Tryd.ntmps31
  go_wp2_with fail
  refine wp_region_still_tail 13 (by kernel_rfl) (by kernel_rfl) ?_
  simp only [List.take_succ_cons, List.take_zero, List.drop_succ_cons, List.drop_zero]
  iterate 10 still_step
  still_call HA.out
  repeat still_step
  refine wpStill_nil ?_
  change wpList _ _ _ _ _ w.drew
  go_wp2
  go_ret
  exact ⟨rfl, HR.out, HG.out⟩

theorem rollAll_one (s : List UInt8) (c : UInt8) : rollAll (gearTab s) [c] = gearNum s c.toNat := by
  show (0 * 2 + (gearTab s).getD c.toNat 0) % 18446744073709551616 = _
  have hc : c.toNat < 256 := c.toNat_lt
  rw [List.getD_eq_getElem?_getD, get_gearTab s _ hc, Option.getD_some, Nat.zero_mul, Nat.zero_add, Nat.mod_eq_of_lt (gearNum_lt s _)]
theorem maskTwo : maskOf (clampM 2) = 10376293541461622784 := by decide
set_option maxHeartbeats 1000000 in
set_option maxRecDepth 100000 in
theorem awake7_any (w : World) (hc : Consts w) :
    Calls Tryd.prog 25 #[] w fun e w' => e = .returned (.bool true) ∧ Below w.heap.size w w' := by
  have HN := Lib.hid (gearNew_any [] w hc (by simp))
  have HO := Lib.hid (fun W => refOne_any [] 120 W (by simp))
  have HR1 := Lib.hid (rollAll_one [] 120)
  obtain ⟨x, hx⟩ : ∃ x, x = gearNum [] (120 : UInt8).toNat := ⟨_, rfl⟩
  simp only [← hx] at HO HR1
  obtain ⟨t, ht⟩ : ∃ t, t = gearTab [] := ⟨_, rfl⟩
  simp only [← ht] at HN HR1
  clear hx ht hc
  go_enter Tryd.func25, Tryd.ntmps25
  go_wp2_with fail
  refine HN.out.mono ?_
  rintro e w1 ⟨rfl, htb, hb1⟩
  have HTB := Lib.hid htb
  have HA := Lib.hid (tabAll_any w.heap.size t [120] w1 htb (by simp))
  rw [HR1.out] at HA
  clear htb HN
  go_wp2_with fail
  refine HA.out.mono ?_
  rintro e w' ⟨rfl, rfl⟩
  go_wp2_with fail
  refine (HO.out _).mono ?_
  rintro e w2 ⟨rfl, hb2⟩
  have HB2 := Lib.hid (belowThen hb1 hb2)
  have HM := Lib.hid (mask_any 2 w2)
  rw [maskTwo] at HM
  clear hb1 hb2
  go_wp2_with fail
  refine HM.out.mono ?_
  rintro e w' ⟨rfl, rfl⟩
  go_wp2_with fail
  refine (over_any _ _).mono ?_
  rintro e w3 ⟨rfl, -, hb3⟩
  have HB3 := Lib.hid (belowThen HB2.out hb3)
  clear hb3
  go_wp2
  go_ret
  exact ⟨rfl, HB3.out⟩
end Go.Proofs.YtbjeiiofanpkdaaDoor

/-
  letter.addresses.
-/
import Derived.Test.YtbkknhlagohhhaaLet10
import Derived.Test.YtbkknhlagohhhaaLet7
import Derived.Test.YtbkknhlagohhhaaMsm4
namespace Go.Proofs.Ytbkknhlagohhhaa
open Go.RowKit Crv

/-- k addresses read: they, and what is left. -/
def adrN (s : BSt) : Nat → List Int × BSt
  | 0 => ([], s)
  | k + 1 => ((adrN s k).1 ++ [((intS (adrN s k).2 63).2 : Int)], (intS (adrN s k).2 63).1)
def adrS (s : BSt) : List Int × BSt := adrN (intS s 8).1 (intS s 8).2
theorem length_adrN (s : BSt) : ∀ k, (adrN s k).1.length = k
  | 0 => rfl
  | k + 1 => by
    show ((adrN s k).1 ++ [_]).length = k + 1
    rw [List.length_append, length_adrN s k]
    rfl
theorem intS_le (s : BSt) (top : Nat) : (intS s (top : Int)).2 ≤ top := by
  unfold intS
  split
  · exact Nat.zero_le _
  · rename_i h
    have : nat0 (top : Int) = top := by unfold nat0; omega
    rw [this] at h
    omega
theorem owns_zsr {w : World} {base : Nat} {v : Value} {xs : List Int} (h : Owns w base Tii v (xs.map fun k => Value.int .i64 k)) : ZsR w v xs := by
  rcases h.2 with ⟨rfl, h0⟩ | ⟨g, cap, cur, rfl, _, hg, hn, _, hs, ht⟩
  · rw [List.length_map] at h0
    exact .inl ⟨rfl, List.length_eq_zero_iff.1 h0⟩
  · rw [List.length_map] at hn ht ⊢
    refine .inr ⟨⟨g, 0, none⟩, cap, rfl, hn, fun i u hu => ?_⟩
    rw [Crv.add_plain]
    rw [← ht, Nat.mul_one] at hu
    have hi : i < xs.length := by
      have := (List.getElem?_eq_some_iff.1 hu).1
      rw [List.length_take] at this
      omega
    rw [List.getElem?_take_of_lt hi] at hu
    simp only [World.cell?, hg]
    simpa using hu
set_option maxHeartbeats 2000000 in
set_option maxRecDepth 100000 in
theorem addresses_any (W : World) (g : Nat) (s : BSt) (hbm : BM W g s) : Calls Try.prog 87 #[ptr g] W fun e w' => ∃ v, e = .returned v ∧ Owns w' W.heap.size Tii v ((adrS s).1.map fun k => Value.int .i64 k) ∧ BM w' g (adrS s).2 ∧ W.grownBy w' (some g) := by
  have hgl : g < W.heap.size := Mem.lt hbm
  have HI := Lib.hid (intB_any W g s 8 hbm (by omega) (by omega))
  have hn8 : (intS s 8).2 ≤ 8 := intS_le s 8
  have HAD : Hid (adrS s = adrN (intS s 8).1 (intS s 8).2) := Lib.hid rfl
  obtain ⟨n, hn⟩ : ∃ n, n = (intS s 8).2 := ⟨_, rfl⟩
  obtain ⟨s1, hs1⟩ : ∃ s1, s1 = (intS s 8).1 := ⟨_, rfl⟩
  rw [← hn] at HI hn8 HAD
  rw [← hs1] at HI HAD
  obtain ⟨ti, hi, hz, hsz, hby⟩ := int_inf
  have HTI := Lib.hid hi
  have HTZ := Lib.hid hz
  have HTS := Lib.hid hsz
  have HTB : ti.bytes ≤ 64 := by omega
  clear hbm hn hs1 hi hz hsz hby
  go_enter Try.func87, Try.ntmps87
  go_wp2_with fail
  refine HI.out.mono ?_
  rintro e w1 ⟨rfl, hb1, hg1⟩
  have HR0 : Hid (Owns w1 W.heap.size Tii (.slice none 0 0) ((adrN s1 0).1.map fun k => Value.int .i64 k) ∧ BM w1 g (adrN s1 0).2 ∧ W.grownBy w1 (some g)) := Lib.hid ⟨Owns.nil _ _ _, hb1, hg1⟩
  clear HI hb1 hg1
  go_wp2_with fail
  go_loopw [3, 6] (fun v i wr => ∃ k : Nat, k ≤ n ∧ i = .int .i64 k ∧ Hid (Owns wr W.heap.size Tii v ((adrN s1 k).1.map fun k => Value.int .i64 k) ∧ BM wr g (adrN s1 k).2 ∧ W.grownBy wr (some g))) (fun _ i _ => n - (intOf i).toNat)
  case atStart => exact ⟨0, by omega, rfl, HR0⟩
  case round =>
    obtain ⟨k, hk, rfl, HR⟩ := hrel
    clear HR0
    by_cases hlt : k < n
    · have hd : decide ((k : Int) < (n : Int)) = true := by simp; omega
      have HC := Lib.hid (intB_any wr g (adrN s1 k).2 63 HR.out.2.1 (by omega) (by omega))
      obtain ⟨a3, c3, hv3, _⟩ := HR.out.1.form
      have HL := Lib.hid (length_adrN s1 k)
      rw [List.length_map, HL.out] at hv3
      subst hv3
      have HNX : Hid (adrN s1 (k + 1) = ((adrN s1 k).1 ++ [((intS (adrN s1 k).2 63).2 : Int)], (intS (adrN s1 k).2 63).1)) := Lib.hid rfl
      obtain ⟨z, hz⟩ : ∃ z : Nat, z = (intS (adrN s1 k).2 63).2 := ⟨_, rfl⟩
      rw [← hz] at HC HNX
      clear hz
      go_wp2_with fail
      refine HC.out.mono ?_
      rintro e w2 ⟨rfl, hb2, hg2⟩
      have hne : ∀ b, (Value.slice a3 k c3).ownBlock = some b → b ≠ g := fun b hb e => by
        have := (HR.out.1.lt b hb).2
        omega
      have ho2 : Owns w2 W.heap.size Tii (.slice a3 k c3) ((adrN s1 k).1.map fun k => Value.int .i64 k) := HR.out.1.of_below fun b hb => hg2.block b (HR.out.1.lt b hb).1 (fun e => hne b hb (by injection e))
      have HO2 := Lib.hid (ho2.alloc (.cells #[.int .i64 (z : Int)] 3))
      have HB2 := Lib.hid (show BM (w2.alloc (.cells #[.int .i64 (z : Int)] 3)) g (intS (adrN s1 k).2 63).1 from BM.below hb2 (belowSelf w2 _))
      have HG2 := Lib.hid (grown_thn HR.out.2.2 (grown_thn hg2 (grownOfBelow (belowSelf w2 (.cells #[.int .i64 (z : Int)] 3)))))
      have HLEN := Lib.hid (show ((adrN s1 k).1.map fun k => Value.int .i64 k).length + [Value.int .i64 (z : Int)].length ≤ 1099511627776 by rw [List.length_map, HL.out]; simp; omega)
      have HONE := Lib.hid (show ∀ u ∈ [Value.int .i64 (z : Int)], u.oneCell' = true by intro u hu; simp at hu; subst hu; rfl)
      clear hb2 hg2 ho2 hne HC HR
      go_wp2_with (first
        | (at_builtin; refine wp_append_gr (v := .slice a3 k c3) HO2.out [Value.int .i64 (z : Int)] (.tmp 8) (.tmp 11) 24 ti (.int .i64 0) rfl rfl Try.underlying24 HTI.out HTZ.out HTS.out HTB rfl rfl rfl (fun j u hu => cell_news_one _ _ _ j u hu) HONE.out HLEN.out (by have := HG2.out.size; simpa using this) ?_
           intro v4 w4 ho4 hg4 _
           have HX : Hid (Owns w4 W.heap.size Tii v4 ((adrN s1 (k + 1)).1.map fun k => Value.int .i64 k) ∧ BM w4 g (adrN s1 (k + 1)).2 ∧ W.grownBy w4 (some g)) := Lib.hid (by
             rw [HNX.out]
             refine ⟨by rw [List.map_append]; exact ho4, ?_, ?_⟩
             · exact Mem.grown HB2.out (row := (Value.slice a3 k c3).ownBlock) hg4 (fun e => by
                 have := (HO2.out.lt g e.symm).2
                 omega)
             · have hg2' := HG2.out
               refine ⟨hg4.os.trans hg2'.os, hg4.tape.trans hg2'.tape, hg4.output.trans hg2'.output, Nat.le_trans hg2'.size hg4.size, fun b hb hne => (hg4.block b (Nat.lt_of_lt_of_le hb hg2'.size) (fun e => ?_)).trans (hg2'.block b hb hne)⟩
               have := (HO2.out.lt b e.symm).2
               omega)
           clear ho4 hg4)
        | fail)
      refine ⟨⟨k + 1, by omega, by go_num, HX⟩, ?_⟩
      simp [intOf]; omega
    · have e : k = n := by omega
      subst e
      have hd : decide ((k : Int) < (k : Int)) = false := by simp
      go_wp2_with fail
      go_ret
      rw [HAD.out]
      exact ⟨_, rfl, HR.out⟩
end Go.Proofs.Ytbkknhlagohhhaa

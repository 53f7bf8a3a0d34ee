/-
  SectorPlays: Does, any call.
-/
import Derived.Test.YtjmmbafpiahhiaaSLaw8
namespace Go.Proofs.Ytjmmbafpiahhiaa
open Go.RowKit Go.Maps Go.Sort Go.Shelf Crv
section
variable {w : World} {fb cb mb db sz : Nat} {a : Bool} {k : Int} {bs : List UInt8} {n : Nat} {D : DataW Unit} {du : Tab} {v : Value}
set_option maxRecDepth 100000 in
theorem arm_less (q : Int) (hq : q < 0) (h : Dk w fb cb mb db sz a k bs n D) :
    Calls Try.prog 25 #[ptr fb, .int .i64 q] w fun e w' => e = .returned (.tuple #[]) ∧ Dk w' fb cb mb db sz true 0 bs n D ∧ Only [fb, cb, mb] w w' ∧ w'.heap.size = w.heap.size := by
  have f0 := h.f.frozen 0
  have f1 := h.f.frozen 1
  have c0 : w.cell? ⟨fb, 0, none⟩ = some (.bool a) := h.f.cell 0
  have c1 : w.cell? ⟨fb, 1, none⟩ = some (.int .i64 k) := h.f.cell 1
  have e1 : max q 0 = 0 := by omega
  have e0 : decide (q < 0) = true := by simpa using hq
  have H := Lib.hid h
  clear h hq
  go_enter Try.func25, Try.ntmps25
  go_wp2
  go_end0
  have h := H.out
  exact ⟨rfl, ⟨(h.d.other h.df _).other h.df _, (h.f.set 0 _).set 1 _, (h.c.other h.fc.symm _).other h.fc.symm _, (h.m.setCell h.fm.symm _).setCell h.fm.symm _, h.len, h.most, by omega, by omega⟩,
    ⟨⟨rfl, rfl, rfl, by simp [World.setCell], fun i hi => by omega⟩, fun i _ hn => (Below.heap_setCell _ _ _ _ (fun e => hn (by rw [e]; simp))).trans (Below.heap_setCell _ _ _ _ (fun e => hn (by rw [e]; simp)))⟩, by simp [World.setCell]⟩
theorem fuse_io {a : Bool} {k : Int} (ho : okS a k = false) : fuseF a k = 0 ∧ leftS a k = k := by
  have h := fuse_ok (a := a) (k := k)
  rw [ho] at h
  refine ⟨by simpa using h.symm, ?_⟩
  cases a with
  | false => simp [okS] at ho
  | true =>
    have hk : k = 0 := by simpa [okS] using ho
    subst hk
    rfl
theorem fuse_some {a : Bool} {k : Int} (hk : 0 ≤ k ∧ k ≤ 9223372036854775807) (ho : okS a k = true) (h0 : a = false → k = 0) : fuseF a k ≠ 0 ∧ -1 ≤ fuseF a k ∧ fuseF a k ≤ 9223372036854775807 ∧ fuseF a (leftS a k) = leftF (fuseF a k) ∧ (a = false → leftS a k = 0) := by
  have h := fuse_ok (a := a) (k := k)
  rw [ho] at h
  refine ⟨by simpa using h.symm, by unfold fuseF; split <;> omega, by unfold fuseF; split <;> omega, fuse_left hk.1, fun e => ?_⟩
  subst e
  exact (show leftS false k = k by simp [leftS]).trans (h0 rfl)
theorem hasS_true {sz : Nat} {at_ m : Int} (h : hasS sz at_ m = true) : 0 ≤ at_ ∧ 0 ≤ m ∧ m ≤ sz - at_ := by
  simp only [hasS, Bool.and_eq_true, decide_eq_true_eq] at h
  omega
theorem longS_true {ls : List (List UInt8)} (h : longS ls = true) : ∃ l ∈ ls, 64 < l.length := by
  simp only [longS, List.any_eq_true, decide_eq_true_eq] at h
  obtain ⟨l, hl, h⟩ := h
  exact ⟨l, hl, by omega⟩
theorem longS_false {ls : List (List UInt8)} (h : longS ls = false) : ∀ l ∈ ls, l.length ≤ 64 := by
  simp only [longS, List.any_eq_false, decide_eq_true_eq] at h
  intro l hl
  have := h l hl
  omega
theorem length_few (ls : List (List UInt8)) : (cutL 70 (ls.take 6)).length ≤ 6 := by rw [length_cutL, List.length_take]; omega
set_option maxHeartbeats 2000000 in
theorem does_any (ki at_ nn : Int) (ta : Option Addr) (tn tc : Nat) (ca : Option Addr) (cn cc : Nat) (b : UInt8) (ls : List (List UInt8)) (ch : List Int) (h : Dk w fb cb mb db sz a k bs n D) (hr : Rf w v sz bs du (fuseF a k)) (hdu : Du D du sz) (h0 : a = false → k = 0) (hn : n ≤ 900000)
    (ha : at_ ≤ 9223372036854775807) (hnn : nn ≤ 9223372036854775807) (hv : Txs w (.slice ta tn tc) ls) (hlen : ls.length ≤ 9223372036854775807) (hz : Zs w (.slice ca cn cc) ch) (hch : ch.length ≤ 9223372036854775807) (hav : ch ≠ [] → ∀ g, Value.ownBlock (.slice ca cn cc) = some g → g ∉ [fb, cb, mb]) :
    Calls Try.prog 12 #[ptr db, v, .agg (acC ki at_ nn ta tn tc ca cn cc b).toArray] w (DoesP w fb cb mb db sz n) := by
  have hs := h.most
  have hk := h.kin
  have hb0 := h.len
  have same : ∀ W, Dk W fb cb mb db sz a k bs n D → PgP fb cb mb db sz n a k bs du W W := fun W hd => ⟨n, D, by omega, hd, hdu, Only.refl _ _⟩
  by_cases k1 : ki = 1
  · subst k1
    cases hh : hasS sz at_ nn with
    | false =>
      refine does1 at_ nn [] 10 ta tn tc ca cn cc b a k bs du h hr h0 (fun W hd => (read_out at_ nn ha hd hh).mono ?_) (fun W hr' => ?_)
      · rintro e w1 ⟨rfl, rfl⟩
        exact ⟨rfl, same _ hd⟩
      · obtain ⟨b1, b2, b3, d1, d2, d3, rfl, g1, g2, g3⟩ := hr'
        have hx : Rf W (.agg (rdC b1 b2 b3 d1 d2 d3 sz (fuseF a k)).toArray) sz bs du (fuseF a k) := ⟨_, _, _, _, _, _, rfl, g1, g2, g3⟩
        refine (rread_out b1 b2 b3 d1 d2 d3 sz (fuseF a k) at_ nn W ha hs hh).mono ?_
        rintro e w1 ⟨rfl, hb⟩
        exact ⟨_, rfl, hx.below hb, hb⟩
    | true =>
      cases ho : okS a k with
      | false =>
        obtain ⟨f0, f1⟩ := fuse_io ho
        refine does1 at_ nn [] 13 ta tn tc ca cn cc b a k bs du h hr h0 (fun W hd => (read_io at_ nn ha hd hh ho).mono ?_) (fun W hr' => ?_)
        · rintro e w1 ⟨rfl, hd1, ho1, -⟩
          rw [f1] at hd1
          exact ⟨rfl, n, D, by omega, hd1, hdu, ho1⟩
        · obtain ⟨b1, b2, b3, d1, d2, d3, rfl, g1, g2, g3⟩ := hr'
          have hx : Rf W (.agg (rdC b1 b2 b3 d1 d2 d3 sz (fuseF a k)).toArray) sz bs du (fuseF a k) := ⟨_, _, _, _, _, _, rfl, g1, g2, g3⟩
          refine (rread_io b1 b2 b3 d1 d2 d3 sz (fuseF a k) at_ nn W ha hs hh f0).mono ?_
          rintro e w1 ⟨rfl, hb⟩
          refine ⟨_, rfl, ?_, hb⟩
          rw [show leftF (fuseF a k) = fuseF a k by rw [f0]; rfl]
          exact hx.below hb
      | true =>
        obtain ⟨f0, f1, f2, f3, f4⟩ := fuse_some hk ho h0
        obtain ⟨x1, x2, x3⟩ := hasS_true hh
        obtain ⟨i, rfl⟩ := Int.eq_ofNat_of_zero_le x1
        obtain ⟨m, rfl⟩ := Int.eq_ofNat_of_zero_le x2
        refine does1 i m (rowS bs i m) 0 ta tn tc ca cn cc b a (leftS a k) bs du h hr f4 (fun W hd => (read_ok i m hd (by omega) ho).mono ?_) (fun W hr' => ?_)
        · rintro e w1 ⟨rfl, hd1, ho1, -⟩
          exact ⟨rfl, n, D, by omega, hd1, hdu, ho1⟩
        · obtain ⟨b1, b2, b3, d1, d2, d3, rfl, g1, g2, g3⟩ := hr'
          have hx : Rf W (.agg (rdC b1 b2 b3 d1 d2 d3 sz (fuseF a k)).toArray) sz bs du (fuseF a k) := ⟨_, _, _, _, _, _, rfl, g1, g2, g3⟩
          refine (rread_ok b1 b2 b3 d1 d2 d3 sz (fuseF a k) bs i m W g2 hs (by omega) f0 f1 f2).mono ?_
          rintro e w1 ⟨rfl, hb⟩
          rw [f3]
          exact ⟨_, rfl, (hx.below hb).fuse, hb⟩
  by_cases k2 : ki = 2
  · subst k2
    have hl6 := length_few ls
    cases hh : hasS sz at_ (cutL 70 (ls.take 6)).length with
    | false =>
      refine does2 at_ nn ls 10 ta tn tc ca cn cc b a k bs du h hr h0 hv hlen (fun W hd tv ht => (write_out at_ tv _ ht ha hd hh).mono ?_) (fun W hr' tv ht => ?_)
      · rintro e w1 ⟨rfl, rfl⟩
        exact ⟨rfl, same _ hd⟩
      · obtain ⟨ad, cap, rfl, -⟩ := ht
        refine (rwrite_out v sz bs du (fuseF a k) at_ ad _ cap W hr' ha hs hh).mono ?_
        rintro e w1 ⟨rfl, hb⟩
        exact ⟨_, rfl, hr'.below hb, hb⟩
    | true =>
      cases hl : longS (cutL 70 (ls.take 6)) with
      | true =>
        refine does2 at_ nn ls 10 ta tn tc ca cn cc b a k bs du h hr h0 hv hlen (fun W hd tv ht => (write_long at_ tv _ ht (by omega) ha hd hh hl).mono ?_) (fun W hr' tv ht => (rwrite_long v sz bs du (fuseF a k) at_ tv _ W hr' ht (by omega) ha hs hh (longS_true hl)).mono ?_)
        · rintro e w1 ⟨rfl, rfl⟩
          exact ⟨rfl, same _ hd⟩
        · rintro e w1 ⟨rfl, hb⟩
          exact ⟨_, rfl, hr'.below hb, hb⟩
      | false =>
        cases ho : okS a k with
        | false =>
          obtain ⟨f0, f1⟩ := fuse_io ho
          refine does2 at_ nn ls 13 ta tn tc ca cn cc b a k bs du h hr h0 hv hlen (fun W hd tv ht => (write_io at_ tv _ ht (by omega) ha hd hh hl ho).mono ?_) (fun W hr' tv ht => ?_)
          · rintro e w1 ⟨rfl, hd1, ho1, -⟩
            rw [f1] at hd1
            exact ⟨rfl, n, D, by omega, hd1, hdu, ho1⟩
          · rw [f0] at hr' ⊢
            refine (rwrite_io v sz bs du at_ tv _ W hr' ht (by omega) ha hs hh (longS_false hl)).mono ?_
            rintro e w1 ⟨rfl, hb⟩
            exact ⟨_, rfl, hr'.below hb, hb⟩
        | true =>
          obtain ⟨f0, f1, f2, f3, f4⟩ := fuse_some hk ho h0
          obtain ⟨x1, x2, x3⟩ := hasS_true hh
          obtain ⟨i, rfl⟩ := Int.eq_ofNat_of_zero_le x1
          have hi : i + (cutL 70 (ls.take 6)).length ≤ sz := by omega
          refine does2 i nn ls 0 ta tn tc ca cn cc b a (leftS a k) (wrTo bs D i (cutL 70 (ls.take 6)) (cutL 70 (ls.take 6)).length).1 (duTo du bs D i (cutL 70 (ls.take 6)) (cutL 70 (ls.take 6)).length) h hr f4 hv hlen (fun W hd tv ht => (write_ok i tv _ ht (by omega) hd hi (longS_false hl) ho).mono ?_) (fun W hr' tv ht => ?_)
          · rintro e w1 ⟨rfl, hd1, ho1⟩
            exact ⟨rfl, _, _, by omega, hd1, hdu.write h.m.isMap hb0 hi (longS_false hl) _ (Nat.le_refl _), ho1⟩
          · refine (rwrite_ok v sz bs du (fuseF a k) i tv _ D W hr' ht hs hb0 hi (longS_false hl) f0 f1 f2).mono ?_
            rintro e w1 ⟨v', rfl, hr2, hb⟩
            rw [f3]
            exact ⟨_, rfl, hr2, hb⟩
  by_cases k3 : ki = 3
  · subst k3
    cases ho : okS a k with
    | false =>
      obtain ⟨f0, f1⟩ := fuse_io ho
      refine does3 at_ nn 13 ta tn tc ca cn cc b a k bs du h hr h0 (fun W hd => (sync_io hd ho).mono ?_) (fun W hr' => ?_)
      · rintro e w1 ⟨rfl, hd1, ho1, -⟩
        rw [f1] at hd1
        exact ⟨rfl, n, D, by omega, hd1, hdu, ho1⟩
      · rw [f0] at hr' ⊢
        refine (rsync_io v sz bs du W hr').mono ?_
        rintro e w1 ⟨rfl, hb⟩
        exact ⟨_, rfl, hr'.below hb, hb⟩
    | true =>
      obtain ⟨f0, f1, f2, f3, f4⟩ := fuse_some hk ho h0
      refine does3 at_ nn 0 ta tn tc ca cn cc b a (leftS a k) bs (fun _ => none) h hr f4 (fun W hd => (sync_ok hd ho).mono ?_) (fun W hr' => (rsync_ok v sz bs du (fuseF a k) W hr' hs f0 f1 f2).mono ?_)
      · rintro e w1 ⟨rfl, hd1, ho1, -⟩
        exact ⟨rfl, 0, _, by omega, hd1, Du.none sz, ho1⟩
      · rintro e w1 ⟨v', rfl, hr2, hb⟩
        rw [f3]
        exact ⟨_, rfl, hr2, hb⟩
  by_cases k4 : ki = 4
  · subst k4
    refine does4 at_ nn ch ta tn tc ca cn cc b false 0 (crTo bs du (looseL du sz) ch (looseL du sz).length) (fun _ => none) h hr (fun _ => rfl) hz hav (fun W hd hzW => (crash_any _ ch du hzW hav hch (by omega) hd hdu).mono ?_) (fun W hr' hzW => rcrash_any v sz bs du (fuseF a k) _ ch W hr' hzW hch hs hb0 hdu.lens)
    rintro e w1 ⟨rfl, hd1, ho1⟩
    exact ⟨rfl, 0, _, by omega, hd1, Du.none sz, ho1⟩
  by_cases k5 : ki = 5
  · subst k5
    by_cases hh : at_ < 0 ∨ (sz : Int) ≤ at_ ∨ nn < 0 ∨ 64 ≤ nn
    · refine does5 at_ nn 10 ta tn tc ca cn cc b a k bs du h hr h0 (fun W hd => (spoil_out at_ nn b hd hh).mono ?_) (fun W hr' => (rspoil_out v sz bs du (fuseF a k) at_ nn b W hr' ha hs ?_).mono ?_)
      · rintro e w1 ⟨rfl, rfl⟩
        exact ⟨rfl, same _ hd⟩
      · rcases hh with hh | hh | hh
        · left; simp only [hasS, Bool.and_eq_false_iff, decide_eq_false_iff_not]; omega
        · left; simp only [hasS, Bool.and_eq_false_iff, decide_eq_false_iff_not]; omega
        · right; exact hh
      · rintro e w1 ⟨rfl, hb⟩
        exact ⟨_, rfl, hr'.below hb, hb⟩
    · obtain ⟨i, rfl⟩ := Int.eq_ofNat_of_zero_le (show 0 ≤ at_ by omega)
      obtain ⟨p, rfl⟩ := Int.eq_ofNat_of_zero_le (show 0 ≤ nn by omega)
      have hi : i < sz := by omega
      have hp : p < 64 := by omega
      have hsl : (sureF bs du i).length = 64 := by
        unfold sureF
        cases hd : du i with
        | none => exact length_rowS (n := 1) hb0 (by omega)
        | some l => exact hdu.len i l hd
      refine does5 i p 0 ta tn tc ca cn cc b a k (bentL bs (64 * i + p) b) (bentT du i p b) h hr h0 (fun W hd => (spoil_ok i p b du hi hp (by omega) hd hdu).mono ?_) (fun W hr' => rspoil_ok v sz bs du (fuseF a k) i p b W hr' hs hb0 hi hp hsl)
      rintro e w1 ⟨rfl, ⟨n', D', hn', hd1, hdu1⟩, ho1⟩
      exact ⟨rfl, n', D', by omega, hd1, hdu1, ho1⟩
  by_cases k6 : ki = 6
  · subst k6
    refine does6 at_ nn ta tn tc ca cn cc b true (max nn 0) h hr (fun e => by cases e) rfl (fun W hd => ?_)
    by_cases hq : nn < 0
    · refine (arm_less nn hq hd).mono ?_
      rintro e w1 ⟨rfl, hd1, ho1, -⟩
      rw [show max nn 0 = 0 by omega]
      exact ⟨rfl, n, D, by omega, hd1, hdu, ho1⟩
    · obtain ⟨q, rfl⟩ := Int.eq_ofNat_of_zero_le (show 0 ≤ nn by omega)
      refine (arm_any q (by omega) hd).mono ?_
      rintro e w1 ⟨rfl, hd1, ho1, -⟩
      rw [show max (q : Int) 0 = q by omega]
      exact ⟨rfl, n, D, by omega, hd1, hdu, ho1⟩
  by_cases k7 : ki = 7
  · subst k7
    refine does7 at_ nn ta tn tc ca cn cc b false 0 h hr (fun _ => rfl) rfl (fun W hd => (clear_any hd).mono ?_)
    rintro e w1 ⟨rfl, hd1, ho1, -⟩
    exact ⟨rfl, n, D, by omega, hd1, hdu, ho1⟩
  exact does0 ki at_ nn ta tn tc ca cn cc b h hr hdu h0 (by omega)
end
end Go.Proofs.Ytjmmbafpiahhiaa

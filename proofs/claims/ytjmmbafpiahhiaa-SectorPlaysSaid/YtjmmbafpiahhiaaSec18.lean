/-
  Package sector: Armed, Spoil.
-/
import Derived.Test.YtjmmbafpiahhiaaSec17
import Derived.Test.YtjmmbafpiahhiaaSRef10
namespace Go.Proofs.Ytjmmbafpiahhiaa
open Go.RowKit Go.Maps Go.Sort Go.Shelf Crv

section
variable {w : World} {fb cb mb db sz : Nat} {a : Bool} {k : Int} {bs : List UInt8} {n : Nat} {D : DataW Unit}
set_option maxRecDepth 100000 in
theorem armed_any (h : Dk w fb cb mb db sz a k bs n D) :
    Calls Try.prog 32 #[ptr fb] w fun e w' => e = .returned (.tuple #[.int .i64 k, .bool a]) ∧ Below w.heap.size w w' := by
  have c0 : w.cell? ⟨fb, 0, none⟩ = some (.bool a) := h.f.cell 0
  have c1 : w.cell? ⟨fb, 1, none⟩ = some (.int .i64 k) := h.f.cell 1
  clear h
  go_enter Try.func32, Try.ntmps32
  go_wp2_with fail
  go_region_held3 (fun w' => w'.cell? ⟨fb, 0, none⟩ = some (.bool a) ∧ w'.cell? ⟨fb, 1, none⟩ = some (.int .i64 k)) (exact ⟨c0, c1⟩) (fail)
  rename_i Kz hKz hHe
  refine hKz _ _ ?_
  go_wp2_with fail
  ((try simp only [Exit.inBlock, Exit.then]); refine bodyPost_ret (results_tmp2 rfl _ _ _) rfl ?_)
  exact ⟨rfl, below_drewN (Below.refl _ _) 1⟩
theorem Du.again {D : DataW Unit} {du : Tab} {sz i : Nat} {l' : List UInt8} (h : Du D du sz) (hm : IsMap D) (hi : i < sz) (hl : l'.length = 64) : Du (D.put (key i) (secD l')) (fun q => if q = i then some l' else du q) sz := by
  refine ⟨fun z => ?_, fun q l hq z => ?_, fun q hq => ?_, fun q l hq => ?_⟩
  · by_cases hz : z = i
    · subst hz
      rw [has_put_same hm (show WideAt.IsKeyLit (key i) from trivial)]
      simp only [true_iff]
      exact ⟨i, rfl, by rw [if_pos rfl]; rfl⟩
    · rw [has_put_other (int_ne hz), h.has]
      constructor
      · rintro ⟨j, e, hj⟩
        exact ⟨j, e, by rw [if_neg (by omega)]; exact hj⟩
      · rintro ⟨j, e, hj⟩
        rw [if_neg (by omega)] at hj
        exact ⟨j, e, hj⟩
  · by_cases hqi : q = i
    · subst hqi
      rw [if_pos rfl] at hq
      injection hq with hq
      rw [atKey_put_same hm (show WideAt.IsKeyLit (key q) from trivial), hq]
    · rw [if_neg hqi] at hq
      rw [atKey_put_other (key_ne hqi)]
      exact h.look q l hq z
  · by_cases hqi : q = i
    · omega
    · rw [if_neg hqi] at hq
      exact h.dom q hq
  · by_cases hqi : q = i
    · rw [if_pos hqi] at hq
      injection hq with hq
      rw [← hq]
      exact hl
    · rw [if_neg hqi] at hq
      exact h.len q l hq
theorem bentT_some {du : Tab} {i p : Nat} {b : UInt8} {l : List UInt8} (h : du i = some l) : bentT du i p b = fun q => if q = i then some (bentL l p b) else du q := by
  funext q
  unfold bentT
  rw [h]
  rfl
theorem Du.hasKey {D : DataW Unit} {du : Tab} {sz i : Nat} (h : Du D du sz) : Maps.has D (key i) = (du i).isSome := by
  rw [Bool.eq_iff_iff, h.has]
  constructor
  · rintro ⟨j, e, hj⟩
    have : i = j := by omega
    subst this
    exact hj
  · intro hj
    exact ⟨i, rfl, hj⟩
set_option maxRecDepth 100000 in
set_option maxHeartbeats 600000 in
theorem spoil_out (at_ p : Int) (b : UInt8) (h : Dk w fb cb mb db sz a k bs n D) (hh : at_ < 0 ∨ (sz : Int) ≤ at_ ∨ p < 0 ∨ 64 ≤ p) :
    Calls Try.prog 30 #[ptr db, .int .i64 at_, .int .i64 p, .int .u8 (b.toNat : Int)] w fun e w' => e = .returned (.int .i64 10) ∧ w = w' := by
  have HSI := Lib.hid (size_any h)
  clear h
  by_cases h1 : at_ < 0
  · have e1 : decide (at_ < 0) = true := by simpa using h1
    clear h1 hh
    go_enter Try.func30, Try.ntmps30
    go_wp2_with fail
    go_ret
    exact ⟨rfl, rfl⟩
  have e1 : decide (at_ < 0) = false := by simpa using h1
  by_cases h2 : (sz : Int) ≤ at_
  · have e2 : decide ((sz : Int) ≤ at_) = true := by simpa using h2
    clear h1 h2 hh
    go_enter Try.func30, Try.ntmps30
    go_wp2_with fail
    refine HSI.out.mono ?_
    rintro e w1 ⟨rfl, rfl⟩
    go_wp2_with fail
    go_ret
    exact ⟨rfl, rfl⟩
  have e2 : decide ((sz : Int) ≤ at_) = false := by simpa using h2
  by_cases h3 : p < 0
  · have e3 : decide (p < 0) = true := by simpa using h3
    clear h1 h2 h3 hh
    go_enter Try.func30, Try.ntmps30
    go_wp2_with fail
    refine HSI.out.mono ?_
    rintro e w1 ⟨rfl, rfl⟩
    go_wp2_with fail
    go_ret
    exact ⟨rfl, rfl⟩
  have e3 : decide (p < 0) = false := by simpa using h3
  have e4 : decide ((64 : Int) ≤ p) = true := by simp; omega
  clear h1 h2 h3 hh
  go_enter Try.func30, Try.ntmps30
  go_wp2_with fail
  refine HSI.out.mono ?_
  rintro e w1 ⟨rfl, rfl⟩
  go_wp2_with fail
  go_ret
  exact ⟨rfl, rfl⟩
end
end Go.Proofs.Ytjmmbafpiahhiaa

/-
  BucketSorts: the walk.
-/
import Derived.Test.YtaicjdjfhbmfeaaDoorKLaw1
import Derived.Test.YtaicjdjfhbmfeaaDoorSrtC
import Derived.Test.YtaicjdjfhbmfeaaDoorNam64
import Derived.Test.YtaicjdjfhbmfeaaDoorOid6
namespace Go.Proofs.YtaicjdjfhbmfeaaDoor
open Go.RowKit Crv

theorem Owns.zs {w : World} {b : Nat} {v : Value} {xs : List Int} (h : Owns w b Tin v (xs.map iv)) : Zs w v xs := by
  obtain ⟨a, cap, rfl, -, -, hc⟩ := h.form
  rw [List.length_map] at hc ⊢
  refine ⟨a, cap, rfl, fun i hi => ?_⟩
  obtain ⟨g, hg, -, hcell⟩ := hc i hi
  refine ⟨g, 0, hg, ?_⟩
  rw [Nat.zero_add, hcell, List.getElem?_map, List.getElem?_eq_getElem hi, List.getD_eq_getElem?_getD, List.getElem?_eq_getElem hi]
  rfl
set_option maxHeartbeats 1000000 in
set_option maxRecDepth 100000 in
theorem same19_any {w : World} {b1 b2 : Nat} {v1 v2 : Value} {xs : List Int} (h1 : Owns w b1 Tin v1 (xs.map iv)) (h2 : Owns w b2 Tin v2 (xs.map iv)) (hl : xs.length ≤ 100000) :
    Calls Tryd.prog 13 #[v1, v2] w fun e w' => e = .returned (.bool true) ∧ Below w.heap.size w w' := by
  obtain ⟨a1, c1, rfl, -, -, hc1⟩ := h1.form
  obtain ⟨a2, c2, rfl, -, -, hc2⟩ := h2.form
  simp only [List.length_map] at hc1 hc2 ⊢
  have HC1 := Lib.hid hc1
  have HC2 := Lib.hid hc2
  clear h1 h2 hc1 hc2
  go_enter Tryd.func13, Tryd.ntmps13
  go_wp2_with fail
  go_loopw [13] (fun i wr => ∃ k : Nat, k ≤ xs.length ∧ i = .int .i64 k ∧ ∃ m, wr = w.drewN m) (fun i _ => xs.length - (intOf i).toNat)
  case atStart => exact ⟨0, by omega, rfl, 0, rfl⟩
  case round =>
    obtain ⟨k, hk, rfl, m, rfl⟩ := hrel
    by_cases hlt : k < xs.length
    · have hl1 : (k : Int) < (xs.length : Int) := by omega
      obtain ⟨g1, rfl, -, e1⟩ := HC1.out k hlt
      obtain ⟨g2, rfl, -, e2⟩ := HC2.out k hlt
      rw [List.getElem?_map, List.getElem?_eq_getElem hlt, Option.map_some] at e1 e2
      obtain ⟨z, hz⟩ : ∃ z, z = xs[k] := ⟨_, rfl⟩
      rw [← hz] at e1 e2
      clear hz
      go_wp2_with fail
      go_quiet (fail)
      go_wp2_with fail
      exact ⟨⟨k + 1, by omega, by go_num, _, rfl⟩, by simp [intOf]; omega⟩
    · have hl1 : ¬ (k : Int) < (xs.length : Int) := by omega
      go_wp2_with fail
      go_ret
      exact ⟨rfl, below_drewN (Below.refl _ _) m⟩
/-- What the law's first loop keeps. -/
def FwK (W0 : World) (g k : Nat) (v : Value) (L : List Int) (w : World) : Prop :=
  Owns w W0.heap.size Tin v (L.map iv) ∧ L.Nodup ∧ (∀ n ∈ L, 0 ≤ n ∧ n < 64) ∧ L.length ≤ k ∧ (∃ c h N, MpI w g k c h N ∧ (∀ n, c n ≤ k) ∧ ∀ n : Nat, (c n = 0 ↔ (n : Int) ∉ L)) ∧ Below W0.heap.size W0 w ∧ W0.heap.size ≤ g
theorem MpI.ne_own {w : World} {g n N b : Nat} {c : Nat → Nat} {h : Nat → Bool} {v : Value} {xs : List Value} (m : MpI w g n c h N) (ho : Owns w b Tin v xs) : v.ownBlock ≠ some g := by
  intro e
  obtain ⟨cs, hcs⟩ := owns_tag ho g e
  obtain ⟨D, ⟨es, cl, h1, _⟩, _⟩ := m
  rw [hcs] at h1
  cases h1
/-- Of two that stand in the order, the first is the nearer. -/
theorem near_of {g : List UInt8} (hg : g.length = 32) {xs : List Int} (hn : xs.Nodup) (hx : ∀ n ∈ xs, 0 ≤ n ∧ n < 64) {i : Nat} (hi : i + 1 < (isortB g xs).length) :
    cmpOf (xorOf g (idN ((isortB g xs).getD i 0))) (xorOf g (idN ((isortB g xs).getD (i + 1) 0))) < 0 := by
  have hp := isortB_perm g xs
  have hs := isortB_srt g hg xs hx
  have h1 := List.pairwise_iff_getElem.1 hs i (i + 1) (by rw [List.length_map]; omega) (by rw [List.length_map]; omega) (by omega)
  have hnd := List.pairwise_iff_getElem.1 (hp.nodup_iff.2 hn) i (i + 1) (by omega) hi (by omega)
  rw [List.getElem_map, List.getElem_map] at h1
  have e1 : (isortB g xs).getD i 0 = (isortB g xs)[i] := by rw [List.getD_eq_getElem?_getD, List.getElem?_eq_getElem (by omega)]; rfl
  have e2 : (isortB g xs).getD (i + 1) 0 = (isortB g xs)[i + 1] := by rw [List.getD_eq_getElem?_getD, List.getElem?_eq_getElem hi]; rfl
  rw [e1, e2]
  have m1 := hx _ (hp.mem_iff.1 (List.getElem_mem (show i < (isortB g xs).length by omega)))
  have m2 := hx _ (hp.mem_iff.1 (List.getElem_mem hi))
  have hxe : xorOf g (idN (isortB g xs)[i]) = xorOf g (idN (isortB g xs)[i + 1]) → False := fun e => by
    refine hnd (idN_inj m1 m2 (eq_of_same _ _ (length_idN _) (length_idN _) fun j hj => ?_))
    have e3 := congrArg (fun l : List UInt8 => l.getD j 0) e
    simp only [xorOf_get g _ hg (length_idN _) j hj] at e3
    exact xor_inj _ _ _ e3
  rcases ltP_or (plOf g hg (isortB g xs)[i]) (plOf g hg (isortB g xs)[i + 1]) with h | h | h
  · rcases h with h | ⟨h, _⟩
    · exact h
    · exact absurd h (fun e => hxe e)
  · exact absurd (congrArg (fun p : PL => p.1.2) h) (fun e => hxe e)
  · exact absurd h h1
end Go.Proofs.YtaicjdjfhbmfeaaDoor

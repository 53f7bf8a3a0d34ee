/-
  BaleBack: for every number, length, text, list of names and tail the law returns true: what is put is taken again, and what is behind it is left. Conditions: none.
-/
import Derived.Test.YtclggeicpdkkdaaBCard2
import Derived.Test.YtclggeicpdkkdaaBLaw3
namespace Go.Proofs.Ytclggeicpdkkdaa
open Go.ChangeShapes Go.WideShapes Go.ChangeAt Go.RowKit Go.Deep Crv
open Go.ChangeMaps (open_string shut_string)

theorem baleBack_walk (n : Nat) (hn : n < 18446744073709551616) (k : Int) (hk : k < 9223372036854775808) (s0 tl0 : List UInt8) (v3 : Value) (is : List (List UInt8)) (w : World) (h3 : Txs w v3 is) :
    Calls Try.prog 4 #[.int .u64 (n : Int), .int .i64 k, .string (str s0), v3, .string (str tl0)] w fun e w' => e = .returned (.bool true) ∧ Below w.heap.size w w' := by
  by_cases h0 : 0 ≤ k
  · obtain ⟨q, rfl⟩ := Int.eq_ofNat_of_zero_le h0
    exact baleBack_pos n hn q (by omega) s0 tl0 v3 is w h3
  · exact baleBack_neg n hn k (by omega) s0 tl0 v3 is w h3

set_option maxRecDepth 100000 in
theorem baleBack_lifted (os : Os) (started : os.Started) (H : Type) (enc : TypeId × Value → H) :
    ReturnsInHanded {} Try.checked os 4 .any (Rows.baleBackSpec.pre6 enc Try.prog Try.f4 Rows.baleBackRow.domain false)
      (Rows.baleBackSpec.post enc Try.prog Try.f4 false true false false) := by
  refine returnsInHanded_of_change (C := Try.checked) ownB started (by kernel_rfl) Try.func4
    (ChangeSpec.witness6 (enc := enc) (C := Try.checked) false ⟨#[], #[.int .u64 0, .int .i64 0, .string ⟨#[]⟩, .slice none 0 0, .string ⟨#[]⟩], []⟩ 8 (by kernel_rfl) (by kernel_rfl) (by kernel_rfl) (by kernel_rfl)) ?_
  intro W base args ds gs before hval0 hW _ _
  have hval : ∀ (j : Nat) t v, Try.f4.params[j]? = some t → args[j]? = some v → Value.okWide Try.prog W .any base t v := hval0
  have hW' := hW
  obtain ⟨p, q, hA0, hV, rfl, hfz, hnd⟩ := hW
  have hA : DataW.TrodAll enc Try.prog W 0 (fun _ => true) true Try.f4.params.toList args.toList ds p := hA0
  have hlt := hA.lt
  rw [Try.params4] at hA hval
  obtain ⟨v0, vs, d0, ds', p0, q0, hargs, rfl, rfl, h0, hrest⟩ := trodAll_cons hA
  obtain ⟨v1, v2, v3, v4, d1, d2, d3, d4, p1, p2, p3, p4, hvs, rfl, rfl, h1, h2, h3, h4⟩ := trodAll_four (args := vs.toArray) (by simpa using hrest)
  have hvs' : vs = [v1, v2, v3, v4] := by simpa using congrArg Array.toList hvs
  subst hvs'
  have hargs' : args = #[v0, v1, v2, v3, v4] := by
    apply Array.toList_inj.1
    simpa using hargs
  subst hargs'
  obtain ⟨rfl, rfl⟩ := trodVars_none hV
  obtain ⟨a, rfl, rfl, rfl, wa⟩ := open_int Try.underlying22 (hval 0 22 v0 rfl rfl) h0
  obtain ⟨b, rfl, rfl, rfl, wb⟩ := open_int Try.underlying3 (hval 1 3 v1 rfl rfl) h1
  obtain ⟨s0, rfl, rfl, rfl, hs0⟩ := open_string Try.underlying9 (hval 2 9 v2 rfl rfl) h2
  obtain ⟨is, his, _⟩ := txs_of (hval 3 24 v3 rfl rfl) h3
  obtain ⟨s1, rfl, rfl, rfl, hs1⟩ := open_string Try.underlying9 (hval 4 9 v4 rfl rfl) h4
  clear hA0 hval0
  obtain ⟨l1, l2⟩ := bounds_u64 wa
  obtain ⟨m1, m2⟩ := bounds_i64 wb
  obtain ⟨n, rfl⟩ := Int.eq_ofNat_of_zero_le l1
  have hwalk := baleBack_walk n (by omega) b (by omega) s0.data.toList s1.data.toList v3 is W his
  rw [← str_eq s0, ← str_eq s1] at hwalk
  refine hwalk.mono fun e W' ⟨he, bel⟩ => ?_
  subst he
  exact ⟨_, rfl, _, _, _, [], _, [], hW', trodAll_mk1 (shut_bool Try.underlying4 _), ⟨_, _, shut_int Try.underlying22 wa, trodAll_mk4 (shut_int Try.underlying3 wb) (shut_string Try.underlying9 hs0)
    (Below.trod laidOutB' (by kernel_rfl) (of_decide_eq_true (by kernel_rfl)) h3 bel (fun x hx => hlt x (by simp [hx]))) (shut_string Try.underlying9 hs1), rfl⟩, rfl, bel.frame _, fun h => by cases h⟩

theorem baleBack_holds : Rows.BaleBackSaid :=
  OpenClaim.holds_of_wide 4 Try.f4 rfl rfl rfl rfl rfl rfl rfl ⟨rfl, rfl, rfl, rfl, rfl⟩ rfl rfl rfl rfl rfl (by kernel_rfl) Try.func4 (by kernel_rfl)
    (of_decide_eq_true (by kernel_rfl)) (by unfold Func.isWrapper; first | (rw [if_pos (by decide +kernel)]; kernel_rfl) | (rw [if_neg (by decide +kernel)]; exact ⟨rfl, rfl⟩))
    (fun os started H enc _ => baleBack_lifted os started H enc)
#print axioms baleBack_holds
end Go.Proofs.Ytclggeicpdkkdaa

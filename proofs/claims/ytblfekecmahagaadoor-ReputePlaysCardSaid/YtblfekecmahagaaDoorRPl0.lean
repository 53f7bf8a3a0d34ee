/-
  The reference of layer 23 (mathematics): a list of minds; the order of those that may.
-/
import Derived.Test.YtblfekecmahagaaDoorRSrt2
namespace Go.Proofs.YtblfekecmahagaaDoor
open Go.RowKit Go.Maps Crv

/-- What is thought of an address. -/
structure MI where
  n : Int
  s : Int
  wt : Int
  u : Int
  b : Bool
  p : PF
def zeroMI (n : Int) : MI := ⟨n, 0, 0, 0, false, (0, [], [])⟩
/-- The first of this address. -/
def atL : List MI → Int → MI
  | [], n => zeroMI n
  | x :: l, n => if x.n = n then x else atL l n
def setL (l : List MI) (x : MI) : List MI := l.filter (fun m => m.n != x.n) ++ [x]
theorem atL_n (l : List MI) (n : Int) : (atL l n).n = n := by
  induction l with
  | nil => rfl
  | cons x l ih =>
    unfold atL
    split
    · assumption
    · exact ih
theorem atL_set (l : List MI) (x : MI) (n : Int) : atL (setL l x) n = if n = x.n then x else atL l n := by
  unfold setL
  induction l with
  | nil =>
    simp only [List.filter_nil, List.nil_append, atL]
    by_cases h : n = x.n
    · rw [if_pos h.symm, if_pos h]
    · rw [if_neg (fun e => h e.symm), if_neg h]
  | cons m l ih =>
    by_cases hm : m.n = x.n
    · rw [List.filter_cons_of_neg (by simpa using hm), ih]
      by_cases h : n = x.n
      · rw [if_pos h, if_pos h]
      · rw [if_neg h, if_neg h]
        show _ = if m.n = n then m else atL l n
        rw [if_neg (fun e => h (e.symm.trans hm))]
    · rw [List.filter_cons_of_pos (by simpa using hm), List.cons_append]
      show (if m.n = n then m else atL _ n) = if n = x.n then x else if m.n = n then m else atL l n
      by_cases h : m.n = n
      · rw [if_pos h, if_pos h, if_neg (fun e => hm (h.trans e))]
      · rw [if_neg h, if_neg h, ih]
theorem length_setL (l : List MI) (x : MI) : (setL l x).length ≤ l.length + 1 := by
  unfold setL
  rw [List.length_append, List.length_singleton]
  exact Nat.add_le_add_right (List.length_filter_le _ _) 1
def indOf (M : MKt) (B : BNt) (n : Int) : MI := ⟨n, (mkOf M n).1, (mkOf M n).2.1, (mkOf M n).2.2, (getK n B).isSome, (getK n B).getD (0, [], [])⟩
/-- The list says what the book says. -/
def SameL (l : List MI) (M : MKt) (B : BNt) : Prop := ∀ n, atL l n = indOf M B n
theorem SameL.nil : SameL [] [] [] := fun _ => rfl
def goodX (x : MI) : MI := ⟨x.n, min (x.s + 1) 20, 0, 0, x.b, x.p⟩
def silX (x : MI) (now : Int) : MI := ⟨x.n, max (x.s - 1) (-20), min (max (x.wt * 2) 2) 32, max x.u (now + min (max (x.wt * 2) 2) 32), x.b, x.p⟩
def banX (x : MI) (q : PF) : MI := if x.b = true then x else ⟨x.n, x.s, x.wt, x.u, true, q⟩
section
variable {l : List MI} {M : MKt} {B : BNt}
theorem SameL.put (h : SameL l M B) {M' : MKt} {B' : BNt} (n : Int) {x : MI} (hn : x.n = n) (hx : indOf M' B' n = x) (ho : ∀ a, a ≠ n → indOf M' B' a = indOf M B a) : SameL (setL l x) M' B' := by
  intro a
  rw [atL_set, hn]
  by_cases e : a = n
  · rw [if_pos e, e, hx]
  · rw [if_neg e, h a, ho a e]
theorem SameL.good (h : SameL l M B) (hu : Uniq M) (n : Int) : SameL (setL l (goodX (atL l n))) (goodM M n) B := by
  refine h.put n (atL_n l n) ?_ fun a ha => ?_
  · rw [h n]
    unfold indOf goodX
    rw [mkOf_good hu, if_pos rfl]
    rfl
  · unfold indOf
    rw [mkOf_good hu, if_neg ha]
theorem SameL.sil (h : SameL l M B) (hu : Uniq M) (n now : Int) : SameL (setL l (silX (atL l n) now)) (silM M n now) B := by
  refine h.put n (atL_n l n) ?_ fun a ha => ?_
  · rw [h n]
    unfold indOf silX
    rw [mkOf_sil hu, if_pos rfl]
    unfold silK waitK
    simp only [Int.mul_comm]
  · unfold indOf
    rw [mkOf_sil hu, if_neg ha]
theorem SameL.ban (h : SameL l M B) (hu : Uniq B) (n : Int) (p : PF) : SameL (setL l (banX (atL l n) p)) M (banB B n p) := by
  have hb : (banX (atL l n) p).n = n := by
    unfold banX
    split
    · exact atL_n l n
    · exact atL_n l n
  refine h.put n hb ?_ fun a ha => ?_
  · rw [h n]
    unfold indOf banX
    rw [getK_ban hu, if_pos rfl]
    cases getK n B <;> rfl
  · unfold indOf
    rw [getK_ban hu, if_neg ha]
theorem SameL.may (h : SameL l M B) (n now : Int) : mayB M B n now = (!(atL l n).b && decide ((atL l n).u ≤ now)) := by rw [h n]; rfl
theorem SameL.score (h : SameL l M B) (n : Int) : (atL l n).s = scoreK M n := by rw [h n]; rfl
theorem SameL.ok (h : SameL l M B) (ho : OkM M) (n : Int) : -20 ≤ (atL l n).s ∧ (atL l n).s ≤ 20 ∧ 0 ≤ (atL l n).wt ∧ (atL l n).wt ≤ 32 ∧ 0 ≤ (atL l n).u ∧ (atL l n).u ≤ 1099511627900 := by rw [h n]; exact ho.mk n
end
instance (M : MKt) (x y : Int) : Decidable (ltS M x y) := by unfold ltS; infer_instance
/-- Another one in its place. -/
def insR (M : MKt) (n : Int) : List Int → List Int
  | [] => [n]
  | x :: r => if ltS M n x then n :: x :: r else x :: insR M n r
theorem insR_cons (M : MKt) (n x : Int) (r : List Int) : insR M n (x :: r) = if ltS M n x then n :: x :: r else x :: insR M n r := rfl
theorem insR_perm (M : MKt) (n : Int) : ∀ l : List Int, (insR M n l).Perm (n :: l)
  | [] => .refl _
  | x :: r => by
    unfold insR
    split
    · exact .refl _
    · exact ((insR_perm M n r).cons x).trans (.swap n x r)
theorem insR_srt {M : MKt} {n : Int} : ∀ {l : List Int}, SrtS M l → SrtS M (insR M n l)
  | [], _ => by unfold insR SrtS; simp
  | x :: r, h => by
    have h' := List.pairwise_cons.1 h
    unfold insR
    split
    · rename_i hlt
      refine List.pairwise_cons.2 ⟨fun y hy => ?_, h⟩
      rcases List.mem_cons.1 hy with rfl | hy
      · intro h2
        exact ltS_irrefl M _ (ltS_trans hlt h2)
      · intro h2
        exact h'.1 y hy (ltS_trans h2 hlt)
    · rename_i hlt
      refine List.pairwise_cons.2 ⟨fun y hy => ?_, insR_srt h'.2⟩
      rcases List.mem_cons.1 ((insR_perm M n r).mem_iff.1 hy) with rfl | hy
      · exact hlt
      · exact h'.1 y hy
theorem length_insR (M : MKt) (n : Int) (l : List Int) : (insR M n l).length = l.length + 1 := (insR_perm M n l).length_eq
/-- What the inner loop keeps: those that came, and whether the other one is among them. -/
def stepI (M : MKt) (n : Int) (a : List Int × Bool) (x : Int) : List Int × Bool := if a.2 = false ∧ ltS M n x then (a.1 ++ [n] ++ [x], true) else (a.1 ++ [x], a.2)
def inS (M : MKt) (n : Int) (out : List Int) (j : Nat) : List Int × Bool := (out.take j).foldl (stepI M n) ([], false)
theorem inS_step (M : MKt) (n : Int) {out : List Int} {j : Nat} (hj : j < out.length) : inS M n out (j + 1) = stepI M n (inS M n out j) out[j] := by
  unfold inS
  rw [List.take_succ_eq_append_getElem hj, List.foldl_append]
  rfl
theorem fold_true (M : MKt) (n : Int) : ∀ (out a : List Int), out.foldl (stepI M n) (a, true) = (a ++ out, true)
  | [], a => by simp
  | x :: r, a => by
    rw [List.foldl_cons]
    have e : stepI M n (a, true) x = (a ++ [x], true) := by unfold stepI; simp
    rw [e, fold_true M n r]
    simp
theorem fold_false (M : MKt) (n : Int) : ∀ (out a : List Int), (if (out.foldl (stepI M n) (a, false)).2 = true then (out.foldl (stepI M n) (a, false)).1 else (out.foldl (stepI M n) (a, false)).1 ++ [n]) = a ++ insR M n out
  | [], a => by simp [insR]
  | x :: r, a => by
    rw [List.foldl_cons]
    by_cases h : ltS M n x
    · have e : stepI M n (a, false) x = (a ++ [n] ++ [x], true) := by unfold stepI; simp [h]
      rw [e, fold_true, if_pos rfl, insR_cons, if_pos h]
      simp
    · have e : stepI M n (a, false) x = (a ++ [x], false) := by unfold stepI; simp [h]
      rw [e, fold_false M n r, insR_cons, if_neg h]
      simp
theorem inS_end (M : MKt) (n : Int) (out : List Int) : (if (inS M n out out.length).2 = true then (inS M n out out.length).1 else (inS M n out out.length).1 ++ [n]) = insR M n out := by
  unfold inS
  rw [List.take_length]
  have := fold_false M n out []
  rwa [List.nil_append] at this
theorem inS_len (M : MKt) (n : Int) (out : List Int) : ∀ j, (inS M n out j).1.length ≤ j + 1 ∧ ((inS M n out j).2 = false → (inS M n out j).1.length ≤ j) := by
  intro j
  induction j with
  | zero => simp [inS]
  | succ j ih =>
    by_cases hj : j < out.length
    · rw [inS_step M n hj]
      unfold stepI
      split
      · rename_i h
        have := ih.2 h.1
        refine ⟨?_, fun e => by cases e⟩
        simp
        omega
      · refine ⟨?_, fun e => ?_⟩
        · have := ih.1
          simp
          omega
        · have := ih.2 e
          simp
          omega
    · have e : inS M n out (j + 1) = inS M n out j := by
        unfold inS
        rw [List.take_of_length_le (by omega), List.take_of_length_le (by omega)]
      rw [e]
      exact ⟨by have := ih.1; omega, fun h => by have := ih.2 h; omega⟩
def sortF (M : MKt) (B : BNt) (now : Int) (out : List Int) (n : Int) : List Int := if mayB M B n now = true then insR M n out else out
def sortL (M : MKt) (B : BNt) (now : Int) (l : List Int) : List Int := l.foldl (sortF M B now) []
theorem sortL_step (M : MKt) (B : BNt) (now : Int) {l : List Int} {i : Nat} (hi : i < l.length) : sortL M B now (l.take (i + 1)) = sortF M B now (sortL M B now (l.take i)) l[i] := by
  unfold sortL
  rw [List.take_succ_eq_append_getElem hi, List.foldl_append]
  rfl
theorem fold_ok (M : MKt) (B : BNt) (now : Int) : ∀ (l out : List Int), SrtS M out → (l.foldl (sortF M B now) out).Perm (maysL M B now l ++ out) ∧ SrtS M (l.foldl (sortF M B now) out)
  | [], out, h => ⟨.refl _, h⟩
  | x :: l, out, h => by
    rw [List.foldl_cons]
    by_cases hm : mayB M B x now = true
    · have e : sortF M B now out x = insR M x out := by unfold sortF; rw [if_pos hm]
      rw [e]
      have ih := fold_ok M B now l _ (insR_srt (n := x) h)
      refine ⟨ih.1.trans ?_, ih.2⟩
      have e2 : maysL M B now (x :: l) = x :: maysL M B now l := by unfold maysL; rw [List.filter_cons_of_pos (by simpa using hm)]
      rw [e2, List.cons_append]
      exact ((insR_perm M x out).append_left _).trans List.perm_middle
    · have e : sortF M B now out x = out := by unfold sortF; rw [if_neg hm]
      rw [e]
      have ih := fold_ok M B now l out h
      have e2 : maysL M B now (x :: l) = maysL M B now l := by unfold maysL; rw [List.filter_cons_of_neg (by simpa using hm)]
      rw [e2]
      exact ih
theorem sortL_perm (M : MKt) (B : BNt) (now : Int) (l : List Int) : (sortL M B now l).Perm (maysL M B now l) := by
  have := (fold_ok M B now l [] List.Pairwise.nil).1
  rwa [List.append_nil] at this
theorem sortL_srt (M : MKt) (B : BNt) (now : Int) (l : List Int) : SrtS M (sortL M B now l) := (fold_ok M B now l [] List.Pairwise.nil).2
theorem sortL_len (M : MKt) (B : BNt) (now : Int) (l : List Int) : (sortL M B now l).length ≤ l.length := by
  rw [(sortL_perm M B now l).length_eq]
  exact maysL_len M B now l
/-- Whatever is sorted so is that list. -/
theorem sortL_eq {M : MKt} {B : BNt} {now : Int} {l ys : List Int} (hp : ys.Perm (maysL M B now l)) (hs : SrtS M ys) : ys = sortL M B now l := srtS_one (hp.trans (sortL_perm M B now l).symm) hs (sortL_srt M B now l)
end Go.Proofs.YtblfekecmahagaaDoor

/-
  Package bale: the decoder: Open, Err, Left, Fail, Close, Bytes.
-/
import Derived.Test.YtbkknhlagohhhaaBal3
namespace Go.Proofs.Ytbkknhlagohhhaa
open Go.RowKit Crv

/-- What a decoder holds: what is left, the error. -/
abbrev BSt := List UInt8 × Int
/-- A decoder in memory. -/
def BM (w : World) (g : Nat) (s : BSt) : Prop := Mem w g 129 [.string (str s.1), .int .i64 s.2]
def failS (s : BSt) (c : Int) : BSt := if s.2 ≠ 0 ∨ c = 0 then s else ([], c)
def bytesS (s : BSt) (n : Int) : BSt × List UInt8 := if n < 0 ∨ (s.1.length : Int) < n then (failS s 1, []) else ((s.1.drop n.toNat, s.2), s.1.take n.toNat)
theorem BM.below {w w' : World} {g : Nat} {s : BSt} (h : BM w g s) (hb : Below w.heap.size w w') : BM w' g s := Mem.below h hb (Mem.lt h)
theorem BM.grown {w w' : World} {g k : Nat} {s : BSt} (h : BM w g s) (hg : w.grownBy w' (some k)) (hne : g ≠ k) : BM w' g s := Mem.grown h hg (fun e => hne (by injection e))
abbrev ptr (g : Nat) : Value := .pointer (some ⟨g, 0, none⟩)

theorem open_any (l : List UInt8) (w : World) :
    Calls Try.prog 56 #[.string (str l)] w fun e w' => e = .returned (ptr w.heap.size) ∧ BM w' w.heap.size (l, 0) ∧ Below w.heap.size w w' ∧ w'.heap.size = w.heap.size + 1 := by
  go_enter Try.func56, Try.ntmps56
  go_wp2
  go_ret
  exact ⟨rfl, Mem.new w _ _, belowSelf w _, by simp⟩

theorem fail_any (w : World) (g : Nat) (s : BSt) (c : Int) (h : BM w g s) :
    Calls Try.prog 89 #[ptr g, .int .i64 c] w fun e w' => e = .returned (.tuple #[]) ∧ BM w' g (failS s c) ∧ w.grownBy w' (some g) := by
  obtain ⟨l, x⟩ := s
  have c0 : w.cell? ⟨g, 0, none⟩ = some (.string (str l)) := Mem.cell h 0
  have c1 : w.cell? ⟨g, 1, none⟩ = some (.int .i64 x) := Mem.cell h 1
  have f0 := Mem.frozen h 0
  have f1 := Mem.frozen h 1
  have H := Lib.hid h
  clear h
  by_cases hx : x = 0
  · subst hx
    by_cases hc : c = 0
    · subst hc
      go_enter Try.func89, Try.ntmps89
      go_wp2
      ((try simp only [Exit.inBlock, Exit.then]); refine bodyPost_ret (results_none rfl _ _ _) rfl ?_)
      exact ⟨rfl, by simpa [failS] using H.out, grownRefl _ _⟩
    · have hd : ((c : Int) == 0) = false := by simpa using hc
      have HS := Lib.hid (show failS (l, (0 : Int)) c = ([], c) by simp [failS, hc])
      clear hc
      go_enter Try.func89, Try.ntmps89
      go_wp2
      go_end0
      refine ⟨rfl, ?_, grown_cell (grown_cell (grownRefl _ _) 1 _) 0 _⟩
      rw [HS.out]
      exact Mem.set (Mem.set H.out 1 (.int .i64 c)) 0 (.string (str []))
  · have hd : ((x : Int) != 0) = true := by simpa using hx
    have HS := Lib.hid (show failS (l, x) c = (l, x) by simp [failS, hx])
    clear hx
    go_enter Try.func89, Try.ntmps89
    go_wp2
    ((try simp only [Exit.inBlock, Exit.then]); refine bodyPost_ret (results_none rfl _ _ _) rfl ?_)
    exact ⟨rfl, by rw [HS.out]; exact H.out, grownRefl _ _⟩

set_option maxHeartbeats 400000 in
theorem bytesB_any (w : World) (g : Nat) (s : BSt) (n : Int) (h : BM w g s) :
    Calls Try.prog 97 #[ptr g, .int .i64 n] w fun e w' => e = .returned (.string (str (bytesS s n).2)) ∧ BM w' g (bytesS s n).1 ∧ w.grownBy w' (some g) := by
  by_cases h0 : n < 0
  · have HS := Lib.hid (show bytesS s n = (failS s 1, []) by simp [bytesS, h0])
    have HF := Lib.hid (fail_any w g s 1 h)
    clear h
    go_enter Try.func97, Try.ntmps97
    go_wp2_with fail
    refine HF.out.mono ?_
    rintro e w1 ⟨rfl, hm, hg⟩
    go_wp2
    go_ret
    exact ⟨by rw [HS.out]; rfl, by rw [HS.out]; exact hm, hg⟩
  · obtain ⟨k, rfl⟩ := Int.eq_ofNat_of_zero_le (Int.not_lt.1 h0)
    obtain ⟨l, x⟩ := s
    have c0 : w.cell? ⟨g, 0, none⟩ = some (.string (str l)) := Mem.cell h 0
    have f0 := Mem.frozen h 0
    have hneg : ((k : Int) < 0) = False := by simp
    by_cases h1 : l.length < k
    · have HS := Lib.hid (show bytesS (l, x) (k : Int) = (failS (l, x) 1, []) by unfold bytesS; rw [if_pos (.inr (by simp; omega))])
      have HF := Lib.hid (fail_any w g (l, x) 1 h)
      have hd : decide (l.length < k) = true := by simpa using h1
      clear h h0
      go_enter Try.func97, Try.ntmps97
      go_wp2_with fail
      refine HF.out.mono ?_
      rintro e w1 ⟨rfl, hm, hg⟩
      go_wp2
      go_ret
      exact ⟨by rw [HS.out]; rfl, by rw [HS.out]; exact hm, hg⟩
    · have HS := Lib.hid (show bytesS (l, x) (k : Int) = ((l.drop k, x), l.take k) by unfold bytesS; rw [if_neg (by simp; omega)]; simp)
      have H := Lib.hid h
      have hs1 := fun W => slice_str_to (P := Try.prog) Try.underlying9 l .i64 k (by omega) W
      have hs2 := fun W => slice_str_from (P := Try.prog) Try.underlying9 l .i64 k (by omega) W
      have hd : decide (l.length < k) = false := by simpa using h1
      clear h h0
      go_enter Try.func97, Try.ntmps97
      go_wp2
      go_ret
      refine ⟨by rw [HS.out]; rfl, ?_, grown_cell (grownRefl _ _) 0 _⟩
      rw [HS.out]
      exact Mem.set H.out 0 (.string (str (l.drop k)))

theorem close_any (w : World) (g : Nat) (s : BSt) (h : BM w g s) :
    Calls Try.prog 58 #[ptr g] w fun e w' => e = .returned (.int .i64 (if s.1 = [] then s else failS s 2).2) ∧ BM w' g (if s.1 = [] then s else failS s 2) ∧ w.grownBy w' (some g) := by
  obtain ⟨l, x⟩ := s
  have c0 : w.cell? ⟨g, 0, none⟩ = some (.string (str l)) := Mem.cell h 0
  by_cases hl : l = []
  · subst hl
    have c1 : w.cell? ⟨g, 1, none⟩ = some (.int .i64 x) := Mem.cell h 1
    have H := Lib.hid h
    clear h
    go_enter Try.func58, Try.ntmps58
    go_wp2
    go_ret
    exact ⟨rfl, H.out, grownRefl _ _⟩
  · rw [if_neg (show ¬ (l, x).1 = [] from hl)]
    have HF := Lib.hid (fail_any w g (l, x) 2 h)
    obtain ⟨s1, hs1⟩ : ∃ s1, s1 = failS (l, x) 2 := ⟨_, rfl⟩
    rw [← hs1] at HF ⊢
    clear h hs1
    have hd : l.isEmpty = false := by simpa using hl
    clear hl
    go_enter Try.func58, Try.ntmps58
    go_wp2_with fail
    refine HF.out.mono ?_
    rintro e w1 ⟨rfl, hm, hg⟩
    have c1 : w1.cell? ⟨g, 1, none⟩ = some (.int .i64 s1.2) := Mem.cell hm 1
    have H := Lib.hid hm
    clear hm
    go_wp2
    go_ret
    exact ⟨rfl, H.out, hg⟩
end Go.Proofs.Ytbkknhlagohhhaa

/-
  Plain mathematics: chunks of bytes that come in parts.
-/
import Derived.Test.YtbjeiiofanpkdaaDoorCut0
namespace Crv

/-- No chunk ends within these bytes. -/
def NoStop (t : List Nat) (h : List UInt8) : Prop := ∀ j, j < h.length → stops t 0 0 h j = false
theorem NoStop.nil (t : List Nat) : NoStop t [] := fun j hj => by simp at hj
theorem NoStop.short {t : List Nat} {h : List UInt8} (hn : NoStop t h) : h.length < 256 := by
  rcases Nat.lt_or_ge h.length 256 with hi | hi
  · exact hi
  · have := hn 255 (by omega)
    unfold stops at this
    rw [endsB_long (by omega)] at this
    cases this
theorem stops_head {t : List Nat} {h s : List UInt8} {j : Nat} (hj : j < h.length) : stops t 0 0 (h ++ s) j = stops t 0 0 h j := by
  unfold stops
  rw [List.take_append_of_le_length (by omega)]
theorem stops_tail {t : List Nat} {h s : List UInt8} {j : Nat} : stops t 0 0 (h ++ s) (h.length + j) = stops t (rollAll t h) h.length s j := by
  unfold stops
  rw [Nat.zero_add, show h.length + j + 1 = h.length + (j + 1) by omega, List.take_append, List.take_of_length_le (by omega), Nat.add_sub_cancel_left, rollFrom_append]
  rfl
theorem stops_part {t : List Nat} {v n : Nat} {p s : List UInt8} {j : Nat} (hj : j < p.length) : stops t v n (p ++ s) j = stops t v n p j := by
  unfold stops
  rw [List.take_append_of_le_length (by omega)]
/-- A part completes the chunk in progress. -/
theorem cuts_done {t : List Nat} {h p : List UInt8} {i : Nat} (hn : NoStop t h) (hf : firstStop t (rollAll t h) h.length p = some i) (s : List UInt8) :
    cuts t (h ++ (p ++ s)) = (h ++ p.take (i + 1)) :: cuts t (p.drop (i + 1) ++ s) := by
  obtain ⟨hi, hs, hb⟩ := of_firstStop_some hf
  have h1 : firstStop t 0 0 (h ++ (p ++ s)) = some (h.length + i) := by
    refine firstStop_some (by rw [List.length_append, List.length_append]; omega) (by rw [stops_tail, stops_part hi]; exact hs) (fun j hj => ?_)
    rcases Nat.lt_or_ge j h.length with hl | hl
    · rw [stops_head hl]
      exact hn j hl
    · obtain ⟨k, rfl⟩ : ∃ k, j = h.length + k := ⟨j - h.length, by omega⟩
      rw [stops_tail, stops_part (by omega)]
      exact hb k (by omega)
  have h2 : endOf t (h ++ (p ++ s)) = h.length + (i + 1) := by
    unfold endOf advK
    rw [h1]
    rfl
  have h3 : h ++ (p ++ s) ≠ [] := by
    intro e
    have := congrArg List.length e
    simp only [List.length_append, List.length_nil] at this
    omega
  rw [cuts_cons t h3, h2, List.take_length_add_append, List.drop_length_add_append, List.take_append_of_le_length (by omega), List.drop_append_of_le_length (by omega)]
/-- A part that completes nothing. -/
theorem noStop_more {t : List Nat} {h p : List UInt8} (hn : NoStop t h) (hf : firstStop t (rollAll t h) h.length p = none) : NoStop t (h ++ p) := by
  intro j hj
  rw [List.length_append] at hj
  rcases Nat.lt_or_ge j h.length with hl | hl
  · rw [stops_head hl]
    exact hn j hl
  · obtain ⟨k, rfl⟩ : ∃ k, j = h.length + k := ⟨j - h.length, by omega⟩
    rw [stops_tail]
    exact of_firstStop_none hf k (by omega)
/-- What waits is one chunk, if it is not nothing. -/
theorem cuts_wait {t : List Nat} {h : List UInt8} (hn : NoStop t h) (h0 : h ≠ []) : cuts t h = [h] := by
  have h1 : firstStop t 0 0 h = none := firstStop_none hn
  have h2 : endOf t h = h.length := by
    unfold endOf advK
    rw [h1]
  rw [cuts_cons t h0, h2, List.take_length, List.drop_length, cuts_nil]
/-- Bytes that were added have come to these chunks, and these wait. -/
structure Fed (t : List Nat) (h s : List UInt8) (ls : List (List UInt8)) (h' : List UInt8) : Prop where
  all : h ++ s = ls.flatten ++ h'
  cut : ∀ r, cuts t (h ++ (s ++ r)) = ls ++ cuts t (h' ++ r)
  no : NoStop t h'
theorem Fed.start {t : List Nat} {h : List UInt8} (hn : NoStop t h) : Fed t h [] [] h := ⟨by simp, fun r => by simp, hn⟩
theorem Fed.done {t : List Nat} {h s : List UInt8} {ls : List (List UInt8)} {h' p : List UInt8} {i : Nat} (hf : Fed t h s ls h') (hp : firstStop t (rollAll t h') h'.length p = some i) :
    Fed t h (s ++ p.take (i + 1)) (ls ++ [h' ++ p.take (i + 1)]) [] := by
  have hi := (of_firstStop_some hp).1
  refine ⟨?_, fun r => ?_, NoStop.nil t⟩
  · rw [← List.append_assoc, hf.all]
    simp
  · have e := hf.cut (p.take (i + 1) ++ r)
    have hp' : firstStop t (rollAll t h') h'.length (p.take (i + 1)) = some i := by
      obtain ⟨h1, h2, h3⟩ := of_firstStop_some hp
      have key : ∀ j, j < i + 1 → stops t (rollAll t h') h'.length (p.take (i + 1)) j = stops t (rollAll t h') h'.length p j := fun j hj => by
        have := stops_part (t := t) (v := rollAll t h') (n := h'.length) (p := p.take (i + 1)) (s := p.drop (i + 1)) (j := j) (by rw [List.length_take]; omega)
        rw [List.take_append_drop] at this
        exact this.symm
      exact firstStop_some (by rw [List.length_take]; omega) (by rw [key i (by omega)]; exact h2) (fun j hj => by rw [key j (by omega)]; exact h3 j hj)
    have e2 := cuts_done hf.no hp' r
    rw [List.take_take, Nat.min_self, List.drop_of_length_le (by rw [List.length_take]; omega)] at e2
    rw [List.append_assoc, e, e2, List.append_assoc]
    rfl
theorem Fed.more {t : List Nat} {h s : List UInt8} {ls : List (List UInt8)} {h' p : List UInt8} (hf : Fed t h s ls h') (hp : firstStop t (rollAll t h') h'.length p = none) : Fed t h (s ++ p) ls (h' ++ p) := by
  refine ⟨by rw [← List.append_assoc, hf.all, List.append_assoc], fun r => ?_, noStop_more hf.no hp⟩
  rw [List.append_assoc, hf.cut, List.append_assoc]
theorem Fed.trans {t : List Nat} {a s b s' c : List UInt8} {ls ms : List (List UInt8)} (h : Fed t a s ls b) (h' : Fed t b s' ms c) : Fed t a (s ++ s') (ls ++ ms) c := by
  refine ⟨?_, fun r => ?_, h'.no⟩
  · rw [← List.append_assoc, h.all, List.append_assoc, h'.all, List.flatten_append, List.append_assoc]
  · rw [List.append_assoc, h.cut, h'.cut, List.append_assoc]
end Crv

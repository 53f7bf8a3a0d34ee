/-
  Parse of a beginning of a letter's bytes, and of what is longer.
-/
import Derived.Test.YtbkknhlagohhhaaLet19
namespace Go.Proofs.Ytbkknhlagohhhaa
open Go.RowKit Crv

theorem length_numsM (ks : List Int) (h : ∀ k ∈ ks, 0 ≤ k ∧ k < 9223372036854775808) : (numsL ks).length ≤ 9 * ks.length := length_numsL ks (fun k hk => (h k hk).2)
theorem length_encM (ks : List Int) (h : ∀ k ∈ ks, 0 ≤ k ∧ k ≤ 63) (hl : ks.length ≤ 8) : (encL ks).length ≤ 81 := by
  unfold encL
  rw [List.length_append]
  have h1 := length_numsL [(ks.length : Int)] (fun k h => by simp only [List.mem_singleton] at h; subst h; omega)
  have h2 := length_numsL ks (fun k hk => by have := (h k hk).2; omega)
  simp only [List.length_singleton] at h1
  omega
theorem length_body {l : LV} {ps hs : List Int} (f : ChkF l ps hs) (hid : l.id.length = 32) : (bodyL l ps hs).length ≤ 800 := by
  have a1 : (numsL [l.kind, l.fr, l.to, l.seq]).length ≤ 36 := length_numsL _ (fun k hk => by
    have := f.kind
    have := f.fr
    have := f.to
    have := f.seq
    simp only [List.mem_cons, List.mem_nil_iff, or_false] at hk
    omega)
  have a2 : (idP l).length ≤ 32 := by
    unfold idP
    split
    · omega
    · exact Nat.zero_le _
  have a3 : (listP l ps hs).length ≤ 162 := by
    unfold listP
    split
    · rw [List.length_append]
      have := length_encM ps (fun k hk => f.adr k (by simp [hk])) f.pl
      have := length_encM hs (fun k hk => f.adr k (by simp [hk])) f.hl
      omega
    · exact Nat.zero_le _
  have a4 : (whatP l).length ≤ 9 := by
    unfold whatP
    split
    · rename_i h
      have hw := f.what h
      have := length_numsL [l.what] (fun k h => by simp only [List.mem_singleton] at h; subst h; omega)
      simpa using this
    · exact Nat.zero_le _
  have a5 : (textP l).length ≤ 521 := by
    unfold textP
    split
    · unfold strOf
      rw [List.length_append]
      have := length_numOf (n := l.text.length) (by have := f.tl; omega)
      have := f.tl
      omega
    · exact Nat.zero_le _
  unfold bodyL
  simp only [List.length_append]
  omega
theorem length_bytes {l : LV} {ps hs : List Int} (f : ChkF l ps hs) (hid : l.id.length = 32) : 2 ≤ (bytesL l ps hs).length ∧ (bytesL l ps hs).length ≤ 802 := by
  rw [bytes_body, List.length_append]
  have := length_body f hid
  have : cvT.length = 2 := rfl
  omega
theorem parse_cut {l : LV} {ps hs : List Int} (f : ChkF l ps hs) (hid : l.id.length = 32) (n : Nat) (hn : n < (bytesL l ps hs).length) (W : World) :
    Calls Try.prog 19 #[tx ((bytesL l ps hs).take n)] W fun e w' => e = .returned (.tuple #[.agg (ltC zeroL).toArray, .int .i64 (if n < 2 then 2 else 1)]) ∧ Below W.heap.size W w' := by
  have hlen := length_bytes f hid
  have hl : ((bytesL l ps hs).take n).length = n := by rw [List.length_take]; omega
  by_cases h2 : n < 2
  · rw [if_pos h2]
    refine parse_no _ W (by omega) ?_
    rw [beq_eq_false_iff_ne]
    intro h
    have h3 := congrArg List.length h
    rw [List.length_take, hl] at h3
    have : cvT.length = 2 := rfl
    omega
  · rw [if_neg h2]
    have e : (bytesL l ps hs).take n = cvT ++ (bodyL l ps hs).take (n - 2) := by
      rw [bytes_body, List.take_append, List.take_of_length_le (show cvT.length ≤ n by show 2 ≤ n; omega)]
      rfl
    rw [bytes_body, List.length_append] at hn
    have hc2 : cvT.length = 2 := rfl
    have hc := cut_err f hid ((bodyL l ps hs).take (n - 2)) (List.take_prefix _ _) (by rw [List.length_take]; omega)
    have h := parse_read ((bytesL l ps hs).take n) ((bodyL l ps hs).take (n - 2)) W (by have := length_body f hid; omega) (by rw [e]; exact cutP_body _) _ rfl _ hc.symm _ rfl
    refine h.mono ?_
    rintro e w' ⟨pv, hv, rfl, _, _, hb⟩
    exact ⟨by rw [← parAns_c (by decide)], hb⟩
theorem parse_more {l : LV} {ps hs : List Int} (f : ChkF l ps hs) (hid : l.id.length = 32) (W : World) :
    Calls Try.prog 19 #[tx (bytesL l ps hs ++ [0])] W fun e w' => e = .returned (.tuple #[.agg (ltC zeroL).toArray, .int .i64 2]) ∧ Below W.heap.size W w' := by
  have hlen := length_bytes f hid
  have hc := more_err f hid
  have h := parse_read (bytesL l ps hs ++ [0]) (bodyL l ps hs ++ [0]) W (by rw [List.length_append, List.length_singleton]; omega) (by rw [bytes_body, List.append_assoc]; exact cutP_body _) _ rfl _ hc.symm _ rfl
  refine h.mono ?_
  rintro e w' ⟨pv, hv, rfl, _, _, hb⟩
  exact ⟨by rw [← parAns_c (by decide)], hb⟩
end Go.Proofs.Ytbkknhlagohhhaa

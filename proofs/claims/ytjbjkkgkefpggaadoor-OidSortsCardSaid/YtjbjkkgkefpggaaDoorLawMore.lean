/-
  HashMore: the walk.
-/
import Derived.Test.YtjbjkkgkefpggaaDoorLaw1
import Derived.Test.YtjbjkkgkefpggaaDoorEq
namespace Go.Proofs.YtjbjkkgkefpggaaDoor
open Go.RowKit Crv
attribute [local go_sem] ByteArray.mk_append_mk

theorem cut_int (l : List UInt8) (k : Int) (hk : 0 ≤ k) (w : World) :
    Calls Tryd.prog 12 #[.string (str l), .int .i64 k] w fun e w' => e = .returned (.string (str (l.take k.toNat))) ∧ w = w' := by
  obtain ⟨n, rfl⟩ := Int.eq_ofNat_of_zero_le hk
  exact cut_any l n w

/-- Two states in memory that is younger than w0. -/
def Two (w0 w : World) (s t : Nat) (m n : List UInt8) : Prop := Below w0.heap.size w0 w ∧ Consts w ∧ Holds w s m ∧ Holds w t n ∧ w0.heap.size ≤ s ∧ w0.heap.size ≤ t ∧ s ≠ t ∧ 2 ≤ w0.heap.size
theorem Two.below {w0 w w' : World} {s t : Nat} {m n : List UInt8} (h : Two w0 w s t m n) (hb : Below w.heap.size w w') : Two w0 w' s t m n :=
  ⟨h.1.trans (hb.mono h.1.size), h.2.1.below hb, h.2.2.1.below hb, h.2.2.2.1.below hb, h.2.2.2.2⟩
theorem Two.alloc {w0 w : World} {s t : Nat} {m n : List UInt8} (h : Two w0 w s t m n) (o : Obj) : Two w0 (w.alloc o) s t m n := h.below ((Below.refl _ _).alloc (Nat.le_refl _) o)
theorem Holds.grown {w w' : World} {s t : Nat} {n : List UInt8} (h : Holds w t n) (hg : w.grownBy w' (some s)) (hne : t ≠ s) : Holds w' t n := by
  obtain ⟨tl, h1, h2, h3⟩ := h
  exact ⟨tl, h1, h2, h3.grown hg (fun e => hne (by injection e))⟩
theorem below_grown_new {w0 w w' : World} {s : Nat} (h : Below w0.heap.size w0 w) (hg : w.grownBy w' (some s)) (hs : w0.heap.size ≤ s) : Below w0.heap.size w0 w' :=
  ⟨hg.os.trans h.os, hg.tape.trans h.tape, hg.output.trans h.output, Nat.le_trans h.size hg.size, fun k hk => (hg.block k (Nat.lt_of_lt_of_le hk h.size) (fun e => by injection e with e; omega)).trans (h.block k hk)⟩
theorem Two.left {w0 w w' : World} {s t : Nat} {m n m' : List UInt8} (h : Two w0 w s t m n) (hg : w.grownBy w' (some s)) (hh : Holds w' s m') : Two w0 w' s t m' n := by
  obtain ⟨h1, h2, h3, h4, h5, h6, h7, h8⟩ := h
  exact ⟨below_grown_new h1 hg h5, h2.grown hg (by omega), hh, h4.grown hg (Ne.symm h7), h5, h6, h7, h8⟩
theorem Two.right {w0 w w' : World} {s t : Nat} {m n n' : List UInt8} (h : Two w0 w s t m n) (hg : w.grownBy w' (some t)) (hh : Holds w' t n') : Two w0 w' s t m n' := by
  obtain ⟨h1, h2, h3, h4, h5, h6, h7, h8⟩ := h
  exact ⟨below_grown_new h1 hg h6, h2.grown hg (by omega), h3.grown hg h7, hh, h5, h6, h7, h8⟩
theorem StrSlice.nil (w : World) : StrSlice w (.slice none 0 0) [] := ⟨none, 0, rfl, fun i hi => by simp at hi⟩

set_option maxHeartbeats 2000000 in
set_option maxRecDepth 100000 in
theorem hashMore_walk (a0 b0 c0 : List UInt8) (w : World) (hc : Consts w) :
    Calls Tryd.prog 6 #[.string (str a0), .string (str b0), .string (str c0)] w fun e w' => e = .returned (.bool true) ∧ Below w.heap.size w w' := by
  have HC := Lib.hid hc
  have hN : 2 ≤ w.heap.size := hc.2.lt
  clear hc
  go_enter Tryd.func6, Tryd.ntmps6
  go_wp2_with fail
  refine (cut_int a0 _ (by decide) _).mono ?_
  rintro e w' ⟨rfl, rfl⟩
  obtain ⟨A, hA⟩ : ∃ A, A = a0.take (80 : Int).toNat := ⟨_, rfl⟩
  have la : A.length ≤ 80 := by rw [hA]; exact List.length_take_le _ _
  rw [← hA]
  clear hA
  go_wp2_with fail
  refine (cut_int b0 _ (by decide) _).mono ?_
  rintro e w' ⟨rfl, rfl⟩
  obtain ⟨B, hB⟩ : ∃ B, B = b0.take (80 : Int).toNat := ⟨_, rfl⟩
  have lb : B.length ≤ 80 := by rw [hB]; exact List.length_take_le _ _
  rw [← hB]
  clear hB
  go_wp2_with fail
  refine (cut_int c0 _ (by decide) _).mono ?_
  rintro e w' ⟨rfl, rfl⟩
  obtain ⟨C, hC⟩ : ∃ C, C = c0.take (80 : Int).toNat := ⟨_, rfl⟩
  have lc : C.length ≤ 80 := by rw [hC]; exact List.length_take_le _ _
  rw [← hC]
  clear hC
  go_wp2_with fail
  refine (awake1_any _ HC.out).mono ?_
  rintro e w0 ⟨rfl, hb0⟩
  have HC0 := Lib.hid (HC.out.below hb0)
  have hN0 : 2 ≤ w0.heap.size := Nat.le_trans hN hb0.size
  go_wp2_with fail
  refine (new_any _ HC0.out).mono ?_
  rintro e w1 ⟨rfl, hh1, hb1, hz1⟩
  have HH1 := Lib.hid hh1
  have hs1 : w0.heap.size < w1.heap.size := by omega
  clear hh1 hz1
  go_wp2_with fail
  refine (write_any _ w0.heap.size [] _ [A] (HC0.out.below (hb1.alloc hb1.size _)) hN0 (HH1.out.below ((Below.refl _ _).alloc (Nat.le_refl _) _)) (StrSlice.new [A] 1) (by simp) (by simp; omega)).mono ?_
  rintro e w2 ⟨rfl, hh2, hg2⟩
  rw [List.nil_append, show ([A] : List (List UInt8)).flatten = A from by simp] at hh2
  have hb2 := below_grown_new (w0 := w0) (hb1.alloc hb1.size _) hg2 (Nat.le_refl _)
  have hs2 : w0.heap.size < w2.heap.size := Nat.lt_of_lt_of_le hs1 (Nat.le_trans (by simp) hg2.size)
  have HH2 := Lib.hid hh2
  clear hh2 hg2 hb1 HH1 hs1
  go_wp2_with fail
  refine (new_any _ (HC0.out.below hb2)).mono ?_
  rintro e w3 ⟨rfl, hh3, hb3, hz3⟩
  have T3 := Lib.hid (show Two w0 w3 w0.heap.size w2.heap.size A [] from ⟨hb2.trans (hb3.mono hb2.size), HC0.out.below (hb2.trans (hb3.mono hb2.size)), HH2.out.below hb3, hh3, Nat.le_refl _, Nat.le_of_lt hs2, Nat.ne_of_lt hs2, hN0⟩)
  obtain ⟨t, ht⟩ : ∃ t, t = w2.heap.size := ⟨_, rfl⟩
  obtain ⟨s, hs⟩ : ∃ s, s = w0.heap.size := ⟨_, rfl⟩
  rw [← ht, ← hs] at T3
  rw [← ht, ← hs]
  have hs2' : 2 ≤ s := by omega
  have ht2' : 2 ≤ t := by omega
  clear hh3 hb3 hz3 HH2 hb2 ht hs hs2
  go_wp2_with fail
  refine (write_any _ t [] _ [C] (T3.out.alloc _).2.1 ht2' (T3.out.alloc _).2.2.2.1 (StrSlice.new [C] 1) (by simp) (by simp; omega)).mono ?_
  rintro e w4 ⟨rfl, hh4, hg4⟩
  rw [List.nil_append, show ([C] : List (List UInt8)).flatten = C from by simp] at hh4
  have T4 := Lib.hid ((T3.out.alloc _).right hg4 hh4)
  clear hh4 hg4 T3
  go_wp2_with fail
  refine (sum_any _ s A T4.out.2.1 T4.out.2.2.1 (by omega)).mono ?_
  rintro e w5 ⟨rfl, hb5⟩
  have T5 := Lib.hid (T4.out.below hb5)
  clear hb5 T4
  go_wp2_with fail
  refine (write_any _ t C _ [C] (T5.out.alloc _).2.1 ht2' (T5.out.alloc _).2.2.2.1 (StrSlice.new [C] 1) (by simp) (by simp; omega)).mono ?_
  rintro e w6 ⟨rfl, hh6, hg6⟩
  rw [show ([C] : List (List UInt8)).flatten = C from by simp] at hh6
  have T6 := Lib.hid ((T5.out.alloc _).right hg6 hh6)
  clear hh6 hg6 T5
  go_wp2_with fail
  refine (write_any _ s A _ [B] (T6.out.alloc _).2.1 hs2' (T6.out.alloc _).2.2.1 (StrSlice.new [B] 1) (by simp) (by simp; omega)).mono ?_
  rintro e w7 ⟨rfl, hh7, hg7⟩
  rw [show ([B] : List (List UInt8)).flatten = B from by simp] at hh7
  have T7 := Lib.hid ((T6.out.alloc _).left hg7 hh7)
  clear hh7 hg7 T6
  go_wp2_with fail
  refine (sum_any _ s (A ++ B) T7.out.2.1 T7.out.2.2.1 (by simp; omega)).mono ?_
  rintro e w8 ⟨rfl, hb8⟩
  have T8 := Lib.hid (T7.out.below hb8)
  clear hb8 T7
  go_wp2_with fail
  refine (of_any _ _ [A, B] (T8.out.alloc _).2.1 (StrSlice.new [A, B] 2) (by simp) (by simp; omega)).mono ?_
  rintro e w9 ⟨rfl, hb9⟩
  rw [show ([A, B] : List (List UInt8)).flatten = A ++ B from by simp]
  have T9 := Lib.hid ((T8.out.alloc _).below hb9)
  clear hb9 T8
  have q1 : ∀ W, (binOp .eql 23 (.agg ((sha (A ++ B)).map byteV).toArray) (.agg ((sha (A ++ B)).map byteV).toArray)).run Tryd.prog W = .ok (.bool true) W := fun W => by
    rw [run_eql_bytes 23 5 32 Tryd.underlying23 Tryd.underlying5 (by kernel_rfl) _ _ rfl rfl W]; simp
  go_wp2_with fail
  refine (sum_any _ t (C ++ C) T9.out.2.1 T9.out.2.2.2.1 (by simp; omega)).mono ?_
  rintro e w10 ⟨rfl, hb10⟩
  have T10 := Lib.hid (T9.out.below hb10)
  clear hb10 T9
  go_wp2_with fail
  refine (of_any _ _ [C, C] (T10.out.alloc _).2.1 (StrSlice.new [C, C] 2) (by simp) (by simp; omega)).mono ?_
  rintro e w11 ⟨rfl, hb11⟩
  rw [show ([C, C] : List (List UInt8)).flatten = C ++ C from by simp]
  have T11 := Lib.hid ((T10.out.alloc _).below hb11)
  clear hb11 T10
  have q2 : ∀ W, (binOp .eql 23 (.agg ((sha (C ++ C)).map byteV).toArray) (.agg ((sha (C ++ C)).map byteV).toArray)).run Tryd.prog W = .ok (.bool true) W := fun W => by
    rw [run_eql_bytes 23 5 32 Tryd.underlying23 Tryd.underlying5 (by kernel_rfl) _ _ rfl rfl W]; simp
  go_wp2_with fail
  refine (write_any _ s (A ++ B) _ [] T11.out.2.1 hs2' T11.out.2.2.1 (StrSlice.nil _) (by simp) (by simp; omega)).mono ?_
  rintro e w12 ⟨rfl, hh12, hg12⟩
  rw [List.flatten_nil, List.append_nil] at hh12
  have T12 := Lib.hid (T11.out.left hg12 hh12)
  clear hh12 hg12 T11
  go_wp2_with fail
  refine (sum_any _ s (A ++ B) T12.out.2.1 T12.out.2.2.1 (by simp; omega)).mono ?_
  rintro e w13 ⟨rfl, hb13⟩
  have T13 := Lib.hid (T12.out.below hb13)
  clear hb13 T12
  go_wp2_with fail
  refine (of_any _ _ [A ++ B] (T13.out.alloc _).2.1 (StrSlice.new [A ++ B] 1) (by simp) (by simp; omega)).mono ?_
  rintro e w14 ⟨rfl, hb14⟩
  rw [show ([A ++ B] : List (List UInt8)).flatten = A ++ B from by simp]
  have T14 := Lib.hid ((T13.out.alloc _).below hb14)
  clear hb14 T13
  go_wp2
  go_ret
  exact ⟨rfl, hb0.trans (T14.out.1.mono hb0.size)⟩
end Go.Proofs.YtjbjkkgkefpggaaDoor

/-
  Mesh: the calls beside blocks that are kept; awake of layer 18.
-/
import Derived.Test.YtbkknhlagohhhaaMsm9
namespace Go.Proofs.Ytbkknhlagohhhaa
open Go.RowKit Crv

/-- What is new since base, but for these blocks. -/
abbrev Ex (base : Nat) (S : List Nat) : Nat → Prop := fun b => base ≤ b ∧ b ∉ S
theorem Fr.mem {F : Nat → Prop} {W W' : World} {p : Nat} {t : TypeId} {cs : List Value} (h : Fr F W W') (hm : Mem W p t cs) (hp : ¬ F p) : Mem W' p t cs := (h.block p hm.lt hp).trans hm
theorem Fr.ex {base : Nat} {S : List Nat} {W W' : World} (h : Fr (Ex base S) W W') (hb : base ≤ W.heap.size) : Below base W W' := h.below (fun k hk hF => by have := hF.1; omega) hb
section
variable {W W' : World} {mb base : Nat} {S : List Nat} {x y : MS}
theorem Mx.exNew (h : Mx W' (And_new (Ex base S) W) mb y) (hb : base ≤ W.heap.size) (hS : ∀ s ∈ S, s < W.heap.size) : Mx W' (Ex base S) mb y := h.mono fun b _ hF => by
  rcases hF with hF | hF
  · exact hF
  · exact ⟨by omega, fun hs => by have := hS b hs; omega⟩
theorem Mx.exAdd (h : Mx W (Ex base S) mb x) (o : Obj) : Mx (W.alloc o) (Ex base (W.heap.size :: S)) mb x := by
  refine (h.mono (F' := fun b => Ex base (W.heap.size :: S) b) fun b hlt hF => ⟨hF.1, fun hs => ?_⟩).below (belowSelf W o)
  rcases List.mem_cons.1 hs with e | hs
  · omega
  · exact hF.2 hs
theorem send_ex (hX : Mx W (Ex base S) mb x) (hb : base ≤ W.heap.size) (hS : ∀ s ∈ S, s < W.heap.size) (hlo : x.lost ≤ 1000000) (fr to : Int) (text : List UInt8) (g : Nat) (hg : W.cell? ⟨g, 0, none⟩ = some (.int .i64 to)) : Calls Try.prog 38 #[.pointer (some ⟨mb, 0, none⟩), .int .i64 fr, tx text, .slice (some ⟨g, 0, none⟩) 1 1] W fun e w' =>
    e = .returned (.int .i64 (sendM x fr text to).2) ∧ Mx w' (Ex base S) mb (sendM x fr text to).1 ∧ Fr (Ex base S) W w' :=
  (send_any hX hlo fr to text g hg).mono fun _ _ h => ⟨h.1, h.2.1.exNew hb hS, h.2.2⟩
/-- Send of a text to an address that the caller lays in a slice of its own. -/
theorem send_new (hX : Mx W (Ex base S) mb x) (hb : base ≤ W.heap.size) (hS : ∀ s ∈ S, s < W.heap.size) (hlo : x.lost ≤ 1000000) (fr to : Int) (text : List UInt8) : Calls Try.prog 38 #[.pointer (some ⟨mb, 0, none⟩), .int .i64 fr, tx text, .slice (some ⟨W.heap.size, 0, none⟩) 1 1] (W.alloc (.cells #[.int .i64 to] 3)) fun e w' =>
    e = .returned (.int .i64 (sendM x fr text to).2) ∧ Mx w' (Ex base S) mb (sendM x fr text to).1 ∧ Fr (Ex base S) W w' := by
  have hB := belowSelf W (.cells #[.int .i64 to] 3)
  exact (send_ex (hX.below hB) (Nat.le_trans hb hB.size) (fun s hs => Nat.lt_of_lt_of_le (hS s hs) hB.size) hlo fr to text W.heap.size ((Mem.new W 3 [.int .i64 to]).cell 0)).mono fun _ _ h => ⟨h.1, h.2.1, (Fr.of_below (F := Ex base S) hB).trans h.2.2 (fun i hi => .inl hi)⟩
theorem take_ex (hX : Mx W (Ex base S) mb x) (hb : base ≤ W.heap.size) (hS : ∀ s ∈ S, s < W.heap.size) (to : Int) : Calls Try.prog 36 #[.pointer (some ⟨mb, 0, none⟩), .int .i64 to] W fun e w' =>
    e = .returned (.tuple #[.agg (pkL (takeI x to).2).toArray, .bool (takeI x to).2.isSome]) ∧ Mx w' (Ex base S) mb (takeI x to).1 ∧ Fr (Ex base S) W w' :=
  (take_any hX to).mono fun _ _ h => ⟨h.1, h.2.1.exNew hb hS, h.2.2⟩
theorem cast_ex (hX : Mx W (Ex base S) mb x) (hb : base ≤ W.heap.size) (hS : ∀ s ∈ S, s < W.heap.size) (hlo : x.lost ≤ 900000) (fr : Int) (text : List UInt8) : Calls Try.prog 39 #[.pointer (some ⟨mb, 0, none⟩), .int .i64 fr, tx text] W fun e w' =>
    e = .returned (.tuple #[]) ∧ Mx w' (Ex base S) mb (castM x fr text x.n) ∧ Fr (Ex base S) W w' :=
  (cast_any hX hlo fr text).mono fun _ _ h => ⟨h.1, h.2.1.exNew hb hS, h.2.2⟩
theorem drop_ex (hX : Mx W (Ex base S) mb x) (hb : base ≤ W.heap.size) (hS : ∀ s ∈ S, s < W.heap.size) (t f i : Int) : Calls Try.prog 69 #[.pointer (some ⟨mb, 0, none⟩), .int .i64 t, .int .i64 f, .int .i64 i] W fun e w' =>
    e = .returned (.bool (removeM x t f i).2.2) ∧ Mx w' (Ex base S) mb (removeM x t f i).1 ∧ Fr (Ex base S) W w' :=
  (drop_any hX t f i).mono fun _ _ h => ⟨h.1, h.2.1.exNew hb hS, h.2.2⟩
theorem len_mx {F : Nat → Prop} (hX : Mx W F mb x) : Calls Try.prog 67 #[.pointer (some ⟨mb, 0, none⟩)] W fun e w' => e = .returned (.int .i64 x.n) ∧ w' = W := by
  obtain ⟨_, _, _, h, _⟩ := hX
  exact len_any h
theorem lost_mx {F : Nat → Prop} (hX : Mx W F mb x) : Calls Try.prog 33 #[.pointer (some ⟨mb, 0, none⟩)] W fun e w' => e = .returned (.int .i64 x.lost) ∧ w' = W := by
  obtain ⟨_, _, _, h, _⟩ := hX
  exact lost_any h
theorem waits_mx {F : Nat → Prop} (hX : Mx W F mb x) (t f : Int) : Calls Try.prog 34 #[.pointer (some ⟨mb, 0, none⟩), .int .i64 t, .int .i64 f] W fun e w' => e = .returned (.int .i64 (waitsM x t f)) ∧ w' = W := by
  obtain ⟨_, _, _, h, _⟩ := hX
  exact waits_any h t f
theorem mnew_ex (a : Int) (n : Nat) (ha : min (max a 0) 64 = (n : Int)) (hb : base ≤ W.heap.size) : Calls Try.prog 29 #[.int .i64 a] W fun e w' =>
    e = .returned (.pointer (some ⟨W.heap.size + 1, 0, none⟩)) ∧ Mx w' (Ex base []) (W.heap.size + 1) (newM n) ∧ Below W.heap.size W w' :=
  (mnew_any a n ha W).mono fun _ _ h => ⟨h.1, h.2.1.mono (fun b _ hF => ⟨Nat.le_trans hb hF, by simp⟩), h.2.2.1⟩
end
theorem pkL_some (f : Nat) (s : List UInt8) : pkL (some (f, s)) = [.int .i64 f, tx s] := rfl
theorem pkL_none : pkL none = [.int .i64 0, tx []] := rfl
def aw1 : MS := (sendM (newM 3) 1 [97] 0).1
def aw2 : MS := (sendM aw1 1 [98] 0).1
def aw3 : MS := (sendM aw2 2 [99] 0).1
def aw4 : MS := (takeI aw3 0).1
def aw5 : MS := (takeI aw4 0).1
def aw6 : MS := (takeI aw5 0).1
theorem aw_errs : (sendM (newM 3) 1 [97] 0).2 = 0 ∧ (sendM aw1 1 [98] 0).2 = 0 ∧ (sendM aw2 2 [99] 0).2 = 0 := ⟨by kernel_rfl, by kernel_rfl, by kernel_rfl⟩
theorem aw_pks : (takeI aw3 0).2 = some (1, [97]) ∧ (takeI aw4 0).2 = some (2, [99]) ∧ (takeI aw5 0).2 = some (1, [98]) := ⟨by kernel_rfl, by kernel_rfl, by kernel_rfl⟩
theorem aw_lost : (newM 3).lost = 0 ∧ aw1.lost = 0 ∧ aw2.lost = 0 := ⟨by kernel_rfl, by kernel_rfl, by kernel_rfl⟩
theorem aw_n : aw6.n = 3 := by kernel_rfl
set_option maxHeartbeats 2000000 in
set_option maxRecDepth 100000 in
theorem awake18_any (W : World) : Calls Try.prog 28 #[] W fun e w' => e = .returned (.bool true) ∧ Below W.heap.size W w' := by
  have HNEW := Lib.hid (mnew_ex (W := W) (base := W.heap.size) 3 3 (by decide) (Nat.le_refl _))
  go_enter Try.func28, Try.ntmps28
  go_wp2_with fail
  refine HNEW.out.mono ?_
  rintro e w1 ⟨rfl, hx, hb⟩
  have HB := Lib.hid hb
  have HS := Lib.hid (send_new hx hb.size (by simp) (by simp [newM]) 1 0 [97])
  rw [aw_errs.1] at HS
  clear HNEW hx hb
  go_wp2_with fail
  refine HS.out.mono ?_
  rintro e w2 ⟨rfl, hx, hf⟩
  have HB2 := Lib.hid (HB.out.trans (hf.ex HB.out.size))
  have HS2 := Lib.hid (send_new (x := aw1) hx HB2.out.size (by simp) (by rw [aw_lost.2.1]; omega) 1 0 [98])
  rw [aw_errs.2.1] at HS2
  clear HS hx hf HB
  go_wp2_with fail
  refine HS2.out.mono ?_
  rintro e w3 ⟨rfl, hx, hf⟩
  have HB3 := Lib.hid (HB2.out.trans (hf.ex HB2.out.size))
  have HS3 := Lib.hid (send_new (x := aw2) hx HB3.out.size (by simp) (by rw [aw_lost.2.2]; omega) 2 0 [99])
  rw [aw_errs.2.2] at HS3
  clear HS2 hx hf HB2
  go_wp2_with fail
  refine HS3.out.mono ?_
  rintro e w4 ⟨rfl, hx, hf⟩
  have HB4 := Lib.hid (HB3.out.trans (hf.ex HB3.out.size))
  have HT1 := Lib.hid (take_ex (x := aw3) hx HB4.out.size (by simp) 0)
  rw [aw_pks.1, pkL_some] at HT1
  clear HS3 hx hf HB3
  go_wp2_with fail
  refine HT1.out.mono ?_
  rintro e w5 ⟨rfl, hx, hf⟩
  have HB5 := Lib.hid (HB4.out.trans (hf.ex HB4.out.size))
  have HM5 := Lib.hid (Mem.new w5 Tpk [.int .i64 1, tx [97]])
  have HT2 := Lib.hid (take_ex (hx.exAdd (.cells #[.int .i64 1, tx [97]] Tpk)) (Nat.le_trans HB5.out.size (belowSelf w5 _).size) (by intro s hs; simp at hs; subst hs; simp) 0)
  have HBA := Lib.hid (HB5.out.trans ((belowSelf w5 (.cells #[.int .i64 1, tx [97]] Tpk)).mono HB5.out.size))
  rw [show (aw3 : MS) = aw3 from rfl] at HT2
  rw [show (takeI (takeI aw3 0).1 0).2 = some (2, [99]) from aw_pks.2.1, pkL_some] at HT2
  clear HT1 hx hf HB4 HB5
  go_wp2_with fail
  refine HT2.out.mono ?_
  rintro e w6 ⟨rfl, hx, hf⟩
  have HM6 := Lib.hid (hf.mem HM5.out (by simp))
  have HB6 := Lib.hid (HBA.out.trans (hf.ex HBA.out.size))
  have HM6n := Lib.hid (Mem.new w6 Tpk [.int .i64 2, tx [99]])
  have HM6a := Lib.hid (HM6.out.alloc (.cells #[.int .i64 2, tx [99]] Tpk))
  have hs56 : w5.heap.size < w6.heap.size := HM6.out.lt
  have HT3 := Lib.hid (take_ex (hx.exAdd (.cells #[.int .i64 2, tx [99]] Tpk)) (Nat.le_trans HB6.out.size (belowSelf w6 _).size) (by intro s hs; simp at hs; rcases hs with rfl | rfl <;> simp <;> omega) 0)
  have HBC := Lib.hid (HB6.out.trans ((belowSelf w6 (.cells #[.int .i64 2, tx [99]] Tpk)).mono HB6.out.size))
  rw [show (takeI (takeI (takeI aw3 0).1 0).1 0).2 = some (1, [98]) from aw_pks.2.2, pkL_some] at HT3
  clear HT2 hx hf HBA HM5 HM6 HB6 hs56
  go_wp2_with fail
  refine HT3.out.mono ?_
  rintro e w7 ⟨rfl, hx, hf⟩
  have HM7 := Lib.hid (hf.mem HM6a.out (by simp))
  have HM8 := Lib.hid (hf.mem HM6n.out (by simp))
  have HB7 := Lib.hid (HBC.out.trans (hf.ex HBC.out.size))
  have HX7 := Lib.hid (hx.below (belowSelf w7 (.cells #[.int .i64 1, tx [98]] Tpk)))
  have HM7a := Lib.hid (HM7.out.alloc (.cells #[.int .i64 1, tx [98]] Tpk))
  have HM8a := Lib.hid (HM8.out.alloc (.cells #[.int .i64 1, tx [98]] Tpk))
  have HM9 := Lib.hid (Mem.new w7 Tpk [.int .i64 1, tx [98]])
  have HL := Lib.hid (len_mx HX7.out)
  rw [show (takeI (takeI (takeI aw3 0).1 0).1 0).1.n = 3 from aw_n] at HL
  have HBE := Lib.hid (HB7.out.trans ((belowSelf w7 (.cells #[.int .i64 1, tx [98]] Tpk)).mono HB7.out.size))
  have c71 := HM7a.out.cell 1
  have c80 := HM8a.out.cell 0
  have c91 := HM9.out.cell 1
  clear HT3 hx hf HBC HM6a HM6n HM7 HM8 HB7
  go_wp2_with fail
  refine HL.out.mono ?_
  rintro e w8 ⟨rfl, rfl⟩
  go_wp2_with fail
  go_ret
  exact ⟨rfl, HBE.out⟩
end Go.Proofs.Ytbkknhlagohhhaa

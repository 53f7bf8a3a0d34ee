/-
  A table beside what is kept; the reference's ID; awake of layer 19.
-/
import Derived.Test.YtaicjdjfhbmfeaaDoorBkt8
namespace Go.Proofs.YtaicjdjfhbmfeaaDoor
open Go.RowKit Crv

/-- What is new since base, but for these blocks. -/
abbrev Ex (base : Nat) (S : List Nat) : Nat → Prop := fun b => base ≤ b ∧ b ∉ S
theorem Fr.ex {base : Nat} {S : List Nat} {W W' : World} (h : Fr (Ex base S) W W') (hb : base ≤ W.heap.size) : Below base W W' := h.below (fun k hk hF => by have := hF.1; omega) hb
theorem Consts.old {w w' : World} {B : Nat} (h : Consts w) (hb : Below B w w') (hB : 3 ≤ B) : Consts w' := ⟨h.1.below hb (by omega), h.2.below hb (by omega)⟩
/-- A table that a law has made since W0, beside the blocks S that are kept. -/
structure BT (W0 : World) (S : List Nat) (tb : Nat) (x : BS) (w : World) : Prop where
  b : Bx w (Ex W0.heap.size S) tb x
  below : Below W0.heap.size W0 w
  c : Consts w
  inv : Inv x
  s : ∀ s ∈ S, s < w.heap.size
  gb : 3 ≤ W0.heap.size
section
variable {W0 w w' : World} {S : List Nat} {tb : Nat} {x : BS}
theorem BT.next (h : BT W0 S tb x w) {y : BS} (hy : Inv y) (hx : Bx w' (And_new (Ex W0.heap.size S) w) tb y) (hf : Fr (Ex W0.heap.size S) w w') : BT W0 S tb y w' := by
  have hb := hf.ex h.below.size
  refine ⟨hx.mono fun b _ hF => ?_, h.below.trans hb, h.c.old hb h.gb, hy, fun s hs => Nat.lt_of_lt_of_le (h.s s hs) hf.size, h.gb⟩
  rcases hF with hF | hF
  · exact hF
  · exact ⟨Nat.le_trans h.below.size hF, fun hs => by have := h.s b hs; omega⟩
theorem BT.on (h : BT W0 S tb x w) (hb : Below w.heap.size w w') : BT W0 S tb x w' := ⟨h.b.below hb, belowThen h.below hb, h.c.below hb, h.inv, fun s hs => Nat.lt_of_lt_of_le (h.s s hs) hb.size, h.gb⟩
theorem BT.add (h : BT W0 S tb x w) (o : Obj) : BT W0 (w.heap.size :: S) tb x (w.alloc o) := by
  have h1 := h.on (belowSelf w o)
  refine ⟨(h.b.mono (F' := Ex W0.heap.size (w.heap.size :: S)) fun b hlt hF => ⟨hF.1, fun hs => ?_⟩).below (belowSelf w o), h1.below, h1.c, h1.inv, fun s hs => ?_, h.gb⟩
  · rcases List.mem_cons.1 hs with e | hs
    · omega
    · exact hF.2 hs
  · rcases List.mem_cons.1 hs with e | hs
    · rw [e]; simp
    · exact h1.s s hs
theorem BT.turn (h : BT W0 S tb x w) {g : Nat} (hS : g ∈ S) (hW : W0.heap.size ≤ g) (hg : w.grownBy w' (some g)) : BT W0 S tb x w' := by
  have hb : Below W0.heap.size W0 w' := belowNew h.below hg hW
  refine ⟨h.b.of fun b hlt hF => hg.block b hlt (fun e => ?_), hb, h.c.grown hg (Nat.le_trans h.gb hW), h.inv, fun s hs => Nat.lt_of_lt_of_le (h.s s hs) hg.size, h.gb⟩
  injection e with e
  subst e
  exact hF.2 hS
theorem BT.heard (h : BT W0 S tb x w) (n : Int) : Calls Tryd.prog 23 #[.pointer (some ⟨tb, 0, none⟩), iv n] w fun e w' =>
    e = .returned (.tuple #[iv ((heardT x n).2.getD 0), .bool (heardT x n).2.isSome]) ∧ BT W0 S tb (heardT x n).1 w' ∧ ∀ s ∈ S, w'.heap[s]? = w.heap[s]? :=
  (Heard_any h.b h.c n).mono fun _ _ q => ⟨q.1, h.next (h.inv.heard n) q.2.1 q.2.2, fun s hs => q.2.2.block s (h.s s hs) (fun e => e.2 hs)⟩
theorem BT.gone (h : BT W0 S tb x w) (n : Int) : Calls Tryd.prog 28 #[.pointer (some ⟨tb, 0, none⟩), iv n] w fun e w' =>
    e = .returned (.bool (goneT x n).2) ∧ BT W0 S tb (goneT x n).1 w' ∧ ∀ s ∈ S, w'.heap[s]? = w.heap[s]? :=
  (Gone_any h.b h.c n).mono fun _ _ q => ⟨q.1, h.next (h.inv.gone n) q.2.1 q.2.2, fun s hs => q.2.2.block s (h.s s hs) (fun e => e.2 hs)⟩
theorem BT.knows (h : BT W0 S tb x w) (n : Int) : Calls Tryd.prog 20 #[.pointer (some ⟨tb, 0, none⟩), iv n] w fun e w' =>
    e = .returned (.bool (knowsT x n)) ∧ BT W0 S tb x w' ∧ Below w.heap.size w w' :=
  (Knows_any h.b h.c n).mono fun _ _ q => ⟨q.1, h.on q.2.2, q.2.2⟩
def sorted (l : List Int) : List Int := l.mergeSort fun a b => decide (a ≤ b)
theorem BT.all (h : BT W0 S tb x w) : Calls Tryd.prog 14 #[.pointer (some ⟨tb, 0, none⟩)] w fun e w' =>
    ∃ v, e = .returned v ∧ Owns w' w.heap.size Tin v ((sorted (allB x 257)).map iv) ∧ BT W0 S tb x w' ∧ Below w.heap.size w w' := by
  obtain ⟨sv, hT, _⟩ := h.b
  exact (all_any hT).mono fun _ _ ⟨v, q1, q2, q3⟩ => ⟨v, q1, q2, h.on q3, q3⟩
theorem BT.make (hb : Below W0.heap.size W0 w) (hc : Consts w) (hg : 3 ≤ W0.heap.size) (o : Int) : Calls Tryd.prog 22 #[iv o] w fun e w' => ∃ tb, e = .returned (.pointer (some ⟨tb, 0, none⟩)) ∧ BT W0 [] tb (newT o) w' :=
  (bnew_any o hc).mono fun _ _ ⟨tb, q1, q2, q3, q4⟩ => ⟨tb, q1, ⟨⟨_, q3, fun b hb' => by
    rcases hb' with rfl | ⟨j, _, hj⟩
    · exact ⟨Nat.le_trans hb.size q2, by simp⟩
    · cases hj⟩, belowThen hb q4, hc.below q4, Inv.new o, by simp, hg⟩⟩
end
set_option maxHeartbeats 2000000 in
set_option maxRecDepth 100000 in
theorem refOfPeer_any (s : List UInt8) (w : World) (hs : s.length ≤ 1000000) :
    Calls Tryd.prog 66 #[.int .i64 4, .string (str s)] w fun e w' => e = .returned (.string (str (sha ([99, 114, 118] ++ headOf 4 s.length ++ s)))) ∧ Below w.heap.size w w' := by
  have hcv : ∀ W : World, (convert 79 9 (.slice (some ⟨W.heap.size, 0, none⟩) 1 1)).run Tryd.prog (W.alloc (.cells #[.int .u8 4] 5)) = .ok (.string (str [4])) (W.alloc (.cells #[.int .u8 4] 5)) := fun W => byteStr 4 4 rfl _ (Mem.new W _ _)
  have hcd : ∀ W : World, (convert 79 9 (.slice (some ⟨W.heap.size, 0, none⟩) 1 1)).run Tryd.prog (W.alloc (.cells #[.int .u8 4] 5)).drew = .ok (.string (str [4])) (W.alloc (.cells #[.int .u8 4] 5)).drew := fun W => byteStr 4 4 rfl _ (Mem.new W _ _).drew
  obtain ⟨L, hL⟩ : ∃ L, L = s.length := ⟨_, rfl⟩
  have HL := Lib.hid hL
  have hLI : L ≤ 1000000 := by omega
  have HBY := Lib.hid (fun W => refBytes_any s.length W (by omega))
  have HSZ := Lib.hid (show w.heap.size < ((w.alloc (.cells #[.int .u8 4] 5)).drew).heap.size by simp)
  have u0 : IntKind.u8.wrap 4 = 4 := by decide
  have u1 : IntKind.u32.wrap (s.length : Int) = (s.length : Int) := IntWalk.u32_in _ (by omega)
  have HREF := Lib.hid (fun W => refOf_any ([99, 114, 118] ++ headOf 4 s.length ++ s) W (by simp [headOf, be4]; omega))
  obtain ⟨b4, hb4⟩ : ∃ b4, b4 = be4 s.length := ⟨_, rfl⟩
  have hb4l : b4.length = 4 := by rw [hb4]; rfl
  have HHD := Lib.hid (show [99, 114, 118] ++ headOf 4 s.length ++ s = ([99, 114, 118, 4] : List UInt8) ++ (b4 ++ s) by rw [hb4]; simp [headOf])
  rw [← hb4] at HBY
  obtain ⟨D, hD⟩ : ∃ D, D = sha ([99, 114, 118] ++ headOf 4 s.length ++ s) := ⟨_, rfl⟩
  rw [← hD, HHD.out] at HREF
  rw [← hD]
  clear hL hb4 hD
  go_enter Tryd.func66, Tryd.ntmps66
  go_wp2_with fail
  go_region_with (first
      | (go_at_call 86; refine (HBY.out _).mono ?_; rintro e w1 ⟨rfl, hb1⟩; (first | have hc1 := byteStr 4 4 rfl w1 (Mem.below (Mem.drew (Mem.new w 5 [.int .u8 4])) hb1 HSZ.out) | skip))
      | (go_at_call 85; refine (HREF.out _).mono ?_; rintro e w2 ⟨rfl, hb2⟩)
      | fail)
  all_goals
    rename_i K hK hov
    refine hK _ _ ?_
    go_wp2
    go_ret
    first
      | exact ⟨rfl, belowThen (belowThen (below_drewN (belowSelf w _) 1) hb1) hb2⟩
      | exact ⟨rfl, belowThen (belowThen (belowThen (below_drewN (Below.refl w.heap.size w) 1) hb1) (belowSelf _ _)) hb2⟩
set_option maxHeartbeats 1000000 in
set_option maxRecDepth 100000 in
theorem refID_any (n : Nat) (hn : n < 256) (w : World) : Calls Tryd.prog 39 #[iv n] w fun e w' => e = .returned (tx (idN n)) ∧ Below w.heap.size w w' := by
  have HR := Lib.hid (fun w => refOfPeer_any [b8 n] w (by simp))
  have hD : sha ([99, 114, 118] ++ headOf 4 [b8 (n : Int)].length ++ [b8 n]) = idN n := rfl
  simp only [hD] at HR
  obtain ⟨d, hd⟩ : ∃ d, d = idN n := ⟨_, rfl⟩
  simp only [← hd] at HR ⊢
  have hb : (n : Int) = ((b8 (n : Int)).toNat : Int) := by rw [b8_nat]; omega
  have hs := byteStr (n : Int) (b8 n) hb (w.alloc (.cells #[.int .u8 (n : Int)] 5)) (Mem.new w 5 [.int .u8 (n : Int)])
  obtain ⟨c, hc⟩ : ∃ c, c = b8 (n : Int) := ⟨_, rfl⟩
  rw [← hc] at HR hs
  have hm : (n : Int) % 256 = (n : Int) := by omega
  clear hd hD hb hc
  go_enter Tryd.func39, Tryd.ntmps39
  go_wp2_with fail
  refine (HR.out _).mono ?_
  rintro e w1 ⟨rfl, hb1⟩
  have HB := Lib.hid (belowThen (belowSelf w _) hb1)
  clear hb1
  go_wp2_with fail
  go_ret
  exact ⟨rfl, HB.out⟩
/-- The answers of awake's table. -/
theorem aw19 : (heardT (newT 0) 5).2 = none ∧ knowsT (heardT (newT 0) 5).1 5 = true ∧ (goneT (heardT (newT 0) 5).1 5).2 = true ∧ knowsT (heardT (newT 0) 5).1 0 = false ∧ (allB (heardT (newT 0) 5).1 257).length = 1 ∧ (allB (goneT (heardT (newT 0) 5).1 5).1 257).length = 0 := by
  have hI := Inv.new 0
  have ok : okA (newT 0).own 5 := by decide
  have hlt : rowB (newT 0) 5 < 257 := by have := rowB_le (newT 0) 5; omega
  have h0 : rowB (newT 0) 0 = 256 := hI.own
  have hh : heardT (newT 0) 5 = (putB (newT 0) (rowB (newT 0) 5) [5] [], none) := by
    unfold heardT heardB
    rw [if_pos ok]
    simp [newT]
  have hg : goneT (putB (newT 0) (rowB (newT 0) 5) [5] []) 5 = (putB (putB (newT 0) (rowB (newT 0) 5) [5] []) (rowB (newT 0) 5) [] [], true) := by
    unfold goneT goneB
    rw [rowB_put, K_put, Q_put]
    simp
  have hall : ∀ m, (allB (newT 0) m).length = 0 := fun m => by
    induction m with
    | zero => rfl
    | succ m ih => rw [allB_succ, List.length_append, ih]; rfl
  have l1 := len_put (newT 0) (rowB (newT 0) 5) [5] [] 257 hlt
  have l2 := len_put (putB (newT 0) (rowB (newT 0) 5) [5] []) (rowB (newT 0) 5) [] [] 257 hlt
  rw [hall] at l1
  rw [K_put] at l2
  have e0 : (newT 0).K (rowB (newT 0) 5) = [] := rfl
  rw [e0] at l1
  simp only [List.length_cons, List.length_nil] at l1 l2
  rw [hh]
  refine ⟨rfl, ?_, by rw [hg], ?_, by simp only; omega, by rw [hg]; simp only; omega⟩
  · unfold knowsT
    simp [rowB_put, K_put]
  · have h5 := (hI.heard 5)
    rw [hh] at h5
    unfold knowsT
    simp only [rowB_put]
    refine decide_eq_false fun hm => ?_
    exact ((h5.kin _ _ hm).2.1) rfl
theorem length_sorted (l : List Int) : (sorted l).length = l.length := List.length_mergeSort _
set_option maxHeartbeats 2000000 in
set_option maxRecDepth 100000 in
theorem awake19_any (w : World) (hc : Consts w) : Calls Tryd.prog 11 #[] w fun e w' => e = .returned (.bool true) ∧ Below w.heap.size w w' := by
  have HN := Lib.hid (BT.make (W0 := w) (Below.refl _ w) hc hc.2.lt 0)
  have HI := Lib.hid (fun (w1 : World) (hc : Consts w1) => id_any 7 w1 hc)
  have HR := Lib.hid (fun (w1 : World) => refID_any 7 (by omega) w1)
  have HL := Lib.hid (length_idN 7)
  obtain ⟨d, hd⟩ : ∃ d, d = idN 7 := ⟨_, rfl⟩
  have hd' : idN ((7 : Nat) : Int) = d := hd.symm
  simp only [hd'] at HR
  simp only [← hd] at HI HL
  clear hd hd'
  have HBY := Lib.hid (fun (w1 : World) => bytes_any d w1 HL.out)
  obtain ⟨a1, a2, a3, a4, a5, a6⟩ := aw19
  obtain ⟨x1, hx1⟩ : ∃ x1, x1 = (heardT (newT 0) 5).1 := ⟨_, rfl⟩
  obtain ⟨x2, hx2⟩ : ∃ x2, x2 = (goneT x1 5).1 := ⟨_, rfl⟩
  rw [← hx1] at a2 a3 a4 a5 a6
  rw [← hx2] at a6
  have A1 := Lib.hid a1
  have A2 := Lib.hid a2
  have A3 := Lib.hid a3
  have A4 := Lib.hid a4
  have A5 := Lib.hid a5
  have A6 := Lib.hid a6
  have X1 := Lib.hid hx1
  have X2 := Lib.hid hx2
  clear a1 a2 a3 a4 a5 a6 hx1 hx2 hc
  go_enter Tryd.func11, Tryd.ntmps11
  go_wp2_with fail
  refine HN.out.mono ?_
  rintro e w1 ⟨tb, rfl, h1⟩
  have H1 := Lib.hid h1
  clear h1 HN
  go_wp2_with fail
  refine (H1.out.heard 5).mono ?_
  rintro e w2 ⟨rfl, h2, -⟩
  rw [A1.out, ← X1.out] at *
  have H2 := Lib.hid h2
  clear h2 H1
  go_wp2_with fail
  refine (H2.out.knows 5).mono ?_
  rintro e w3 ⟨rfl, h3, -⟩
  rw [A2.out]
  have H3 := Lib.hid h3
  clear h3 H2
  go_wp2_with fail
  refine (H3.out.knows 0).mono ?_
  rintro e w4 ⟨rfl, h4, -⟩
  rw [A4.out]
  have H4 := Lib.hid h4
  clear h4 H3
  go_wp2_with fail
  refine (H4.out.all).mono ?_
  rintro e w5 ⟨v, rfl, ho, h5, -⟩
  obtain ⟨q1, q2, rfl, -, -, -⟩ := ho.form
  have HLN := Lib.hid (show (List.map iv (sorted (allB x1 257))).length = 1 by rw [List.length_map, length_sorted, A5.out])
  rw [HLN.out]
  have H5 := Lib.hid h5
  clear h5 H4 ho
  go_wp2_with fail
  refine (H5.out.gone 5).mono ?_
  rintro e w6 ⟨rfl, h6, -⟩
  rw [A3.out]
  rw [← X2.out] at h6
  have H6 := Lib.hid h6
  clear h6 H5
  go_wp2_with fail
  refine (H6.out.all).mono ?_
  rintro e w7 ⟨v, rfl, ho, h7, -⟩
  obtain ⟨q3, q4, rfl, -, -, -⟩ := ho.form
  have HLM := Lib.hid (show (List.map iv (sorted (allB x2 257))).length = 0 by rw [List.length_map, length_sorted, A6.out])
  rw [HLM.out]
  have H7 := Lib.hid h7
  clear h7 H6 ho
  go_wp2_with fail
  refine (HI.out w7 H7.out.c).mono ?_
  rintro e w8 ⟨rfl, hb8⟩
  have H8 := Lib.hid (H7.out.on hb8)
  clear hb8 H7
  go_wp2_with fail
  refine (HBY.out w8).mono ?_
  rintro e w9 ⟨rfl, hb9⟩
  have H9 := Lib.hid (H8.out.on hb9)
  clear hb9 H8
  go_wp2_with fail
  refine (HR.out w9).mono ?_
  rintro e w10 ⟨rfl, hb10⟩
  have H10 := Lib.hid (H9.out.on hb10)
  clear hb10 H9
  go_wp2_with fail
  go_ret
  exact ⟨by first | rfl | simp, H10.out.below⟩
end Go.Proofs.YtaicjdjfhbmfeaaDoor

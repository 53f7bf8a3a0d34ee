/-
  Repute: a proof built; a book that a law has made; what the laws look at first.
-/
import Derived.Test.YtblfekecmahagaaDoorRep4
namespace Go.Proofs.YtblfekecmahagaaDoor
open Go.RowKit Go.Maps Crv

theorem fold_put (off : Nat) : ∀ (l : List Value) (k : Nat) (arr : Array Value), off + k + l.length ≤ arr.size → List.foldl (fun (cs : Array Value) (x : Value × Nat) => cs.setIfInBounds (off + x.snd) x.fst) arr (l.zipIdx k) = (arr.toList.take (off + k) ++ l ++ arr.toList.drop (off + k + l.length)).toArray
  | [], k, arr, h => by simp
  | a :: l, k, arr, h => by
    have h' : off + k + l.length + 1 ≤ arr.size := by simpa [Nat.add_assoc] using h
    rw [List.zipIdx_cons, List.foldl_cons, fold_put off l (k + 1) (arr.setIfInBounds (off + k) a) (by simp; omega)]
    congr 1
    rw [Array.toList_setIfInBounds, ← Nat.add_assoc, List.take_succ_eq_append_getElem (by simp; omega), List.take_set_of_le (Nat.le_refl _), List.drop_set_of_lt (by omega)]
    simp [Nat.add_assoc, Nat.add_comm 1]
theorem fold_ob (k : Nat) (x : List UInt8) (hx : x.length = 32) : List.foldl (fun (cs : Array Value) (x : Value × Nat) => cs.setIfInBounds (1 + x.snd) x.fst) #[Value.int .i64 k, Value.int .u8 0, Value.int .u8 0, Value.int .u8 0, Value.int .u8 0, Value.int .u8 0, Value.int .u8 0, Value.int .u8 0, Value.int .u8 0, Value.int .u8 0, Value.int .u8 0, Value.int .u8 0, Value.int .u8 0, Value.int .u8 0, Value.int .u8 0, Value.int .u8 0, Value.int .u8 0, Value.int .u8 0, Value.int .u8 0, Value.int .u8 0, Value.int .u8 0, Value.int .u8 0, Value.int .u8 0, Value.int .u8 0, Value.int .u8 0, Value.int .u8 0, Value.int .u8 0, Value.int .u8 0, Value.int .u8 0, Value.int .u8 0, Value.int .u8 0, Value.int .u8 0, Value.int .u8 0, Value.string ⟨#[]⟩] (x.map byteV).zipIdx = (Value.int .i64 k :: (x.map byteV ++ [Value.string ⟨#[]⟩])).toArray := by
  have h := fold_put 1 (x.map byteV) 0 #[Value.int .i64 k, Value.int .u8 0, Value.int .u8 0, Value.int .u8 0, Value.int .u8 0, Value.int .u8 0, Value.int .u8 0, Value.int .u8 0, Value.int .u8 0, Value.int .u8 0, Value.int .u8 0, Value.int .u8 0, Value.int .u8 0, Value.int .u8 0, Value.int .u8 0, Value.int .u8 0, Value.int .u8 0, Value.int .u8 0, Value.int .u8 0, Value.int .u8 0, Value.int .u8 0, Value.int .u8 0, Value.int .u8 0, Value.int .u8 0, Value.int .u8 0, Value.int .u8 0, Value.int .u8 0, Value.int .u8 0, Value.int .u8 0, Value.int .u8 0, Value.int .u8 0, Value.int .u8 0, Value.int .u8 0, Value.string ⟨#[]⟩] (by simp [hx])
  simp only [Nat.add_zero, List.length_map, hx] at h
  exact h
theorem run_build_ob (k : Nat) (x t : List UInt8) (hx : x.length = 32) (W : World) : (Instr.build Tpf #[(0, .int .i64 k), (1, .agg (x.map byteV).toArray), (2, .string (str t))]).run Tryd.prog W = .ok (.agg (pfC ((k : Int), x, t)).toArray) W := by
  have h2 : ((Value.int .i64 k :: (x.map byteV ++ [Value.string ⟨#[]⟩])).toArray.setIfInBounds 33 (.string (str t))) = (pfC ((k : Int), x, t)).toArray := by
    simp [pfC, List.set_append_right, hx]
  have h3 : (Value.int .i64 k :: (x.map byteV ++ [Value.string ⟨#[]⟩])).toArray.size = 34 := by simp [hx]
  simp [go_sem, Instr.build, Instr.fill, hx, fold_ob k x hx, h2, h3]
theorem wp_build3 {P : Program} {ops : Array Oper} {rest : List Oper} {o : Oper} {a : Act} {w : World} {Q : Exit → Act → World → Prop} {ty : TypeId} {x y z : Operand} {u v s r : Value} (hr : (Instr.build ty #[(0, u), (1, v), (2, s)]).run P w = .ok r w) (hgd : o.guard = none) (ho : o.op = .build ty #[(0, x), (1, y), (2, z)]) (hx : a.eval x = u) (hy : a.eval y = v) (hz : a.eval z = s)
    (h : wpList P ops Q rest (a.put o.dst r) w) : wpList P ops Q (o :: rest) a w := by
  refine wpList_plain hgd fun K hK => ?_
  unfold Oper.wp execOp
  simp only [ho, List.map_toArray, List.map_cons, List.map_nil, hx, hy, hz, hr, Sem.run_bind, Sem.run_pure, Result.andThen_ok]
  exact hK _ _ h
/-- A book that a law has made since W0. -/
structure Lb (W0 : World) (k mb bb : Nat) (M : MKt) (B : BNt) (w : World) : Prop where
  v : Bv w k mb bb M B
  n : W0.heap.size ≤ mb ∧ W0.heap.size ≤ bb
  bel : Below W0.heap.size W0 w
section
variable {W0 w w' : World} {k mb bb : Nat} {M : MKt} {B : BNt}
theorem Lb.on (h : Lb W0 k mb bb M B w) (hb : Below w.heap.size w w') : Lb W0 k mb bb M B w' := ⟨h.v.below hb, h.n, belowThen h.bel hb⟩
theorem Lb.make (hb : Below W0.heap.size W0 w) : Calls Tryd.prog 9 #[] w fun e w' => e = .returned (.pointer (some ⟨w.heap.size + 2, 0, none⟩)) ∧ Lb W0 (w.heap.size + 2) w.heap.size (w.heap.size + 1) [] [] w' :=
  (bnew_any w).mono fun _ _ q => ⟨q.1, q.2.1, ⟨hb.size, by have := hb.size; omega⟩, belowThen hb q.2.2⟩
theorem Lb.good (h : Lb W0 k mb bb M B w) {n : Int} (hn : In64 n) (hl : M.length < 100000) : Calls Tryd.prog 10 #[.pointer (some ⟨k, 0, none⟩), iv n] w fun e w' => e = .returned (.tuple #[]) ∧ Lb W0 k mb bb (goodM M n) B w' ∧ w.grownBy w' (some mb) :=
  (good_any h.v hn hl).mono fun _ _ q => ⟨q.1, ⟨q.2.1, h.n, belowNew h.bel q.2.2 h.n.1⟩, q.2.2⟩
theorem Lb.silent (h : Lb W0 k mb bb M B w) {n now : Int} (hn : In64 n) (hw : 0 ≤ now ∧ now ≤ 1099511627776) (hl : M.length < 100000) : Calls Tryd.prog 12 #[.pointer (some ⟨k, 0, none⟩), iv n, iv now] w fun e w' => e = .returned (.tuple #[]) ∧ Lb W0 k mb bb (silM M n now) B w' ∧ w.grownBy w' (some mb) :=
  (silent_any h.v hn hw hl).mono fun _ _ q => ⟨q.1, ⟨q.2.1, h.n, belowNew h.bel q.2.2 h.n.1⟩, q.2.2⟩
theorem Lb.ban (h : Lb W0 k mb bb M B w) (hc : Consts W0) {n : Int} (hn : In64 n) (p : PF) (h1 : p.1 = 1) (hp : p.2.1.length = 32) (ht : p.2.2.length ≤ 1000000) (hl : B.length < 100000) : Calls Tryd.prog 15 #[.pointer (some ⟨k, 0, none⟩), iv n, .agg (pfC p).toArray] w fun e w' =>
    e = .returned (iv (if holdsP p = true then 0 else 10)) ∧ Lb W0 k mb bb M (if holdsP p = true then banB B n p else B) w' ∧ w.grownBy w' (some bb) :=
  (ban_any h.v (hc.on h.bel) hn p h1 hp ht hl).mono fun _ _ q => ⟨q.1, ⟨q.2.1, h.n, belowNew h.bel q.2.2 h.n.2⟩, q.2.2⟩
end
abbrev pA : PF := (1, nameP [97], [97])
abbrev pB : PF := (1, nameP [97], [98])
theorem holds_a : holdsP pA = false := by unfold holdsP; simp
theorem heads_differ : (nameP [98]).head? ≠ (nameP [97]).head? := by decide +kernel
theorem holds_b : holdsP pB = true := by
  unfold holdsP
  simp only [Bool.not_eq_true', decide_eq_false_iff_not]
  intro h
  exact heads_differ (by rw [h])
def M3 : MKt := silM (silM (silM [] 3 0) 3 0) 3 0
theorem m3_3 : mkOf M3 3 = (-3, 8, 8) := by decide
theorem ban_b : banB [] 2 pB = [(2, pB)] := rfl
set_option maxHeartbeats 2000000 in
set_option maxRecDepth 100000 in
theorem awake23_any (W : World) (hc : Consts W) : Calls Tryd.prog 8 #[] W fun e w' => e = .returned (.bool true) ∧ Below W.heap.size W w' := by
  have HMK := Lib.hid (Lb.make (Below.refl W.heap.size W))
  have HSIL := Lib.hid (fun k mb bb (M : MKt) w (h : Lb W k mb bb M [] w) (hl : M.length < 100000) => h.silent (n := 3) (now := 0) (in64_of (by omega)) (by omega) hl)
  have HC := Lib.hid hc
  have HBA := Lib.hid (fun k mb bb (M : MKt) w (h : Lb W k mb bb M [] w) => show Calls Tryd.prog 15 #[.pointer (some ⟨k, 0, none⟩), iv 1, .agg (pfC pA).toArray] w fun e w' => e = .returned (iv 10) ∧ Lb W k mb bb M [] w' from by
    have := h.ban hc (n := 1) (in64_of (by omega)) pA rfl rfl (by simp) (by simp)
    rw [holds_a] at this
    exact this.mono fun _ _ q => ⟨q.1, q.2.1⟩)
  have HBB := Lib.hid (fun k mb bb (M : MKt) w (h : Lb W k mb bb M [] w) => show Calls Tryd.prog 15 #[.pointer (some ⟨k, 0, none⟩), iv 2, .agg (pfC pB).toArray] w fun e w' => e = .returned (iv 0) ∧ Lb W k mb bb M [(2, pB)] w' from by
    have := h.ban hc (n := 2) (in64_of (by omega)) pB rfl rfl (by simp) (by simp)
    rw [holds_b] at this
    exact this.mono fun _ _ q => ⟨q.1, q.2.1⟩)
  have HBN := Lib.hid (fun k mb bb (M : MKt) w (h : Lb W k mb bb M [(2, pB)] w) => show Calls Tryd.prog 20 #[.pointer (some ⟨k, 0, none⟩), iv 2] w fun e w' => e = .returned (.tuple #[.agg (pfC pB).toArray, .bool true]) ∧ Below w.heap.size w w' from banned_any h.v (n := 2) (in64_of (by omega)))
  have HSC := Lib.hid (fun k mb bb w (h : Lb W k mb bb M3 [(2, pB)] w) => show Calls Tryd.prog 21 #[.pointer (some ⟨k, 0, none⟩), iv 3] w fun e w' => e = .returned (iv (-3)) ∧ w' = w from by
    have := score_any h.v (n := 3) (in64_of (by omega))
    rwa [m3_3] at this)
  have HUN := Lib.hid (fun k mb bb w (h : Lb W k mb bb M3 [(2, pB)] w) => show Calls Tryd.prog 22 #[.pointer (some ⟨k, 0, none⟩), iv 3] w fun e w' => e = .returned (iv 8) ∧ w' = w from by
    have := until_any h.v (n := 3) (in64_of (by omega))
    rwa [m3_3] at this)
  have HMY := Lib.hid (fun k mb bb w (h : Lb W k mb bb M3 [(2, pB)] w) => show Calls Tryd.prog 23 #[.pointer (some ⟨k, 0, none⟩), iv 2, iv 99] w fun e w' => e = .returned (.bool false) ∧ Below w.heap.size w w' from may_any h.v (n := 2) (in64_of (by omega)) 99)
  have HOF := Lib.hid (fun w (h : Consts w) => ofName (t := [97]) (by simp) w h)
  clear hc
  obtain ⟨x, hx⟩ : ∃ x, x = nameP [97] := ⟨_, rfl⟩
  have HXL := Lib.hid (show x.length = 32 from by rw [hx]; rfl)
  have HX := Lib.hid hx
  rw [← hx] at HOF
  clear hx
  go_enter Tryd.func8, Tryd.ntmps8
  go_wp2_with fail
  refine HMK.out.mono ?_
  rintro e w1 ⟨rfl, h1⟩
  obtain ⟨k, hk⟩ : ∃ k, k = W.heap.size + 2 := ⟨_, rfl⟩
  obtain ⟨mb, hm⟩ : ∃ k, k = W.heap.size := ⟨_, rfl⟩
  obtain ⟨bb, hb⟩ : ∃ k, k = W.heap.size + 1 := ⟨_, rfl⟩
  have H1 := Lib.hid (show Lb W k mb bb [] [] w1 from by rw [hk, hm, hb]; exact h1)
  rw [← hk]
  clear h1 hk hm hb
  go_wp2_with fail
  refine (HSIL.out k mb bb _ w1 H1.out (by decide)).mono ?_
  rintro e w2 ⟨rfl, h2, -⟩
  have H2 := Lib.hid h2
  clear h2 H1
  go_wp2_with fail
  refine (HSIL.out k mb bb _ w2 H2.out (by decide)).mono ?_
  rintro e w3 ⟨rfl, h3, -⟩
  have H3 := Lib.hid h3
  clear h3 H2
  go_wp2_with fail
  refine (HSIL.out k mb bb _ w3 H3.out (by decide)).mono ?_
  rintro e w4 ⟨rfl, h4, -⟩
  have H4 := Lib.hid (show Lb W k mb bb M3 [] w4 from h4)
  clear h4 H3
  have hca := HC.out.on H4.out.bel
  have hof := HOF.out w4 hca
  go_wp2_with fail
  refine hof.mono ?_
  rintro e w5 ⟨rfl, hb5⟩
  have H5 := Lib.hid (H4.out.on (belowThen (belowSelf w4 _) hb5))
  clear hb5 hof hca H4
  have hba := HBA.out k mb bb _ w5 H5.out
  rw [show pfC pA = pfC (1, x, [97]) from by rw [HX.out]] at hba
  go_wp2_with (first
    | (refine wp_build3 (run_build_ob 1 x [97] HXL.out w5) rfl rfl rfl rfl rfl ?_)
    | fail)
  refine hba.mono ?_
  rintro e w6 ⟨rfl, h6⟩
  have H6 := Lib.hid h6
  clear hba h6 H5
  have hca := HC.out.on H6.out.bel
  have hof := HOF.out w6 hca
  go_wp2_with fail
  refine hof.mono ?_
  rintro e w7 ⟨rfl, hb7⟩
  have H7 := Lib.hid (H6.out.on (belowThen (belowSelf w6 _) hb7))
  clear hb7 hof hca H6
  have hbb := HBB.out k mb bb _ w7 H7.out
  rw [show pfC pB = pfC (1, x, [98]) from by rw [HX.out]] at hbb
  go_wp2_with (first
    | (refine wp_build3 (run_build_ob 1 x [98] HXL.out w7) rfl rfl rfl rfl rfl ?_)
    | fail)
  refine hbb.mono ?_
  rintro e w8 ⟨rfl, h8⟩
  have H8 := Lib.hid h8
  clear hbb h8 H7
  obtain ⟨rV, hrV⟩ : ∃ rV, rV = (.agg (pfC pB).toArray : Value) := ⟨_, rfl⟩
  have HRV := Lib.hid hrV
  rw [← hrV] at HBN
  clear hrV
  go_wp2_with fail
  refine (HBN.out k mb bb _ w8 H8.out).mono ?_
  rintro e w9 ⟨rfl, hb9⟩
  have H9 := Lib.hid (H8.out.on hb9)
  clear hb9 H8
  have HZ := Lib.hid (show Mem (w9.alloc (.cells (pfC zeroP).toArray Tpf)) w9.heap.size Tpf (pfC zeroP) from Mem.new w9 Tpf _)
  have HBZ := Lib.hid (belowSelf w9 (.cells (pfC zeroP).toArray Tpf))
  have HI := Lib.hid (sz_pf pB rfl)
  have HLL := Lib.hid (show (pfC zeroP).length = (pfC pB).length from by rw [len_pfC (p := pB) rfl]; rfl)
  have HON := Lib.hid (one_pfC pB)
  go_wp2_with (first
    | (refine wp_store_gen HBZ.out (Nat.le_refl _) HZ.out (pfC pB) Tpf (.tmp 4) (.tmp 28) rfl rfl rfl HRV.out HI.out HLL.out HON.out ?_
       intro W4 hm4 hb4 hz4 ho4
       have H10 := Lib.hid (H9.out.on hb4)
       clear hm4 hb4 hz4 ho4)
    | fail)
  refine (HUN.out k mb bb _ H10.out).mono ?_
  rintro e _ ⟨rfl, rfl⟩
  go_wp2_with fail
  refine (HSC.out k mb bb _ H10.out).mono ?_
  rintro e _ ⟨rfl, rfl⟩
  go_wp2_with fail
  refine (HMY.out k mb bb _ H10.out).mono ?_
  rintro e w11 ⟨rfl, hb11⟩
  go_wp2_with fail
  go_ret
  exact ⟨rfl, (H10.out.on hb11).bel⟩
end Go.Proofs.YtblfekecmahagaaDoor

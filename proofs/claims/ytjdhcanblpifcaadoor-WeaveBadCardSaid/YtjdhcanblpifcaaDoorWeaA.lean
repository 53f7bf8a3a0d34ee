/-
  Several texts in one: their sentences stand at their heads.
-/
import Derived.Test.YtjdhcanblpifcaaDoorMer1
import Derived.Test.YtjdhcanblpifcaaDoorBld
import Derived.Test.YtjdhcanblpifcaaDoorMer9
import Derived.Test.YtjdhcanblpifcaaDoorMm
/-
  Weaves: the mathematics of Give.
-/
namespace Go.Proofs.YtjdhcanblpifcaaDoor
open Go.RowKit Crv

/-- What is to come: its part, its level (0 a chunk, -1 a node of any). -/
abbrev Stp := Pt × Int
def kindS (s : Stp) : Nat := if s.2 = 0 then 1 else 2
/-- What is to come (the next one first), the bytes that came, how many objects. -/
abbrev WSt := List Stp × List UInt8 × Nat
def giveW (x : WSt) (t : List UInt8) : WSt × Int :=
  match x.1 with
  | [] => (x, 15)
  | s :: rest =>
    if oidOf (kindS s) t ≠ s.1.1 then (x, 3)
    else if s.2 = 0 then (if (t.length : Int) ≠ s.1.2 then (x, 2) else ((rest, x.2.1 ++ t, x.2.2 + 1), 0))
    else if (parseN t).2.2 ≠ 0 then (x, (parseN t).2.2)
    else if (0 < s.2 ∧ (parseN t).1 ≠ s.2) ∨ sumP (parseN t).2.1 ≠ s.1.2 then (x, 2)
    else (((parseN t).2.1.map (fun p => (p, (parseN t).1 - 1)) ++ rest, x.2.1, x.2.2 + 1), 0)
/-- A step that may be. -/
def OkS (s : Stp) : Prop := s.1.1.length = 32 ∧ 0 ≤ s.1.2 ∧ s.1.2 ≤ 32768 ∧ -1 ≤ s.2 ∧ s.2 ≤ 8
def OkW (m : Nat) (x : WSt) : Prop := (∀ s ∈ x.1, OkS s) ∧ x.1.length ≤ 1 + 8 * m ∧ x.2.2 ≤ m
theorem giveW_ok {m : Nat} {x : WSt} (h : OkW m x) (t : List UInt8) : OkW (m + 1) (giveW x t).1 := by
  have hx : OkW (m + 1) x := ⟨h.1, by have := h.2.1; omega, by have := h.2.2; omega⟩
  obtain ⟨left, out, got⟩ := x
  cases left with
  | nil => exact hx
  | cons s rest =>
    unfold giveW
    dsimp only
    split
    · exact hx
    · split
      · split
        · exact hx
        · exact ⟨fun q hq => h.1 q (by simp [hq]), by have := hx.2.1; simp at this ⊢; omega, by have := h.2.2; simp at this ⊢; omega⟩
      · split
        · exact hx
        · rename_i h0
          obtain ⟨h1, h2, h3, h4, h5, h6⟩ := parse_ok t (Decidable.not_not.1 h0)
          obtain ⟨c1, c2, c3, c4, c5, c6⟩ := chkN_zero h2
          split
          · exact hx
          · refine ⟨fun q hq => ?_, ?_, by have := h.2.2; simp at this ⊢; omega⟩
            · rcases List.mem_append.1 hq with hq | hq
              · obtain ⟨p, hp, rfl⟩ := List.mem_map.1 hq
                have := h3 p hp
                exact ⟨this.1, this.2.1, this.2.2, by simp; omega, by simp; omega⟩
              · exact h.1 q (by simp [hq])
            · have := h.2.1
              simp at this ⊢
              omega
theorem giveW_out {x : WSt} (t : List UInt8) : (giveW x t).1.2.1.length ≤ x.2.1.length + t.length := by
  obtain ⟨left, out, got⟩ := x
  cases left with
  | nil => simp [giveW]
  | cons s rest =>
    unfold giveW
    dsimp only
    (repeat' split) <;> simp
end Go.Proofs.YtjdhcanblpifcaaDoor

/-
  Package weave: pending objects in memory.
-/
namespace Go.Proofs.YtjdhcanblpifcaaDoor
open Go.RowKit Crv
abbrev Twt : TypeId := 113
abbrev Tpd : TypeId := 117
abbrev Tspd : TypeId := 118
abbrev Twv : TypeId := 120
/-- A want's cells, a pending object's. -/
def wtC (k : Nat) (p : Pt) : List Value := .int .i64 (k : Int) :: ptC p
def pdC3 (k : Nat) (p : Pt) (l : Int) : List Value := wtC k p ++ [.int .i64 l]
def pdC (s : Stp) : List Value := pdC3 (kindS s) s.1 (max s.2 0)
theorem length_wtC (k : Nat) (p : Pt) (h : p.1.length = 32) : (wtC k p).length = 34 := by simp [wtC, length_ptC p h]
theorem length_pdC3 (k : Nat) (p : Pt) (l : Int) (h : p.1.length = 32) : (pdC3 k p l).length = 35 := by simp [pdC3, length_wtC k p h]
theorem one_wtC (k : Nat) (p : Pt) : ∀ u ∈ wtC k p, u.oneCell' = true := by
  intro u hu
  rcases List.mem_cons.1 hu with rfl | hu
  · rfl
  · exact one_ptC p u hu
theorem one_pdC3 (k : Nat) (p : Pt) (l : Int) : ∀ u ∈ pdC3 k p l, u.oneCell' = true := by
  intro u hu
  rcases List.mem_append.1 hu with hu | hu
  · exact one_wtC k p u hu
  · simp only [List.mem_singleton] at hu; subst hu; rfl
theorem sz_wt (k : Nat) (p : Pt) (h : p.1.length = 32) : (Tryd.prog.info? Twt).map (·.size) = some (wtC k p).length := by rw [length_wtC k p h]; kernel_rfl
theorem sz_pd (k : Nat) (p : Pt) (l : Int) (h : p.1.length = 32) : (Tryd.prog.info? Tpd).map (·.size) = some (pdC3 k p l).length := by rw [length_pdC3 k p l h]; kernel_rfl
abbrev zWt : List Value := .int .i64 0 :: (List.replicate 32 (byteV 0) ++ [.int .i64 0])
abbrev zPd : List Value := .int .i64 0 :: (List.replicate 32 (byteV 0) ++ [.int .i64 0, .int .i64 0])
theorem run_build_wt (k : Nat) (p : Pt) (hx : p.1.length = 32) (W : World) : (Instr.build Twt #[(0, .int .i64 (k : Int)), (1, .agg (ptC p).toArray)]).run Tryd.prog W = .ok (.agg (wtC k p).toArray) W := by
  have hl := length_ptC p hx
  have h := fold_put 1 (ptC p) 0 #[Value.int .i64 (k : Int), Value.int .u8 0, Value.int .u8 0, Value.int .u8 0, Value.int .u8 0, Value.int .u8 0, Value.int .u8 0, Value.int .u8 0, Value.int .u8 0, Value.int .u8 0, Value.int .u8 0, Value.int .u8 0, Value.int .u8 0, Value.int .u8 0, Value.int .u8 0, Value.int .u8 0, Value.int .u8 0, Value.int .u8 0, Value.int .u8 0, Value.int .u8 0, Value.int .u8 0, Value.int .u8 0, Value.int .u8 0, Value.int .u8 0, Value.int .u8 0, Value.int .u8 0, Value.int .u8 0, Value.int .u8 0, Value.int .u8 0, Value.int .u8 0, Value.int .u8 0, Value.int .u8 0, Value.int .u8 0, Value.int .i64 0] (by simp [hl])
  simp only [Nat.add_zero, hl] at h
  rw [show (#[Value.int .i64 (k : Int), Value.int .u8 0, Value.int .u8 0, Value.int .u8 0, Value.int .u8 0, Value.int .u8 0, Value.int .u8 0, Value.int .u8 0, Value.int .u8 0, Value.int .u8 0, Value.int .u8 0, Value.int .u8 0, Value.int .u8 0, Value.int .u8 0, Value.int .u8 0, Value.int .u8 0, Value.int .u8 0, Value.int .u8 0, Value.int .u8 0, Value.int .u8 0, Value.int .u8 0, Value.int .u8 0, Value.int .u8 0, Value.int .u8 0, Value.int .u8 0, Value.int .u8 0, Value.int .u8 0, Value.int .u8 0, Value.int .u8 0, Value.int .u8 0, Value.int .u8 0, Value.int .u8 0, Value.int .u8 0, Value.int .i64 0].toList.take 1 ++ ptC p ++ #[Value.int .i64 (k : Int), Value.int .u8 0, Value.int .u8 0, Value.int .u8 0, Value.int .u8 0, Value.int .u8 0, Value.int .u8 0, Value.int .u8 0, Value.int .u8 0, Value.int .u8 0, Value.int .u8 0, Value.int .u8 0, Value.int .u8 0, Value.int .u8 0, Value.int .u8 0, Value.int .u8 0, Value.int .u8 0, Value.int .u8 0, Value.int .u8 0, Value.int .u8 0, Value.int .u8 0, Value.int .u8 0, Value.int .u8 0, Value.int .u8 0, Value.int .u8 0, Value.int .u8 0, Value.int .u8 0, Value.int .u8 0, Value.int .u8 0, Value.int .u8 0, Value.int .u8 0, Value.int .u8 0, Value.int .u8 0, Value.int .i64 0].toList.drop (1 + 33)).toArray = (wtC k p).toArray from by
    rw [show #[Value.int .i64 (k : Int), Value.int .u8 0, Value.int .u8 0, Value.int .u8 0, Value.int .u8 0, Value.int .u8 0, Value.int .u8 0, Value.int .u8 0, Value.int .u8 0, Value.int .u8 0, Value.int .u8 0, Value.int .u8 0, Value.int .u8 0, Value.int .u8 0, Value.int .u8 0, Value.int .u8 0, Value.int .u8 0, Value.int .u8 0, Value.int .u8 0, Value.int .u8 0, Value.int .u8 0, Value.int .u8 0, Value.int .u8 0, Value.int .u8 0, Value.int .u8 0, Value.int .u8 0, Value.int .u8 0, Value.int .u8 0, Value.int .u8 0, Value.int .u8 0, Value.int .u8 0, Value.int .u8 0, Value.int .u8 0, Value.int .i64 0].toList.drop (1 + 33) = [] from rfl, List.append_nil]; rfl] at h
  simp [go_sem, Instr.build, Instr.fill, hl, h]
theorem fold_pd (k : Nat) (p : Pt) (hx : p.1.length = 32) : List.foldl (fun (cs : Array Value) (x : Value × Nat) => cs.setIfInBounds x.snd x.fst) #[Value.int .i64 0, Value.int .u8 0, Value.int .u8 0, Value.int .u8 0, Value.int .u8 0, Value.int .u8 0, Value.int .u8 0, Value.int .u8 0, Value.int .u8 0, Value.int .u8 0, Value.int .u8 0, Value.int .u8 0, Value.int .u8 0, Value.int .u8 0, Value.int .u8 0, Value.int .u8 0, Value.int .u8 0, Value.int .u8 0, Value.int .u8 0, Value.int .u8 0, Value.int .u8 0, Value.int .u8 0, Value.int .u8 0, Value.int .u8 0, Value.int .u8 0, Value.int .u8 0, Value.int .u8 0, Value.int .u8 0, Value.int .u8 0, Value.int .u8 0, Value.int .u8 0, Value.int .u8 0, Value.int .u8 0, Value.int .i64 0, Value.int .i64 0] (wtC k p).zipIdx = (pdC3 k p 0).toArray := by
  have hl := length_wtC k p hx
  have h := fold_put 0 (wtC k p) 0 #[Value.int .i64 0, Value.int .u8 0, Value.int .u8 0, Value.int .u8 0, Value.int .u8 0, Value.int .u8 0, Value.int .u8 0, Value.int .u8 0, Value.int .u8 0, Value.int .u8 0, Value.int .u8 0, Value.int .u8 0, Value.int .u8 0, Value.int .u8 0, Value.int .u8 0, Value.int .u8 0, Value.int .u8 0, Value.int .u8 0, Value.int .u8 0, Value.int .u8 0, Value.int .u8 0, Value.int .u8 0, Value.int .u8 0, Value.int .u8 0, Value.int .u8 0, Value.int .u8 0, Value.int .u8 0, Value.int .u8 0, Value.int .u8 0, Value.int .u8 0, Value.int .u8 0, Value.int .u8 0, Value.int .u8 0, Value.int .i64 0, Value.int .i64 0] (by simp [hl])
  simp only [Nat.zero_add, hl] at h
  exact h
theorem run_build_pd (k : Nat) (p : Pt) (l : Int) (hx : p.1.length = 32) (W : World) : (Instr.build Tpd #[(0, .agg (wtC k p).toArray), (1, .int .i64 l)]).run Tryd.prog W = .ok (.agg (pdC3 k p l).toArray) W := by
  have hl := length_wtC k p hx
  have h2 : ((pdC3 k p 0).toArray.setIfInBounds 34 (.int .i64 l)) = (pdC3 k p l).toArray := by
    simp [pdC3, List.set_append_right, hl]
  have h3 : (pdC3 k p 0).toArray.size = 35 := by simp [length_pdC3 k p 0 hx]
  simp [go_sem, Instr.build, Instr.fill, hl, fold_pd k p hx, h2, h3]
theorem run_build_pd1 (k : Nat) (p : Pt) (hx : p.1.length = 32) (W : World) : (Instr.build Tpd #[(0, .agg (wtC k p).toArray)]).run Tryd.prog W = .ok (.agg (pdC3 k p 0).toArray) W := by
  have hl := length_wtC k p hx
  simp [go_sem, Instr.build, Instr.fill, hl, fold_pd k p hx]
theorem run_bslice_pd (k : Nat) (p : Pt) (l : Int) (hx : p.1.length = 32) (W : World) : (Instr.buildSlice Tspd 1 #[(0, .agg (pdC3 k p l).toArray)]).run Tryd.prog W = .ok (.slice (some ⟨W.heap.size, 0, none⟩) 1 1) (W.alloc (.cells (pdC3 k p l).toArray Tpd)) := by
  have hl := length_pdC3 k p l hx
  have h := fold_put 0 (pdC3 k p l) 0 #[Value.int .i64 0, Value.int .u8 0, Value.int .u8 0, Value.int .u8 0, Value.int .u8 0, Value.int .u8 0, Value.int .u8 0, Value.int .u8 0, Value.int .u8 0, Value.int .u8 0, Value.int .u8 0, Value.int .u8 0, Value.int .u8 0, Value.int .u8 0, Value.int .u8 0, Value.int .u8 0, Value.int .u8 0, Value.int .u8 0, Value.int .u8 0, Value.int .u8 0, Value.int .u8 0, Value.int .u8 0, Value.int .u8 0, Value.int .u8 0, Value.int .u8 0, Value.int .u8 0, Value.int .u8 0, Value.int .u8 0, Value.int .u8 0, Value.int .u8 0, Value.int .u8 0, Value.int .u8 0, Value.int .u8 0, Value.int .i64 0, Value.int .i64 0] (by simp [hl])
  simp only [Nat.zero_add, hl, List.take_zero, List.nil_append] at h
  have h0 : (#[Value.int .i64 0, Value.int .u8 0, Value.int .u8 0, Value.int .u8 0, Value.int .u8 0, Value.int .u8 0, Value.int .u8 0, Value.int .u8 0, Value.int .u8 0, Value.int .u8 0, Value.int .u8 0, Value.int .u8 0, Value.int .u8 0, Value.int .u8 0, Value.int .u8 0, Value.int .u8 0, Value.int .u8 0, Value.int .u8 0, Value.int .u8 0, Value.int .u8 0, Value.int .u8 0, Value.int .u8 0, Value.int .u8 0, Value.int .u8 0, Value.int .u8 0, Value.int .u8 0, Value.int .u8 0, Value.int .u8 0, Value.int .u8 0, Value.int .u8 0, Value.int .u8 0, Value.int .u8 0, Value.int .u8 0, Value.int .i64 0, Value.int .i64 0].toList.drop 35) = [] := rfl
  rw [h0, List.append_nil] at h
  simp [go_sem, Instr.buildSlice, Instr.fill, hl, h]
theorem wp_build1 {P : Program} {ops : Array Oper} {rest : List Oper} {o : Oper} {a : Act} {w : World} {Q : Exit → Act → World → Prop} {ty : TypeId} {x : Operand} {u r : Value} (hr : (Instr.build ty #[(0, u)]).run P w = .ok r w) (hgd : o.guard = none) (ho : o.op = .build ty #[(0, x)]) (hx : a.eval x = u)
    (h : wpList P ops Q rest (a.put o.dst r) w) : wpList P ops Q (o :: rest) a w := by
  refine wpList_plain hgd fun K hK => ?_
  unfold Oper.wp execOp
  simp only [ho, List.map_toArray, List.map_cons, List.map_nil, hx, hr, Sem.run_bind, Sem.run_pure, Result.andThen_ok]
  exact hK _ _ h
/-- A weave in memory: its pointer's block, where its rows may lie, its rows, what it stands for. -/
def Wv (W : World) (wb base : Nat) (vp vt : Value) (x : WSt) : Prop := Mem W wb Twv [vp, .int .i64 (x.2.2 : Int), vt] ∧ base ≤ wb ∧ Rw W base Tpd 35 vp (x.1.reverse.map pdC) ∧ Owns W base 5 vt (x.2.1.map byteV)
end Go.Proofs.YtjdhcanblpifcaaDoor

/-
  Package weave: New, Over, Got, below.
-/
namespace Go.Proofs.YtjdhcanblpifcaaDoor
open Go.RowKit Crv
theorem Wv.form {W : World} {wb base : Nat} {vp vt : Value} {x : WSt} (h : Wv W wb base vp vt x) : ∃ a cap, vp = .slice a x.1.length cap ∧ x.1.length ≤ cap := by
  obtain ⟨a, cap, hv, hc, -⟩ := h.2.2.1.rd
  rw [List.length_map, List.length_reverse] at hv hc
  exact ⟨a, cap, hv, hc⟩
theorem Wv.formt {W : World} {wb base : Nat} {vp vt : Value} {x : WSt} (h : Wv W wb base vp vt x) : ∃ a cap, vt = .slice a x.2.1.length cap := by
  obtain ⟨a, cap, hv, -⟩ := h.2.2.2.form
  rw [List.length_map] at hv
  exact ⟨a, cap, hv⟩
theorem Wv.below {W W' : World} {wb base : Nat} {vp vt : Value} {x : WSt} (h : Wv W wb base vp vt x) (hb : Below W.heap.size W W') : Wv W' wb base vp vt x := ⟨h.1.below hb h.1.lt, h.2.1, h.2.2.1.below hb, h.2.2.2.below hb⟩
set_option maxRecDepth 100000 in
set_option maxHeartbeats 400000 in
theorem over_any (W : World) (wb base : Nat) (vp vt : Value) (x : WSt) (h : Wv W wb base vp vt x) :
    Calls Tryd.prog 29 #[ptr wb] W fun e w' => e = .returned (.bool (x.1.length == 0)) ∧ W = w' := by
  obtain ⟨a, cap, rfl, -⟩ := h.form
  have c0 : W.cell? ⟨wb, 0, none⟩ = some (.slice a x.1.length cap) := h.1.cell 0
  have hd : ((x.1.length : Int) == 0) = (x.1.length == 0) := by
    rw [Bool.eq_iff_iff]; simp
  clear h
  go_enter Tryd.func29, Tryd.ntmps29
  go_wp2_with fail
  go_ret
  exact ⟨by first | rfl | (rw [hd]), rfl⟩
theorem Rw.one {base : Nat} (w : World) (e : TypeId) (m : Nat) (x : List Value) (hx : x.length = m) (hb : base ≤ w.heap.size) : Rw (w.alloc (.cells x.toArray e)) base e m (.slice (some ⟨w.heap.size, 0, none⟩) 1 1) [x] := by
  refine ⟨by simpa using hx, by simp [hx], .inr ⟨w.heap.size, 1, x.toArray, rfl, hb, Mem.new w e x, Nat.le_refl _, by simp [maxLen], by simp [hx], ?_⟩⟩
  simp only [List.length_singleton, Nat.one_mul, List.flatten_cons, List.flatten_nil, List.append_nil]
  exact List.take_of_length_le (by omega)
/-- The last element taken off. -/
theorem Rw.cut {w : World} {base : Nat} {e : TypeId} {m : Nat} {a : Option Addr} {n cap : Nat} {xs : List (List Value)} {x : List Value} (h : Rw w base e m (.slice a n cap) (xs ++ [x])) : Rw w base e m (.slice a xs.length cap) xs := by
  obtain ⟨h1, h2, h3⟩ := h
  have hx : ∀ y ∈ xs, y.length = m := fun y hy => h1 y (by simp [hy])
  have hfl := length_flat hx
  refine ⟨hx, hfl, ?_⟩
  rcases h3 with ⟨_, h0⟩ | ⟨g, cp, cur, hv, hb, hm, hn, hc, hs, ht⟩
  · simp at h0
  · injection hv with hv1 hv2 hv3
    subst hv1 hv3
    rw [List.length_append, List.length_singleton] at hn ht
    refine .inr ⟨g, cap, cur, rfl, hb, hm, by omega, hc, hs, ?_⟩
    rw [List.flatten_append] at ht
    have h4 := congrArg (List.take (xs.length * m)) ht
    rw [List.take_take, Nat.min_eq_left (Nat.mul_le_mul_right _ (Nat.le_succ _))] at h4
    rw [h4, List.take_append_of_le_length (by omega)]
    exact List.take_of_length_le (by omega)
set_option maxRecDepth 100000 in
set_option maxHeartbeats 400000 in
theorem wnew_any (p : Pt) (hp : p.1.length = 32) (w : World) :
    Calls Tryd.prog 21 #[.agg (ptC p).toArray] w fun e w' => ∃ wb vp, e = .returned (ptr wb) ∧ Wv w' wb w.heap.size vp (.slice none 0 0) ([(p, -1)], [], 0) ∧ Below w.heap.size w w' := by
  have SZP := Lib.hid (sz_pt p hp)
  have SZD := Lib.hid (sz_pd 2 p 0 hp)
  have HBW := Lib.hid (fun W => run_build_wt 2 p hp W)
  have HBP := Lib.hid (fun W => run_build_pd 2 p 0 hp W)
  have HBS := Lib.hid (fun W => run_bslice_pd 2 p 0 hp W)
  have ONE := Lib.hid (one_pdC3 2 p 0)
  have HLN := Lib.hid (show zPd.length = (pdC3 2 p 0).length by rw [length_pdC3 2 p 0 hp]; rfl)
  have HL := Lib.hid (length_pdC3 2 p 0 hp)
  have HM1 := Lib.hid (Mem.new w Tpt (ptC p))
  go_enter Tryd.func21, Tryd.ntmps21
  go_wp2_with (first
    | (refine wp_load_mem HM1.out Tpt (.tmp 1) _ rfl rfl rfl Tryd.underlying43 rfl SZP.out ?_)
    | (refine wp_build2 (HBW.out _) rfl rfl rfl rfl ?_)
    | (refine wp_build2 (HBP.out _) rfl rfl rfl rfl ?_)
    | (refine wp_store_gen (B := (w.alloc (.cells (ptC p).toArray Tpt)).heap.size) (w0 := w.alloc (.cells (ptC p).toArray Tpt)) (belowSelf _ _) (by simp) (Mem.newAt (w.alloc (.cells (ptC p).toArray Tpt)) Tpd zPd (g := w.heap.size + 1) (by simp)) (pdC3 2 p 0) Tpd (.tmp 3) (.tmp 6) rfl rfl rfl rfl SZD.out HLN.out ONE.out ?_
       intro W2 hm2 hb2 hz2 hk2
       have HM2 := Lib.hid hm2
       have HB2 := Lib.hid (belowThen (belowSelf w _) hb2)
       clear hm2 hb2 hz2 hk2)
    | (refine wp_load_mem HM2.out Tpd (.tmp 3) _ rfl rfl rfl Tryd.underlying117 rfl SZD.out ?_)
    | (refine wp_bslice1 (HBS.out _) rfl rfl rfl ?_)
    | fail)
  go_ret
  have hz : w.heap.size ≤ W2.heap.size := HB2.out.size
  refine ⟨W2.heap.size + 1, .slice (some ⟨W2.heap.size, 0, none⟩) 1 1, rfl, ⟨?_, by omega, ?_, ?_⟩, belowThen (belowThen HB2.out (belowSelf _ _)) (belowSelf _ _)⟩
  · exact Mem.newAt _ Twv [.slice (some ⟨W2.heap.size, 0, none⟩) 1 1, .int .i64 0, .slice none 0 0] (by simp)
  · have h1 : Rw (W2.alloc (.cells (pdC3 2 p 0).toArray Tpd)) w.heap.size Tpd 35 (.slice (some ⟨W2.heap.size, 0, none⟩) 1 1) [pdC3 2 p 0] := Rw.one W2 Tpd 35 _ HL.out hz
    exact h1.below (belowSelf _ _)
  · exact Owns.nil _ _ _
set_option maxRecDepth 100000 in
set_option maxHeartbeats 400000 in
theorem below_any (lv : Nat) (h1 : 1 ≤ lv) (h8 : lv ≤ 8) (p : Pt) (hp : p.1.length = 32) (w : World) :
    Calls Tryd.prog 74 #[.int .i64 (lv : Int), .agg (ptC p).toArray] w fun e w' => e = .returned (.agg (pdC (p, (lv : Int) - 1)).toArray) ∧ Below w.heap.size w w' := by
  have SZP := Lib.hid (sz_pt p hp)
  have HM1 := Lib.hid ((Mem.new w Tpt (ptC p)).alloc (.cells zPd.toArray Tpd))
  by_cases h : lv = 1
  · have hd : ((lv : Int) == 1) = true := by rw [h]; rfl
    have HE := Lib.hid (show pdC (p, (lv : Int) - 1) = pdC3 1 p 0 by rw [h]; rfl)
    have SZD := Lib.hid (sz_pd 1 p 0 hp)
    have HBW := Lib.hid (fun W => run_build_wt 1 p hp W)
    have HBP := Lib.hid (fun W => run_build_pd1 1 p hp W)
    have ONE := Lib.hid (one_pdC3 1 p 0)
    have HLN := Lib.hid (show zPd.length = (pdC3 1 p 0).length by rw [length_pdC3 1 p 0 hp]; rfl)
    rw [HE.out]
    clear h HE
    go_enter Tryd.func74, Tryd.ntmps74
    go_wp2_with (first
      | (refine wp_load_mem HM1.out Tpt (.tmp 3) _ rfl rfl rfl Tryd.underlying43 rfl SZP.out ?_)
      | (refine wp_build2 (HBW.out _) rfl rfl rfl rfl ?_)
      | (refine wp_build1 (HBP.out _) rfl rfl rfl ?_)
      | (refine wp_store_gen (B := (w.alloc (.cells (ptC p).toArray Tpt)).heap.size) (w0 := w.alloc (.cells (ptC p).toArray Tpt)) (belowSelf _ _) (by simp) (Mem.newAt (w.alloc (.cells (ptC p).toArray Tpt)) Tpd zPd (g := w.heap.size + 1) (by simp)) (pdC3 1 p 0) Tpd (.tmp 4) (.tmp 9) rfl rfl rfl rfl SZD.out HLN.out ONE.out ?_
         intro W2 hm2 hb2 hz2 hk2
         have HM2 := Lib.hid hm2
         have HB2 := Lib.hid (belowThen (belowSelf w _) hb2)
         clear hm2 hb2 hz2 hk2)
      | fail)
    exact bodyPost_ret (results_mem HM2.out rfl _ _ rfl Tryd.underlying117 rfl SZD.out) rfl ⟨rfl, HB2.out⟩
  · have hd : ((lv : Int) == 1) = false := by rw [beq_eq_false_iff_ne]; omega
    have HE := Lib.hid (show pdC (p, (lv : Int) - 1) = pdC3 2 p ((lv : Int) - 1) by
      unfold pdC kindS
      simp only
      rw [if_neg (by omega), show max ((lv : Int) - 1) 0 = (lv : Int) - 1 from by omega])
    have SZD := Lib.hid (sz_pd 2 p ((lv : Int) - 1) hp)
    have HBW := Lib.hid (fun W => run_build_wt 2 p hp W)
    have HBP := Lib.hid (fun W => run_build_pd 2 p ((lv : Int) - 1) hp W)
    have ONE := Lib.hid (one_pdC3 2 p ((lv : Int) - 1))
    have HLN := Lib.hid (show zPd.length = (pdC3 2 p ((lv : Int) - 1)).length by rw [length_pdC3 2 p _ hp]; rfl)
    rw [HE.out]
    clear h HE
    go_enter Tryd.func74, Tryd.ntmps74
    go_wp2_with (first
      | (refine wp_load_mem HM1.out Tpt (.tmp 3) _ rfl rfl rfl Tryd.underlying43 rfl SZP.out ?_)
      | (refine wp_build2 (HBW.out _) rfl rfl rfl rfl ?_)
      | (refine wp_build2 (HBP.out _) rfl rfl rfl rfl ?_)
      | (refine wp_store_gen (B := (w.alloc (.cells (ptC p).toArray Tpt)).heap.size) (w0 := w.alloc (.cells (ptC p).toArray Tpt)) (belowSelf _ _) (by simp) (Mem.newAt (w.alloc (.cells (ptC p).toArray Tpt)) Tpd zPd (g := w.heap.size + 1) (by simp)) (pdC3 2 p ((lv : Int) - 1)) Tpd (.tmp 4) (.tmp 14) rfl rfl rfl rfl SZD.out HLN.out ONE.out ?_
         intro W2 hm2 hb2 hz2 hk2
         have HM2 := Lib.hid hm2
         have HB2 := Lib.hid (belowThen (belowSelf w _) hb2)
         clear hm2 hb2 hz2 hk2)
      | fail)
    exact bodyPost_ret (results_mem HM2.out rfl _ _ rfl Tryd.underlying117 rfl SZD.out) rfl ⟨rfl, HB2.out⟩
set_option maxRecDepth 100000 in
set_option maxHeartbeats 400000 in
theorem got_any (W : World) (wb base : Nat) (vp vt : Value) (x : WSt) (h : Wv W wb base vp vt x) :
    Calls Tryd.prog 28 #[ptr wb] W fun e w' => e = .returned (.tuple #[.int .i64 (x.2.2 : Int), .int .i64 (x.2.1.length : Int)]) ∧ Below W.heap.size W w' := by
  obtain ⟨a, cap, rfl⟩ := h.formt
  have c1 : W.cell? ⟨wb, 1, none⟩ = some (.int .i64 (x.2.2 : Int)) := h.1.cell 1
  have c2 : W.cell? ⟨wb, 2, none⟩ = some (.slice a x.2.1.length cap) := h.1.cell 2
  clear h
  go_enter Tryd.func28, Tryd.ntmps28
  go_wp2_with fail
  go_region_held3 (fun w' => w'.cell? ⟨wb, 1, none⟩ = some (.int .i64 (x.2.2 : Int)) ∧ w'.cell? ⟨wb, 2, none⟩ = some (.slice a x.2.1.length cap)) (exact ⟨c1, c2⟩) (fail)
  rename_i Kz hKz hHe
  refine hKz _ _ ?_
  go_wp2_with fail
  ((try simp only [Exit.inBlock, Exit.then]); refine bodyPost_ret (results_tmp2 rfl _ _ _) rfl ?_)
  exact ⟨rfl, below_drewN (Below.refl _ _) 1⟩
end Go.Proofs.YtjdhcanblpifcaaDoor

/-
  Package weave: arrive, giveChunk.
-/
namespace Go.Proofs.YtjdhcanblpifcaaDoor
open Go.RowKit Crv
theorem sl_cut (g n cap : Nat) (hn : n + 1 ≤ cap) (W : World) : (Instr.slice Tspd (.slice (some ⟨g, 0, none⟩) (n + 1) cap) none (some (.int .i64 (n : Int))) none).run Tryd.prog W = .ok (.slice (some ⟨g, 0, none⟩) n cap) W := by
  have hsz : (sizeOf (Tryd.prog.elem Tspd)).run Tryd.prog W = .ok 35 W := by kernel_rfl
  have hel : Tryd.prog.underlying Tspd = some (.slice (Tryd.prog.elem Tspd)) := by kernel_rfl
  have hne : ¬ cap = 0 := by omega
  rw [run_slice_h (P := Tryd.prog) W Tspd (some ⟨g, 0, none⟩) (n + 1) cap hel .i64 (n : Int) (by omega) (by omega), hsz]
  simp [Result.andThen, sliced, hne, addr_add]
theorem Wv.text_ne {W : World} {wb base : Nat} {vp vt : Value} {x : WSt} (h : Wv W wb base vp vt x) : ∀ b, vt.ownBlock = some b → b ≠ wb := by
  intro b hb e
  subst e
  rcases h.2.2.2.2 with ⟨hv, _⟩ | ⟨g, cap, cur, hv, _, hm, _⟩
  · rw [hv] at hb; cases hb
  · rw [hv] at hb
    injection hb with hb
    subst hb
    rw [show W.heap[g]? = some (Obj.cells _ Twv (0, 0)) from h.1] at hm
    injection hm with hm
    injection hm with _ hm
    exact absurd hm (by decide)
theorem Wv.cons {W : World} {wb base : Nat} {vp vt : Value} {s : Stp} {rest : List Stp} {out : List UInt8} {got : Nat} (h : Wv W wb base vp vt (s :: rest, out, got)) : ∃ g cap, vp = .slice (some ⟨g, 0, none⟩) (rest.length + 1) cap ∧ rest.length + 1 ≤ cap ∧ g < W.heap.size ∧ base ≤ g ∧ g ≠ wb ∧ W.rangeAt g (rest.length * 35) (pdC s) ∧ Rw W base Tpd 35 (.slice (some ⟨g, 0, none⟩) rest.length cap) (rest.reverse.map pdC) := by
  obtain ⟨g, cap, rfl, hc, -⟩ := h.2.2.1.front (by simp)
  have h1 := h.2.2.1
  rw [List.length_map, List.length_reverse] at h1 hc
  have hr := h1.rd
  simp only [List.reverse_cons, List.map_append, List.map_cons, List.map_nil, List.length_cons] at h1 hr hc
  obtain ⟨a, cp, hv, -, hrd⟩ := hr
  obtain ⟨g', off, ha, hlt, hrn⟩ := hrd rest.length (by simp)
  injection hv with hv _ _
  rw [← hv] at ha
  injection ha with ha
  injection ha with ha1 ha2
  subst ha1 ha2
  rw [List.getElem_append_right (by simp)] at hrn
  simp only [List.length_map, List.length_reverse, Nat.sub_self, List.getElem_singleton, Nat.zero_add] at hrn
  have hc2 := h1.cut
  rw [List.length_map, List.length_reverse] at hc2
  have hl := h1.lt g rfl
  refine ⟨g, cap, by simp, hc, hl.1, hl.2, ?_, hrn, hc2⟩
  intro e
  obtain ⟨cs, ht⟩ := h1.tag g rfl
  have hm := h.1
  rw [e] at ht
  rw [show W.heap[wb]? = some (Obj.cells _ Twv (0, 0)) from hm] at ht
  injection ht with ht
  injection ht with _ ht
  exact absurd ht (by decide)
set_option maxRecDepth 100000 in
set_option maxHeartbeats 400000 in
theorem arrive_any (W : World) (wb base g cap : Nat) (vt : Value) (s : Stp) (rest : List Stp) (out : List UInt8) (got : Nat) (hgot : got ≤ 1000000) (hl : rest.length ≤ 1000000) (h : Wv W wb base (.slice (some ⟨g, 0, none⟩) (rest.length + 1) cap) vt (s :: rest, out, got)) :
    Calls Tryd.prog 72 #[ptr wb] W fun e w' => e = .returned (.tuple #[]) ∧ Wv w' wb base (.slice (some ⟨g, 0, none⟩) rest.length cap) vt (rest, out, got + 1) ∧ W.grownBy w' (some wb) := by
  obtain ⟨g', cap', hv, hcap, hgl, hgb, hgw, -, hrow⟩ := h.cons
  injection hv with hv1 hv2 hv3
  injection hv1 with hv1
  injection hv1 with hv1
  subst hv1 hv3
  have c0 : W.cell? ⟨wb, 0, none⟩ = some (.slice (some ⟨g, 0, none⟩) (rest.length + 1) cap) := h.1.cell 0
  have c1 : W.cell? ⟨wb, 1, none⟩ = some (.int .i64 (got : Int)) := h.1.cell 1
  have f0 := Mem.frozen h.1 0
  have f1 := Mem.frozen h.1 1
  have hsl := fun W => sl_cut g rest.length cap hcap W
  have HR := Lib.hid (show Wv ((W.setCell ⟨wb, 0, none⟩ (.slice (some ⟨g, 0, none⟩) rest.length cap)).setCell ⟨wb, 1, none⟩ (.int .i64 ((got : Int) + 1))).drew wb base (.slice (some ⟨g, 0, none⟩) rest.length cap) vt (rest, out, got + 1) by
    refine ⟨?_, h.2.1, ?_, ?_⟩
    · have := ((Mem.set h.1 0 (.slice (some ⟨g, 0, none⟩) rest.length cap)).set 1 (.int .i64 ((got : Int) + 1))).drew
      simpa using this
    · refine hrow.of_block fun b hb => ?_
      have : b = g := by injection hb with hb; exact hb.symm
      subst this
      show ((W.setCell _ _).setCell _ _).heap[b]? = _
      rw [heap_set_ne (by simpa using hgw), heap_set_ne (by simpa using hgw)]
    · refine h.2.2.2.of_below fun b hb => ?_
      have hne : b ≠ wb := h.text_ne b hb
      show ((W.setCell _ _).setCell _ _).heap[b]? = _
      rw [heap_set_ne (by simpa using hne), heap_set_ne (by simpa using hne)])
  have hwr : IntKind.i64.wrap (rest.length : Int) = (rest.length : Int) := IntWalk.i64_in _ (by omega)
  have HG := Lib.hid (grown_drew (grown_cell (grown_cell (grownRefl W (some wb)) 0 (.slice (some ⟨g, 0, none⟩) rest.length cap)) 1 (.int .i64 ((got : Int) + 1))))
  clear h hrow hgl hgb hgw hv2
  go_enter Tryd.func72, Tryd.ntmps72
  go_wp2_with fail
  refine wp_region_still_tail 12 (by kernel_rfl) (by kernel_rfl) ?_
  simp only [List.take_succ_cons, List.take_zero, List.drop_succ_cons, List.drop_zero]
  repeat still_step
  refine wpStill_nil ?_
  change wpList _ _ _ _ _ W.drew
  go_wp2
  go_end0
  exact ⟨rfl, HR.out, HG.out⟩
end Go.Proofs.YtjdhcanblpifcaaDoor

/-
  Package weave: what its calls leave alone; giveChunk.
-/
namespace Go.Proofs.YtjdhcanblpifcaaDoor
open Go.RowKit Crv
/-- What a call on a weave leaves alone: all below base, and of the blocks that there were all but the weave's own. -/
structure Fr (base wb : Nat) (vp vt : Value) (W W' : World) : Prop where
  bel : Below base W W'
  keep : ∀ b, b < W.heap.size → b ≠ wb → vp.ownBlock ≠ some b → vt.ownBlock ≠ some b → W'.heap[b]? = W.heap[b]?
theorem Fr.of_below {base wb : Nat} {vp vt : Value} {W W' : World} (hs : base ≤ W.heap.size) (hb : Below W.heap.size W W') : Fr base wb vp vt W W' := ⟨hb.mono hs, fun b h _ _ _ => hb.block b h⟩
theorem Fr.below {base wb : Nat} {vp vt : Value} {W W1 W2 : World} (h : Fr base wb vp vt W W1) (hs : base ≤ W.heap.size) (hb : Below W1.heap.size W1 W2) : Fr base wb vp vt W W2 :=
  ⟨h.bel.trans (hb.mono (Nat.le_trans hs h.bel.size)), fun b hl h1 h2 h3 => (hb.block b (Nat.lt_of_lt_of_le hl h.bel.size)).trans (h.keep b hl h1 h2 h3)⟩
theorem Fr.grown {base wb : Nat} {vp vt : Value} {W W1 W2 : World} {row : Option Nat} (h : Fr base wb vp vt W W1) (hs : base ≤ W.heap.size) (hg : W1.grownBy W2 row) (hr : ∀ r, row = some r → base ≤ r ∧ (r = wb ∨ vp.ownBlock = some r ∨ vt.ownBlock = some r ∨ W.heap.size ≤ r)) : Fr base wb vp vt W W2 := by
  have hz := h.bel.size
  refine ⟨h.bel.trans ⟨hg.os, hg.tape, hg.output, hg.size, fun k hk => hg.block k (by omega) (fun e => by have := (hr k e.symm).1; omega)⟩, fun b hl h1 h2 h3 => ?_⟩
  refine (hg.block b (by omega) (fun e => ?_)).trans (h.keep b hl h1 h2 h3)
  rcases (hr b e.symm).2 with h | h | h | h
  · exact h1 h
  · exact h2 h
  · exact h3 h
  · omega
theorem wp_append_strG {P : Program} {ops : Array Oper} {rest : List Oper} {o : Oper} {a : Act} {w : World} {Q : Exit → Act → World → Prop} {base : Nat} {e : TypeId} {v : Value} {xs : List Value} (hown : Owns w base e v xs)
    (l : List UInt8) (s x : Operand) (t u : TypeId) (i : TypeInfo) (hgd : o.guard = none) (ho : o.op = .call { callee := .builtin .append, args := #[s, x], argTypes := #[t, u] })
    (ht : P.underlying t = some (.slice e)) (hu : P.underlying u = some .string) (hi : P.info? e = some i) (hz : i.zero = some (.int .u8 0)) (hsize : i.size = 1) (hby : i.bytes = 1)
    (hs : a.eval s = v) (hx : a.eval x = .string (str l)) (hlen : xs.length + l.length ≤ 140737488355328) (hbase : base ≤ w.heap.size)
    (h : ∀ v' w', Owns w' base e v' (xs ++ l.map byteV) → w.grownBy w' v.ownBlock → wpList P ops Q rest (a.put o.dst v') w') : wpList P ops Q (o :: rest) a w := by
  refine Lib.wpList_append_own_string (P := P) w hgd s x t u ho base e i ht hu hi hz hsize hby v xs.length xs hs hown (str l) hx (by simp only [maxLen, size_str]; omega) (by simp only [size_str]; omega) hbase ?_
  intro v' w' ho' hg _
  refine h v' w' ?_ hg
  unfold Owns
  rw [List.length_append, List.length_map]
  exact ho'
theorem Wv.row_ne {W : World} {wb base : Nat} {vp vt : Value} {x : WSt} (h : Wv W wb base vp vt x) : ∀ b, vp.ownBlock = some b → b ≠ wb ∧ vt.ownBlock ≠ some b := by
  intro b hb
  obtain ⟨cs, ht⟩ := h.2.2.1.tag b hb
  refine ⟨fun e => ?_, fun e => ?_⟩
  · subst e
    rw [show W.heap[b]? = some (Obj.cells _ Twv (0, 0)) from h.1] at ht
    injection ht with ht
    injection ht with _ ht
    exact absurd ht (by decide)
  · rcases h.2.2.2.2 with ⟨hv, _⟩ | ⟨g, cap, cur, hv, _, hm, _⟩
    · rw [hv] at e; cases e
    · rw [hv] at e
      injection e with e
      subst e
      rw [ht] at hm
      injection hm with hm
      injection hm with _ hm
      exact absurd hm (by decide)
theorem own_mem_ne {W : World} {wb base : Nat} {v : Value} {xs cs : List Value} (hm : Mem W wb Twv cs) (h : Owns W base 5 v xs) : ∀ b, v.ownBlock = some b → b ≠ wb := by
  intro b hb e
  subst e
  rcases h.2 with ⟨hv, _⟩ | ⟨g, cap, cur, hv, _, hm', _⟩
  · rw [hv] at hb; cases hb
  · rw [hv] at hb
    injection hb with hb
    subst hb
    rw [show W.heap[g]? = some (Obj.cells _ Twv (0, 0)) from hm] at hm'
    injection hm' with hm'
    injection hm' with _ hm'
    exact absurd hm' (by decide)
theorem pd_level (s : Stp) : (pdC s).length = s.1.1.length + 3 := by simp [pdC, pdC3, wtC, ptC]
theorem pd_size (s : Stp) (h : s.1.1.length = 32) : (pdC s)[33]? = some (.int .i64 s.1.2) := by simp [pdC, pdC3, wtC, ptC, h]
set_option maxRecDepth 100000 in
set_option maxHeartbeats 400000 in
theorem giveChunk_bad (W : World) (wb base g cap : Nat) (vt : Value) (s : Stp) (rest : List Stp) (out : List UInt8) (got : Nat) (t : List UInt8) (h32 : s.1.1.length = 32) (hbs : base ≤ W.heap.size) (h : Wv W wb base (.slice (some ⟨g, 0, none⟩) (rest.length + 1) cap) vt (s :: rest, out, got)) (he : (t.length : Int) ≠ s.1.2) :
    Calls Tryd.prog 52 #[ptr wb, .agg (pdC s).toArray, .string (str t)] W fun e w' => e = .returned (.int .i64 2) ∧ Wv w' wb base (.slice (some ⟨g, 0, none⟩) (rest.length + 1) cap) vt (s :: rest, out, got) ∧ Fr base wb (.slice (some ⟨g, 0, none⟩) (rest.length + 1) cap) vt W w' := by
  have HM := Lib.hid (Mem.new W Tpd (pdC s))
  have c33 : (W.alloc (.cells (pdC s).toArray Tpd)).cell? ⟨W.heap.size, 33, none⟩ = some (.int .i64 s.1.2) := (HM.out.cell 33).trans (pd_size s h32)
  have HW := Lib.hid h
  obtain ⟨p, lv⟩ := s
  obtain ⟨x, z⟩ := p
  simp only at c33 h32 HM he ⊢
  obtain ⟨P0, hP0⟩ : ∃ c, c = pdC ((x, z), lv) := ⟨_, rfl⟩
  rw [← hP0] at c33 HM ⊢
  clear hP0 h
  have hd : ((t.length : Int) != z) = true := by simpa using he
  go_enter Tryd.func52, Tryd.ntmps52
  go_wp2_with fail
  go_ret
  exact ⟨rfl, HW.out.below (belowSelf _ _), Fr.of_below hbs (belowSelf W _)⟩
set_option maxRecDepth 100000 in
set_option maxHeartbeats 400000 in
theorem giveChunk_ok (W : World) (wb base g cap : Nat) (vt : Value) (s : Stp) (rest : List Stp) (out : List UInt8) (got : Nat) (t : List UInt8) (hgot : got ≤ 1000000) (hl : rest.length ≤ 1000000) (hol : out.length ≤ 1000000000) (htl : t.length ≤ 1000000) (h32 : s.1.1.length = 32) (hbs : base ≤ W.heap.size) (h : Wv W wb base (.slice (some ⟨g, 0, none⟩) (rest.length + 1) cap) vt (s :: rest, out, got)) (he : (t.length : Int) = s.1.2) :
    Calls Tryd.prog 52 #[ptr wb, .agg (pdC s).toArray, .string (str t)] W fun e w' => e = .returned (.int .i64 0) ∧ ∃ vt', Wv w' wb base (.slice (some ⟨g, 0, none⟩) rest.length cap) vt' (rest, out ++ t, got + 1) ∧ Fr base wb (.slice (some ⟨g, 0, none⟩) (rest.length + 1) cap) vt W w' := by
  have HM := Lib.hid (Mem.new W Tpd (pdC s))
  have c33 : (W.alloc (.cells (pdC s).toArray Tpd)).cell? ⟨W.heap.size, 33, none⟩ = some (.int .i64 s.1.2) := (HM.out.cell 33).trans (pd_size s h32)
  have HW := Lib.hid h
  obtain ⟨p, lv⟩ := s
  obtain ⟨x, z⟩ := p
  simp only at c33 h32 HM he ⊢
  obtain ⟨P0, hP0⟩ : ∃ c, c = pdC ((x, z), lv) := ⟨_, rfl⟩
  rw [← hP0] at c33 HM ⊢
  clear hP0 h
  have hd : ((t.length : Int) != z) = false := by simpa using he
  have HW1 := Lib.hid (HW.out.below (belowSelf W (.cells P0.toArray Tpd)))
  have HAR := Lib.hid (arrive_any _ wb base g cap vt _ rest out got hgot hl HW1.out)
  have hz : base ≤ W.heap.size := hbs
  obtain ⟨iu, hiu, hiz, his, hib⟩ : ∃ i, Tryd.prog.info? 5 = some i ∧ i.zero = some (.int .u8 0) ∧ i.size = 1 ∧ i.bytes = 1 := info_of (by kernel_rfl)
  have HIU := Lib.hid hiu
  have HIZ := Lib.hid hiz
  have HIS := Lib.hid his
  have HIB := Lib.hid hib
  have HLE := Lib.hid (show (out.map byteV).length + t.length ≤ 140737488355328 by rw [List.length_map]; omega)
  clear hiu hiz his hib he
  go_enter Tryd.func52, Tryd.ntmps52
  go_wp2_with fail
  refine HAR.out.mono ?_
  rintro e w2 ⟨rfl, hw2, hg2⟩
  have HW2 := Lib.hid hw2
  have HF2 := Lib.hid (show Fr base wb (.slice (some ⟨g, 0, none⟩) (rest.length + 1) cap) vt W w2 from (Fr.of_below hbs (belowSelf W _)).grown hbs hg2 (fun r hr => by injection hr with hr; subst hr; exact ⟨hw2.2.1, .inl rfl⟩))
  obtain ⟨at', ct, hvt⟩ := hw2.formt
  have c2 : w2.cell? ⟨wb, 2, none⟩ = some vt := hw2.1.cell 2
  have f2 := Mem.frozen hw2.1 2
  have hz2 : base ≤ w2.heap.size := Nat.le_trans hbs HF2.out.bel.size
  subst hvt
  clear hw2 hg2 HAR c33
  go_wp2_with (first
    | (at_builtin
       refine wp_append_strG HW2.out.2.2.2 t (.tmp 20) (.tmp 21) 59 9 iu rfl rfl Tryd.underlying59 Tryd.underlying9 HIU.out HIZ.out HIS.out HIB.out rfl rfl HLE.out hz2 ?_
       intro v3 w3 ho3 hg3
       obtain ⟨a3, q3, hv3, -, -, -⟩ := ho3.form
       rw [List.length_append, List.length_map, List.length_map] at hv3
       subst hv3
       have HO3 := Lib.hid ho3
       have HG3 := Lib.hid hg3
       have hwbk : w3.heap[wb]? = w2.heap[wb]? := hg3.block wb HW2.out.1.lt (fun e => HW2.out.text_ne wb e.symm rfl)
       have HM3 := Lib.hid (show Mem w3 wb Twv [.slice (some ⟨g, 0, none⟩) rest.length cap, .int .i64 ((got : Int) + 1), .slice at' out.length ct] from by have := HW2.out.1; unfold Mem at this ⊢; rw [hwbk, this]; simp)
       have c3 : w3.cell? ⟨wb, 2, none⟩ = some (.slice at' out.length ct) := HM3.out.cell 2
       have f3 := Mem.frozen HM3.out 2
       clear ho3 hg3 c2 f2)
    | fail)
  go_ret
  refine ⟨rfl, ⟨.slice a3 (out.length + t.length) q3, ?_, HW2.out.2.1, ?_, ?_⟩, ?_⟩
  · have := HM3.out.set 2 (.slice a3 (out.length + t.length) q3)
    simpa using this
  · refine HW2.out.2.2.1.of_block fun b hb => ?_
    have hb2 := HW2.out.row_ne b hb
    rw [heap_set_ne (by simpa using hb2.1)]
    exact HG3.out.block b (HW2.out.2.2.1.lt b hb).1 (fun e => hb2.2 e.symm)
  · rw [List.map_append]
    refine HO3.out.of_below fun b hb => ?_
    exact heap_set_ne (by simpa using own_mem_ne HM3.out HO3.out b hb)
  · refine (HF2.out.grown hbs HG3.out (fun r hr => ⟨(HW2.out.2.2.2.lt r hr).2, .inr (.inr (.inl hr))⟩)).grown hbs (grown_cell (grownRefl w3 (some wb)) 2 _) (fun r hr => by injection hr with hr; subst hr; exact ⟨HW2.out.2.1, .inl rfl⟩)
end Go.Proofs.YtjdhcanblpifcaaDoor

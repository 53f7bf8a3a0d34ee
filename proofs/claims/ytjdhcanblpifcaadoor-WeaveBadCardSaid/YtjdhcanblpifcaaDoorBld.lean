/-
  Structs and slices of structs whose fields are long: build, buildSlice.
-/
import Derived.Test.YtjdhcanblpifcaaDoorBalB
import Derived.Test.YtjdhcanblpifcaaDoorMer2
namespace Go.Proofs.YtjdhcanblpifcaaDoor
open Go.RowKit Crv

abbrev Tob : TypeId := 55
theorem fold_put (off : Nat) : ∀ (l : List Value) (k : Nat) (arr : Array Value), off + k + l.length ≤ arr.size → List.foldl (fun (cs : Array Value) (x : Value × Nat) => cs.setIfInBounds (off + x.snd) x.fst) arr (l.zipIdx k) = (arr.toList.take (off + k) ++ l ++ arr.toList.drop (off + k + l.length)).toArray
  | [], k, arr, h => by simp
  | a :: l, k, arr, h => by
    have h' : off + k + l.length + 1 ≤ arr.size := by simpa [Nat.add_assoc] using h
    rw [List.zipIdx_cons, List.foldl_cons, fold_put off l (k + 1) (arr.setIfInBounds (off + k) a) (by simp; omega)]
    congr 1
    rw [Array.toList_setIfInBounds, ← Nat.add_assoc, List.take_succ_eq_append_getElem (by simp; omega), List.take_set_of_le (Nat.le_refl _), List.drop_set_of_lt (by omega)]
    simp [Nat.add_assoc, Nat.add_comm 1]
theorem fold_pt (x : List UInt8) (hx : x.length = 32) : List.foldl (fun (cs : Array Value) (x : Value × Nat) => cs.setIfInBounds x.snd x.fst) #[Value.int .u8 0, Value.int .u8 0, Value.int .u8 0, Value.int .u8 0, Value.int .u8 0, Value.int .u8 0, Value.int .u8 0, Value.int .u8 0, Value.int .u8 0, Value.int .u8 0, Value.int .u8 0, Value.int .u8 0, Value.int .u8 0, Value.int .u8 0, Value.int .u8 0, Value.int .u8 0, Value.int .u8 0, Value.int .u8 0, Value.int .u8 0, Value.int .u8 0, Value.int .u8 0, Value.int .u8 0, Value.int .u8 0, Value.int .u8 0, Value.int .u8 0, Value.int .u8 0, Value.int .u8 0, Value.int .u8 0, Value.int .u8 0, Value.int .u8 0, Value.int .u8 0, Value.int .u8 0, Value.int .i64 0] (x.map byteV).zipIdx = (x.map byteV ++ [Value.int .i64 0]).toArray := by
  have h := fold_put 0 (x.map byteV) 0 #[Value.int .u8 0, Value.int .u8 0, Value.int .u8 0, Value.int .u8 0, Value.int .u8 0, Value.int .u8 0, Value.int .u8 0, Value.int .u8 0, Value.int .u8 0, Value.int .u8 0, Value.int .u8 0, Value.int .u8 0, Value.int .u8 0, Value.int .u8 0, Value.int .u8 0, Value.int .u8 0, Value.int .u8 0, Value.int .u8 0, Value.int .u8 0, Value.int .u8 0, Value.int .u8 0, Value.int .u8 0, Value.int .u8 0, Value.int .u8 0, Value.int .u8 0, Value.int .u8 0, Value.int .u8 0, Value.int .u8 0, Value.int .u8 0, Value.int .u8 0, Value.int .u8 0, Value.int .u8 0, Value.int .i64 0] (by simp [hx])
  simp only [Nat.zero_add, List.length_map, hx] at h
  exact h
theorem run_build_pt (x : List UInt8) (n : Int) (hx : x.length = 32) (W : World) : (Instr.build Tpt #[(0, .agg (x.map byteV).toArray), (1, .int .i64 n)]).run Tryd.prog W = .ok (.agg (ptC (x, n)).toArray) W := by
  have h2 : ((x.map byteV ++ [Value.int .i64 0]).toArray.setIfInBounds 32 (.int .i64 n)) = (ptC (x, n)).toArray := by
    simp [ptC, List.set_append_right, hx]
  have h3 : (x.map byteV ++ [Value.int .i64 0]).toArray.size = 33 := by simp [hx]
  simp [go_sem, Instr.build, Instr.fill, hx, fold_pt x hx, h2, h3]
theorem run_bslice_pt (p : Pt) (hx : p.1.length = 32) (W : World) : (Instr.buildSlice 23 1 #[(0, .agg (ptC p).toArray)]).run Tryd.prog W = .ok (.slice (some ⟨W.heap.size, 0, none⟩) 1 1) (W.alloc (.cells (ptC p).toArray Tpt)) := by
  have hl := length_ptC p hx
  have h := fold_put 0 (ptC p) 0 #[Value.int .u8 0, Value.int .u8 0, Value.int .u8 0, Value.int .u8 0, Value.int .u8 0, Value.int .u8 0, Value.int .u8 0, Value.int .u8 0, Value.int .u8 0, Value.int .u8 0, Value.int .u8 0, Value.int .u8 0, Value.int .u8 0, Value.int .u8 0, Value.int .u8 0, Value.int .u8 0, Value.int .u8 0, Value.int .u8 0, Value.int .u8 0, Value.int .u8 0, Value.int .u8 0, Value.int .u8 0, Value.int .u8 0, Value.int .u8 0, Value.int .u8 0, Value.int .u8 0, Value.int .u8 0, Value.int .u8 0, Value.int .u8 0, Value.int .u8 0, Value.int .u8 0, Value.int .u8 0, Value.int .i64 0] (by simp [hl])
  simp only [Nat.zero_add, hl, List.take_zero, List.nil_append] at h
  have h0 : (#[Value.int .u8 0, Value.int .u8 0, Value.int .u8 0, Value.int .u8 0, Value.int .u8 0, Value.int .u8 0, Value.int .u8 0, Value.int .u8 0, Value.int .u8 0, Value.int .u8 0, Value.int .u8 0, Value.int .u8 0, Value.int .u8 0, Value.int .u8 0, Value.int .u8 0, Value.int .u8 0, Value.int .u8 0, Value.int .u8 0, Value.int .u8 0, Value.int .u8 0, Value.int .u8 0, Value.int .u8 0, Value.int .u8 0, Value.int .u8 0, Value.int .u8 0, Value.int .u8 0, Value.int .u8 0, Value.int .u8 0, Value.int .u8 0, Value.int .u8 0, Value.int .u8 0, Value.int .u8 0, Value.int .i64 0].toList.drop 33) = [] := rfl
  rw [h0, List.append_nil] at h
  simp [go_sem, Instr.buildSlice, Instr.fill, hl, h]
/-- An object's cells. -/
def obC (k : Nat) (x t : List UInt8) : List Value := .int .i64 k :: (x.map byteV ++ [.string (str t)])
theorem length_obC (k : Nat) (x t : List UInt8) (hx : x.length = 32) : (obC k x t).length = 34 := by simp [obC, hx]
theorem one_obC (k : Nat) (x t : List UInt8) : ∀ u ∈ obC k x t, u.oneCell' = true := by
  intro u hu
  rcases List.mem_cons.1 hu with rfl | hu
  · rfl
  rcases List.mem_append.1 hu with hu | hu
  · exact oneBytes _ u hu
  · simp only [List.mem_singleton] at hu
    subst hu
    rfl
theorem sz_ob (k : Nat) (x t : List UInt8) (h : x.length = 32) : (Tryd.prog.info? Tob).map (·.size) = some (obC k x t).length := by rw [length_obC k x t h]; kernel_rfl
theorem fold_ob (k : Nat) (x : List UInt8) (hx : x.length = 32) : List.foldl (fun (cs : Array Value) (x : Value × Nat) => cs.setIfInBounds (1 + x.snd) x.fst) #[Value.int .i64 k, Value.int .u8 0, Value.int .u8 0, Value.int .u8 0, Value.int .u8 0, Value.int .u8 0, Value.int .u8 0, Value.int .u8 0, Value.int .u8 0, Value.int .u8 0, Value.int .u8 0, Value.int .u8 0, Value.int .u8 0, Value.int .u8 0, Value.int .u8 0, Value.int .u8 0, Value.int .u8 0, Value.int .u8 0, Value.int .u8 0, Value.int .u8 0, Value.int .u8 0, Value.int .u8 0, Value.int .u8 0, Value.int .u8 0, Value.int .u8 0, Value.int .u8 0, Value.int .u8 0, Value.int .u8 0, Value.int .u8 0, Value.int .u8 0, Value.int .u8 0, Value.int .u8 0, Value.int .u8 0, Value.string ⟨#[]⟩] (x.map byteV).zipIdx = (Value.int .i64 k :: (x.map byteV ++ [Value.string ⟨#[]⟩])).toArray := by
  have h := fold_put 1 (x.map byteV) 0 #[Value.int .i64 k, Value.int .u8 0, Value.int .u8 0, Value.int .u8 0, Value.int .u8 0, Value.int .u8 0, Value.int .u8 0, Value.int .u8 0, Value.int .u8 0, Value.int .u8 0, Value.int .u8 0, Value.int .u8 0, Value.int .u8 0, Value.int .u8 0, Value.int .u8 0, Value.int .u8 0, Value.int .u8 0, Value.int .u8 0, Value.int .u8 0, Value.int .u8 0, Value.int .u8 0, Value.int .u8 0, Value.int .u8 0, Value.int .u8 0, Value.int .u8 0, Value.int .u8 0, Value.int .u8 0, Value.int .u8 0, Value.int .u8 0, Value.int .u8 0, Value.int .u8 0, Value.int .u8 0, Value.int .u8 0, Value.string ⟨#[]⟩] (by simp [hx])
  simp only [Nat.add_zero, List.length_map, hx] at h
  exact h
theorem run_build_ob (k : Nat) (x t : List UInt8) (hx : x.length = 32) (W : World) : (Instr.build Tob #[(0, .int .i64 k), (1, .agg (x.map byteV).toArray), (2, .string (str t))]).run Tryd.prog W = .ok (.agg (obC k x t).toArray) W := by
  have h2 : ((Value.int .i64 k :: (x.map byteV ++ [Value.string ⟨#[]⟩])).toArray.setIfInBounds 33 (.string (str t))) = (obC k x t).toArray := by
    simp [obC, List.set_append_right, hx]
  have h3 : (Value.int .i64 k :: (x.map byteV ++ [Value.string ⟨#[]⟩])).toArray.size = 34 := by simp [hx]
  simp [go_sem, Instr.build, Instr.fill, hx, fold_ob k x hx, h2, h3]
theorem run_bslice_ob (k : Nat) (x t : List UInt8) (hx : x.length = 32) (W : World) : (Instr.buildSlice 44 1 #[(0, .agg (obC k x t).toArray)]).run Tryd.prog W = .ok (.slice (some ⟨W.heap.size, 0, none⟩) 1 1) (W.alloc (.cells (obC k x t).toArray Tob)) := by
  have hl := length_obC k x t hx
  have h := fold_put 0 (obC k x t) 0 #[Value.int .i64 0, Value.int .u8 0, Value.int .u8 0, Value.int .u8 0, Value.int .u8 0, Value.int .u8 0, Value.int .u8 0, Value.int .u8 0, Value.int .u8 0, Value.int .u8 0, Value.int .u8 0, Value.int .u8 0, Value.int .u8 0, Value.int .u8 0, Value.int .u8 0, Value.int .u8 0, Value.int .u8 0, Value.int .u8 0, Value.int .u8 0, Value.int .u8 0, Value.int .u8 0, Value.int .u8 0, Value.int .u8 0, Value.int .u8 0, Value.int .u8 0, Value.int .u8 0, Value.int .u8 0, Value.int .u8 0, Value.int .u8 0, Value.int .u8 0, Value.int .u8 0, Value.int .u8 0, Value.int .u8 0, Value.string ⟨#[]⟩] (by simp [hl])
  simp only [Nat.zero_add, hl, List.take_zero, List.nil_append] at h
  have h0 : (#[Value.int .i64 0, Value.int .u8 0, Value.int .u8 0, Value.int .u8 0, Value.int .u8 0, Value.int .u8 0, Value.int .u8 0, Value.int .u8 0, Value.int .u8 0, Value.int .u8 0, Value.int .u8 0, Value.int .u8 0, Value.int .u8 0, Value.int .u8 0, Value.int .u8 0, Value.int .u8 0, Value.int .u8 0, Value.int .u8 0, Value.int .u8 0, Value.int .u8 0, Value.int .u8 0, Value.int .u8 0, Value.int .u8 0, Value.int .u8 0, Value.int .u8 0, Value.int .u8 0, Value.int .u8 0, Value.int .u8 0, Value.int .u8 0, Value.int .u8 0, Value.int .u8 0, Value.int .u8 0, Value.int .u8 0, Value.string ⟨#[]⟩].toList.drop 34) = [] := rfl
  rw [h0, List.append_nil] at h
  simp [go_sem, Instr.buildSlice, Instr.fill, hl, h]

section
variable {P : Program} {ops : Array Oper} {rest : List Oper} {o : Oper} {a : Act} {w : World} {Q : Exit → Act → World → Prop}
/-- An operation whose run is known. -/
theorem wp_build2 {ty : TypeId} {x y : Operand} {u v r : Value} (hr : (Instr.build ty #[(0, u), (1, v)]).run P w = .ok r w) (hgd : o.guard = none) (ho : o.op = .build ty #[(0, x), (1, y)]) (hx : a.eval x = u) (hy : a.eval y = v)
    (h : wpList P ops Q rest (a.put o.dst r) w) : wpList P ops Q (o :: rest) a w := by
  refine wpList_plain hgd fun K hK => ?_
  unfold Oper.wp execOp
  simp only [ho, List.map_toArray, List.map_cons, List.map_nil, hx, hy, hr, Sem.run_bind, Sem.run_pure, Result.andThen_ok]
  exact hK _ _ h
theorem wp_build3 {ty : TypeId} {x y z : Operand} {u v s r : Value} (hr : (Instr.build ty #[(0, u), (1, v), (2, s)]).run P w = .ok r w) (hgd : o.guard = none) (ho : o.op = .build ty #[(0, x), (1, y), (2, z)]) (hx : a.eval x = u) (hy : a.eval y = v) (hz : a.eval z = s)
    (h : wpList P ops Q rest (a.put o.dst r) w) : wpList P ops Q (o :: rest) a w := by
  refine wpList_plain hgd fun K hK => ?_
  unfold Oper.wp execOp
  simp only [ho, List.map_toArray, List.map_cons, List.map_nil, hx, hy, hz, hr, Sem.run_bind, Sem.run_pure, Result.andThen_ok]
  exact hK _ _ h
theorem wp_bslice1 {ty : TypeId} {x : Operand} {u r : Value} {W : World} (hr : (Instr.buildSlice ty 1 #[(0, u)]).run P w = .ok r W) (hgd : o.guard = none) (ho : o.op = .buildSlice ty 1 #[(0, x)]) (hx : a.eval x = u)
    (h : wpList P ops Q rest (a.put o.dst r) W) : wpList P ops Q (o :: rest) a w := by
  refine wpList_plain hgd fun K hK => ?_
  unfold Oper.wp execOp
  simp only [ho, List.map_toArray, List.map_cons, List.map_nil, hx, hr, Sem.run_bind, Sem.run_pure, Result.andThen_ok]
  exact hK _ _ h
/-- The same as one step of a region that draws its order. -/
theorem step_build2 {K : Act → World → Prop} {E : Prop} {ty : TypeId} {x y : Operand} {u v r : Value} (hr : (Instr.build ty #[(0, u), (1, v)]).run P w = .ok r w) (hgd : o.guard = none) (ho : o.op = .build ty #[(0, x), (1, y)]) (hx : a.eval x = u) (hy : a.eval y = v)
    (h : K (a.put o.dst r) w) : if Region.wanted o (yielded ops a.tmps) = true then Oper.wp P o a w K Q else E := by
  have hw : Region.wanted o (yielded ops a.tmps) = true := by simp [Region.wanted, hgd]
  rw [if_pos hw]
  unfold Oper.wp execOp
  simp only [ho, List.map_toArray, List.map_cons, List.map_nil, hx, hy, hr, Sem.run_bind, Sem.run_pure, Result.andThen_ok]
  exact h
theorem step_bslice1 {K : Act → World → Prop} {E : Prop} {ty : TypeId} {x : Operand} {u r : Value} {W : World} (hr : (Instr.buildSlice ty 1 #[(0, u)]).run P w = .ok r W) (hgd : o.guard = none) (ho : o.op = .buildSlice ty 1 #[(0, x)]) (hx : a.eval x = u)
    (h : K (a.put o.dst r) W) : if Region.wanted o (yielded ops a.tmps) = true then Oper.wp P o a w K Q else E := by
  have hw : Region.wanted o (yielded ops a.tmps) = true := by simp [Region.wanted, hgd]
  rw [if_pos hw]
  unfold Oper.wp execOp
  simp only [ho, List.map_toArray, List.map_cons, List.map_nil, hx, hr, Sem.run_bind, Sem.run_pure, Result.andThen_ok]
  exact h
theorem step_append_row {K : Act → World → Prop} {E : Prop} {base : Nat} {e : TypeId} {m : Nat} {v : Value} {xs : List (List Value)} (hown : Rw w base e m v xs)
    (x : List Value) (hm0 : 0 < m) (hxl : x.length = m) (hx1 : ∀ u ∈ x, u.oneCell' = true) (s y : Operand) (t : TypeId) (i : TypeInfo) (z : Value) (by_ : Nat) (hgd : o.guard = none) (ho : o.op = .call { callee := .builtin .append, args := #[s, y], argTypes := #[t, t] })
    (ht : P.underlying t = some (.slice e)) (hi : P.info? e = some i) (hz : i.zero = some z) (hsize : i.size = m) (hby : i.bytes = by_) (hzs : z.cells.size = m) (hb64 : by_ ≤ 64)
    (hs : a.eval s = v) {g c : Nat} (hx : a.eval y = .slice (some ⟨g, 0, none⟩) 1 c) (hnews : ∀ j u, x[j]? = some u → w.cell? ⟨g, j, none⟩ = some u)
    (hlen : xs.length ≤ 900000000) (hbase : base ≤ w.heap.size)
    (h : ∀ v' w', Rw w' base e m v' (xs ++ [x]) → w.grownBy w' v.ownBlock → (v'.ownBlock = v.ownBlock ∨ v'.ownBlock = some w.heap.size) → K (a.put o.dst v') w') : if Region.wanted o (yielded ops a.tmps) = true then Oper.wp P o a w K Q else E := by
  have hw : Region.wanted o (yielded ops a.tmps) = true := by simp [Region.wanted, hgd]
  rw [if_pos hw]
  have hml : (xs.length + 1) * by_ ≤ 1000000000 * 64 := Nat.mul_le_mul (by omega) hb64
  obtain ⟨v', w', hr, h2, h3, h4, h5⟩ := run_append_own_at (P := P) w base t o.type e i z m by_ ht hi hz hsize hby hzs hm0 v xs.length xs.flatten hown.2 ⟨g, 0, none⟩ 1 c x (by simp [hxl]) (fun j u hu => by rw [add_plain]; exact hnews j u hu) hx1 (by simp only [maxLen]; omega) (by omega) hbase
  unfold Oper.wp execOp
  simp only [ho, resolve, invoke, builtin, Sem.run_bind, Sem.run_pure, Result.andThen_ok, List.map_toArray, List.map_cons, List.map_nil, hs, hx, hr]
  refine h v' w' ⟨fun q hq => ?_, ?_⟩ h3 h5
  · rcases List.mem_append.1 hq with h1 | h1
    · exact hown.1 q h1
    · simp at h1; subst h1; exact hxl
  · rw [List.length_append, List.flatten_append]
    simpa using h2
end
end Go.Proofs.YtjdhcanblpifcaaDoor

/-
  A letter that is an argument.
-/
import Derived.Test.YtbkknhlagohhhaaBFrame
import Derived.Test.YtbkknhlagohhhaaLLaw1
import Derived.Deep.SlicePairs
import Derived.Deep.Strs
import Derived.Carry
namespace Go.Proofs.Ytbkknhlagohhhaa
open Go.ChangeShapes Go.WideShapes Go.ChangeAt Go.RowKit Go.Deep Crv

theorem laidOutL : laidOutB Try.prog = true := by kernel_rfl
set_option maxRecDepth 100000 in
/-- A cell of type []int. -/
theorem zsr_cell {H : Type} {enc : TypeId × Value → H} {W : World} {n : Nat} {v : Value} {x : DataW H × List MemPlace} (h : DataW.trod enc Try.prog W 0 (fun _ => true) true n 24 [v] = some x) :
    ∃ ks, ZsR W v ks ∧ ks.length ≤ 9223372036854775807 := by
  have c3 : Try.prog.cellsOf 3 = 1 := by kernel_rfl
  rcases open_slice Try.underlying24 h with ⟨hcs, _⟩ | ⟨a, len, cap, m, nn, D, Pl, hcs, _, hl, hm, hmm, _, hcell⟩
  · simp only [List.cons.injEq, and_true] at hcs
    subst hcs
    exact ⟨[], .inl ⟨rfl, rfl⟩, by simp⟩
  simp only [List.cons.injEq, and_true] at hcs
  subst hcs
  simp only [if_true] at hmm
  subst hmm
  rw [c3] at hcell
  have each : ∀ i, ∃ z : Int, i < m → W.cell? (a.add i) = some (.int .i64 z) := fun i => by
    by_cases hi : i < m
    · obtain ⟨cs', h1, h2⟩ := hcell i hi
      obtain ⟨_, hlen, hat⟩ := World.cells?_some h1
      obtain ⟨n0, e0, _, w0⟩ := DataW.trod_int (k := .i64) Try.underlying3 h2
      subst e0
      have h3 := hat 0 (by omega)
      rw [Nat.mul_one] at h3
      rw [Go.Deep.add_add] at h3
      exact ⟨n0, fun _ => by simpa using h3⟩
    · exact ⟨0, fun h => absurd h hi⟩
  have hlm : len ≤ 9223372036854775807 := by simp only [maxLen] at hm; omega
  obtain ⟨Z, hZ⟩ := Classical.skolem.1 each
  refine ⟨(List.range len).map Z, .inr ⟨a, m, by simp, by simpa using hl, fun i u hu => ?_⟩, by simpa using hlm⟩
  have hi : i < len := by
    have := (List.getElem?_eq_some_iff.1 hu).1
    simpa using this
  rw [hZ i (by omega)]
  rw [List.getElem?_map, List.getElem?_map, List.getElem?_range hi] at hu
  exact hu
/-- The cells of a name. -/
theorem id_cells {H : Type} {enc : TypeId × Value → H} {W : World} {n : Nat} {cs : List Value} {x : DataW H × List MemPlace} (h : DataW.trod enc Try.prog W 0 (fun _ => true) true n 23 cs = some x) : ∃ l : List UInt8, cs = l.map byteV ∧ l.length = 32 := by
  have c1 : Try.prog.cellsOf 5 = 1 := by kernel_rfl
  obtain ⟨xs, m, -, -, hlen, hxl, hf⟩ := DataW.trod_array Try.underlying23 h
  rw [show Try.prog.cellsOf 23 = 32 by kernel_rfl] at hlen
  have each : ∀ i, i < 32 → ∃ b : UInt8, cs[i]? = some (byteV b) := fun i hi => by
    have h1 := hf i hi
    rw [List.getElem?_eq_getElem (by omega)] at h1
    obtain ⟨k, e, -, w⟩ := DataW.trod_int (k := .u8) Try.underlying5 h1
    rw [c1, Nat.mul_one] at e
    have h2 : cs[i]? = some (.int .u8 k) := by
      have := congrArg (·[0]?) e
      simpa using this
    have hb := bounds_u8 w
    refine ⟨UInt8.ofNat k.toNat, ?_⟩
    rw [h2]
    have h5 : ((UInt8.ofNat k.toNat).toNat : Int) = k := by
      rw [UInt8.toNat_ofNat']
      omega
    simp only [byteV, h5]
  have hz : ∀ i, ∃ b : UInt8, i < 32 → cs[i]? = some (byteV b) := fun i => by
    by_cases hi : i < 32
    · obtain ⟨b, hb⟩ := each i hi
      exact ⟨b, fun _ => hb⟩
    · exact ⟨0, fun h => absurd h hi⟩
  obtain ⟨Z, hZ⟩ := Classical.skolem.1 hz
  refine ⟨(List.range 32).map Z, ?_, by simp⟩
  refine List.ext_getElem? fun i => ?_
  by_cases hi : i < 32
  · rw [hZ i hi, List.getElem?_map, List.getElem?_map, List.getElem?_range hi]
    rfl
  · rw [List.getElem?_eq_none (by omega), List.getElem?_eq_none (by simp; omega)]
set_option maxRecDepth 100000 in
/-- An argument of type Letter. -/
theorem letter_of {H : Type} {enc : TypeId × Value → H} {W : World} {base : Nat} {v : Value} {d : DataW H} {pl : List MemPlace} (hv : Value.okWide Try.prog W .any base Tlt v) (h : DataW.Trod enc Try.prog W 0 (fun _ => true) true Tlt v d pl) :
    ∃ (l : LV) (ps hs : List Int), v = .agg (ltC l).toArray ∧ l.id.length = 32 ∧ ZsR W l.pv ps ∧ ZsR W l.hv hs ∧ ps.length ≤ 9223372036854775807 ∧ hs.length ≤ 9223372036854775807 ∧
      ∀ k ∈ [l.kind, l.fr, l.to, l.seq, l.what], -9223372036854775808 ≤ k ∧ k < 9223372036854775808 := by
  have c0 : Try.prog.cellsOf 3 = 1 := by kernel_rfl
  have c1 : Try.prog.cellsOf 23 = 32 := by kernel_rfl
  have c2 : Try.prog.cellsOf 9 = 1 := by kernel_rfl
  have c3 : Try.prog.cellsOf 24 = 1 := by kernel_rfl
  unfold Value.okWide at hv
  rw [Try.underlying26] at hv
  obtain ⟨cs, rfl, hsz, -⟩ := hv
  rw [show Try.prog.cellsOf Tlt = 40 by kernel_rfl] at hsz
  obtain ⟨fuel, hf0⟩ := h
  simp only [Value.cells] at hf0
  obtain ⟨xs, k, -, -, hlen, hxl, hf⟩ := DataW.trod_struct Try.underlying26 hf0
  have hxl' : xs.length = 9 := hxl
  have get : ∀ i, i < 9 → ∃ y, xs[i]? = some y := fun i hi => ⟨_, List.getElem?_eq_getElem (by omega)⟩
  have one : ∀ o, o < 40 → ∃ u, cs.toList[o]? = some u ∧ (cs.toList.drop o).take 1 = [u] := fun o ho => by
    have hl : o < cs.toList.length := by simp [hsz, ho]
    refine ⟨cs.toList[o], List.getElem?_eq_getElem hl, ?_⟩
    rw [List.drop_eq_getElem_cons hl]
    rfl
  obtain ⟨u0, q0, r0⟩ := one 0 (by omega)
  obtain ⟨u1, q1, r1⟩ := one 1 (by omega)
  obtain ⟨u2, q2, r2⟩ := one 2 (by omega)
  obtain ⟨u3, q3, r3⟩ := one 3 (by omega)
  obtain ⟨u5, q5, r5⟩ := one 36 (by omega)
  obtain ⟨u6, q6, r6⟩ := one 37 (by omega)
  obtain ⟨u7, q7, r7⟩ := one 38 (by omega)
  obtain ⟨u8, q8, r8⟩ := one 39 (by omega)
  obtain ⟨y0, e0⟩ := get 0 (by omega)
  obtain ⟨y1, e1⟩ := get 1 (by omega)
  obtain ⟨y2, e2⟩ := get 2 (by omega)
  obtain ⟨y3, e3⟩ := get 3 (by omega)
  obtain ⟨y4, e4⟩ := get 4 (by omega)
  obtain ⟨y5, e5⟩ := get 5 (by omega)
  obtain ⟨y6, e6⟩ := get 6 (by omega)
  obtain ⟨y7, e7⟩ := get 7 (by omega)
  obtain ⟨y8, e8⟩ := get 8 (by omega)
  have g0 : DataW.trod enc Try.prog W 0 (fun _ => true) true k 3 [u0] = some y0 := by rw [← e0, ← r0]; exact hf 0 _ rfl
  have g1 : DataW.trod enc Try.prog W 0 (fun _ => true) true k 3 [u1] = some y1 := by rw [← e1, ← r1]; exact hf 1 _ rfl
  have g2 : DataW.trod enc Try.prog W 0 (fun _ => true) true k 3 [u2] = some y2 := by rw [← e2, ← r2]; exact hf 2 _ rfl
  have g3 : DataW.trod enc Try.prog W 0 (fun _ => true) true k 3 [u3] = some y3 := by rw [← e3, ← r3]; exact hf 3 _ rfl
  have g4 : DataW.trod enc Try.prog W 0 (fun _ => true) true k 23 ((cs.toList.drop 4).take 32) = some y4 := by rw [← e4]; exact hf 4 _ rfl
  have g5 : DataW.trod enc Try.prog W 0 (fun _ => true) true k 3 [u5] = some y5 := by rw [← e5, ← r5]; exact hf 5 _ rfl
  have g6 : DataW.trod enc Try.prog W 0 (fun _ => true) true k 9 [u6] = some y6 := by rw [← e6, ← r6]; exact hf 6 _ rfl
  have g7 : DataW.trod enc Try.prog W 0 (fun _ => true) true k 24 [u7] = some y7 := by rw [← e7, ← r7]; exact hf 7 _ rfl
  have g8 : DataW.trod enc Try.prog W 0 (fun _ => true) true k 24 [u8] = some y8 := by rw [← e8, ← r8]; exact hf 8 _ rfl
  obtain ⟨n0, h0, -, w0⟩ := DataW.trod_int (k := .i64) Try.underlying3 g0
  obtain ⟨n1, h1, -, w1⟩ := DataW.trod_int (k := .i64) Try.underlying3 g1
  obtain ⟨n2, h2, -, w2⟩ := DataW.trod_int (k := .i64) Try.underlying3 g2
  obtain ⟨n3, h3, -, w3⟩ := DataW.trod_int (k := .i64) Try.underlying3 g3
  obtain ⟨x, h4, hx⟩ := id_cells g4
  obtain ⟨n5, h5, -, w5⟩ := DataW.trod_int (k := .i64) Try.underlying3 g5
  obtain ⟨s6, h6, -, w6⟩ := DataW.trod_string Try.underlying9 g6
  obtain ⟨ps, h7, hpl⟩ := zsr_cell g7
  obtain ⟨hs, h8, hhl⟩ := zsr_cell g8
  simp only [List.cons.injEq, and_true] at h0 h1 h2 h3 h5 h6
  subst h0 h1 h2 h3 h5 h6
  have hcs : cs.toList = ltC ⟨n0, n1, n2, n3, x, n5, s6.data.toList, u7, u8⟩ := by
    refine List.ext_getElem? fun i => ?_
    unfold ltC
    rcases Nat.lt_or_ge i 4 with hi | hi
    · have : i = 0 ∨ i = 1 ∨ i = 2 ∨ i = 3 := by omega
      rcases this with rfl | rfl | rfl | rfl
      · exact q0
      · exact q1
      · exact q2
      · exact q3
    · obtain ⟨j, rfl⟩ : ∃ j, i = j + 1 + 1 + 1 + 1 := ⟨i - 4, by omega⟩
      simp only [List.getElem?_cons_succ]
      rcases Nat.lt_or_ge j 32 with hj | hj
      · rw [List.getElem?_append_left (by rw [List.length_map, hx]; exact hj), ← h4, List.getElem?_take_of_lt hj, List.getElem?_drop]
        congr 1
        omega
      · rw [List.getElem?_append_right (by rw [List.length_map, hx]; exact hj), List.length_map, hx]
        rcases Nat.lt_or_ge j 36 with hj2 | hj2
        · have : j = 32 ∨ j = 33 ∨ j = 34 ∨ j = 35 := by omega
          rcases this with rfl | rfl | rfl | rfl
          · exact q5
          · show cs.toList[37]? = some (Value.string (str s6.data.toList))
            rw [← str_eq s6]
            exact q6
          · exact q7
          · exact q8
        · rw [List.getElem?_eq_none (by simp [hsz]; omega), List.getElem?_eq_none (by simp; omega)]
  refine ⟨_, ps, hs, by rw [← hcs], hx, h7, h8, hpl, hhl, fun k hk => ?_⟩
  have b := fun {n : Int} (w : (Lit.int .i64 n).wf = true) => bounds_i64 w
  simp only [List.mem_cons, List.mem_nil_iff, or_false] at hk
  rcases hk with rfl | rfl | rfl | rfl | rfl
  · have := b w0; omega
  · have := b w1; omega
  · have := b w2; omega
  · have := b w3; omega
  · have := b w5; omega
end Go.Proofs.Ytbkknhlagohhhaa

/-
  Package bale: appendStr, Str, Strs, Nums.
-/
import Derived.Test.YtbkknhlagohhhaaBal2
import Derived.Lib.AppendStr
namespace Go.Proofs.Ytbkknhlagohhhaa
open Go.RowKit Crv

/-- append(b, s...) of a text onto bytes of the call's own. -/
theorem wp_append_str {P : Program} {ops : Array Oper} {rest : List Oper} {o : Oper} {a : Act} {w0 w : World} {Q : Exit → Act → World → Prop} {base : Nat} {e : TypeId} {v : Value} {xs : List Value} (hown : Owns w base e v xs) (B : Nat) (hB : Below B w0 w) (hBb : B ≤ base)
    (l : List UInt8) (s x : Operand) (t u : TypeId) (i : TypeInfo) (hgd : o.guard = none) (ho : o.op = .call { callee := .builtin .append, args := #[s, x], argTypes := #[t, u] })
    (ht : P.underlying t = some (.slice e)) (hu : P.underlying u = some .string) (hi : P.info? e = some i) (hz : i.zero = some (.int .u8 0)) (hsize : i.size = 1) (hby : i.bytes = 1)
    (hs : a.eval s = v) (hx : a.eval x = .string (str l)) (hlen : xs.length + l.length ≤ 140737488355328) (hbase : base ≤ w.heap.size)
    (h : ∀ v' w', Owns w' base e v' (xs ++ l.map byteV) → Below B w0 w' → w.heap.size ≤ w'.heap.size → wpList P ops Q rest (a.put o.dst v') w') : wpList P ops Q (o :: rest) a w := by
  refine Lib.wpList_append_own_string (P := P) w hgd s x t u ho base e i ht hu hi hz hsize hby v xs.length xs hs hown (str l) hx (by simp only [maxLen, size_str]; omega) (by simp only [size_str]; omega) hbase ?_
  intro v' w' ho' hg _
  refine h v' w' ?_ ?_ hg.size
  · unfold Owns
    rw [List.length_append, List.length_map]
    exact ho'
  · exact hB.trans ⟨hg.os, hg.tape, hg.output, hg.size, fun k hk => hg.block k (by omega) (fun e => by have := (hown.lt k e.symm).2; omega)⟩

/-- The encoding of a text. -/
def strOf (s : List UInt8) : List UInt8 := numOf s.length ++ s

set_option maxRecDepth 100000 in
theorem appendStr_any (w : World) (base : Nat) (v : Value) (l s : List UInt8) (hown : Owns w base 5 v (l.map byteV)) (hbase : base ≤ w.heap.size) (hl : l.length ≤ 1099511627000) (hs : s.length ≤ 1099511627776) :
    Calls Try.prog 83 #[v, .string (str s)] w fun e w' => ∃ v', e = .returned v' ∧ Owns w' base 5 v' ((l ++ strOf s).map byteV) ∧ Below base w w' := by
  obtain ⟨i, hi, hz, hsz, hby⟩ : ∃ i, Try.prog.info? 5 = some i ∧ i.zero = some (.int .u8 0) ∧ i.size = 1 ∧ i.bytes = 1 := info_of (by kernel_rfl)
  have HBY := Lib.hid hby
  have HI := Lib.hid hi
  have HZ := Lib.hid hz
  have HS := Lib.hid hsz
  clear hi hz hsz hby
  have HC := Lib.hid (appendNum_any w base v l s.length (by omega) hown hbase hl)
  have hnl := length_numOf (n := s.length) (by omega)
  clear hown
  go_enter Try.func83, Try.ntmps83
  go_wp2_with fail
  refine HC.out.mono ?_
  rintro e w1 ⟨v1, rfl, hown, hb⟩
  have HO := Lib.hid hown
  have hs1 : base ≤ w1.heap.size := by
    have := hb.size
    omega
  have HLEN := Lib.hid (show ((l ++ numOf s.length).map byteV).length + s.length ≤ 140737488355328 by simp; omega)
  clear hown HC hnl
  go_wp2_with (first
    | (at_builtin; refine wp_append_str HO.out base hb (Nat.le_refl _) s (.tmp 9) (.tmp 10) 122 9 i rfl rfl Try.underlying122 Try.underlying9 HI.out HZ.out HS.out HBY.out rfl rfl HLEN.out hs1 ?_; intro v2 w2 hown2 hb2 hz2; have HO2 := Lib.hid hown2; clear hown2)
    | fail)
  go_ret
  refine ⟨_, rfl, ?_, hb2⟩
  have h := HO2.out
  unfold strOf
  rw [← List.append_assoc, List.map_append]
  exact h

set_option maxRecDepth 100000 in
theorem str_any (s : List UInt8) (w : World) (hs : s.length ≤ 1099511627776) :
    Calls Try.prog 54 #[.string (str s)] w fun e w' => e = .returned (.string (str (strOf s))) ∧ Below w.heap.size w w' := by
  have HC := Lib.hid (appendStr_any w w.heap.size (.slice none 0 0) [] s (Owns.nil _ _ _) (Nat.le_refl _) (by simp) hs)
  go_enter Try.func54, Try.ntmps54
  go_wp2_with fail
  refine HC.out.mono ?_
  rintro e w1 ⟨v1, rfl, hown, hb⟩
  have hcv := hown.string (P := Try.prog) (src := 122) (dst := 9) Try.underlying122 Try.underlying5 Try.underlying9
  rw [List.nil_append] at hcv
  clear hown HC
  go_wp2
  go_ret
  exact ⟨rfl, hb⟩

theorem flatMap_take_succ {α β : Type} (f : α → List β) (ls : List α) (k : Nat) (h : k < ls.length) : (ls.take (k + 1)).flatMap f = (ls.take k).flatMap f ++ f ls[k] := by
  rw [List.take_succ_eq_append_getElem h, List.flatMap_append]
  simp
theorem length_strs : ∀ (ls : List (List UInt8)), (∀ l ∈ ls, l.length ≤ 1000) → (ls.flatMap strOf).length ≤ 1009 * ls.length
  | [], _ => by simp
  | a :: r, h => by
    have h1 := h a (by simp)
    have h2 := length_strs r (fun l hl => h l (by simp [hl]))
    have h3 := length_numOf (n := a.length) (by omega)
    simp only [List.flatMap_cons, List.length_append, List.length_cons, strOf]
    omega

end Go.Proofs.Ytbkknhlagohhhaa

/-
  slices.Grow of nothing, slices.Concat of two lists of numbers.
-/
import Derived.Test.YtbkknhlagohhhaaZp
import Derived.Test.YtbkknhlagohhhaaRow
import Derived.Lib.AppendZerosOnto
import Derived.Deep.DeepAppendWide
namespace Go.Proofs.Ytbkknhlagohhhaa
open Go.RowKit Crv

abbrev Tsi : TypeId := 24
abbrev Tii : TypeId := 3
/-- A slice value that reads as a list of numbers, wherever it lies. -/
def ZsR (w : World) (v : Value) (xs : List Int) : Prop := (v = .slice none 0 0 ∧ xs = []) ∨ ∃ (ad : Addr) (cap : Nat), v = .slice (some ad) xs.length cap ∧ xs.length ≤ cap ∧ ∀ i u, (xs.map fun k => Value.int .i64 k)[i]? = some u → w.cell? (ad.add i) = some u
theorem ZsR.below {w w' : World} {v : Value} {xs : List Int} (h : ZsR w v xs) (hb : Below w.heap.size w w') : ZsR w' v xs := by
  rcases h with h | ⟨ad, cap, hv, hc, hcell⟩
  · exact .inl h
  · refine .inr ⟨ad, cap, hv, hc, fun i u hu => ?_⟩
    have h1 := hcell i u hu
    exact (World.cell?_of_block (w := w) (w' := w') (a := ad.add i) (hb.block _ (World.block_lt_of_cell? w _ h1))).trans h1
theorem ZsR.form {w : World} {v : Value} {xs : List Int} (h : ZsR w v xs) : ∃ a cap, v = .slice a xs.length cap ∧ xs.length ≤ cap := by
  rcases h with ⟨rfl, rfl⟩ | ⟨ad, cap, hv, hc, _⟩
  · exact ⟨none, 0, rfl, Nat.le_refl _⟩
  · exact ⟨_, cap, hv, hc⟩
theorem int_inf : ∃ i, Try.prog.info? Tii = some i ∧ i.zero = some (.int .i64 0) ∧ i.size = 1 ∧ i.bytes = 8 := info_of (by kernel_rfl)
/-- append(l, s...) of a list that is read. -/
theorem wp_append_read {ops : Array Oper} {rest : List Oper} {o : Oper} {a : Act} {w : World} {Q : Exit → Act → World → Prop} {base : Nat} {v x : Value} {xs : List Value} {ys : List Int} (hown : Owns w base Tii v xs) (hx : ZsR w x ys) (s y : Operand) (hgd : o.guard = none) (ho : o.op = .call { callee := .builtin .append, args := #[s, y], argTypes := #[Tsi, Tsi] })
    (hs : a.eval s = v) (hy : a.eval y = x) (hlen : xs.length + ys.length ≤ 1000000) (hbase : base ≤ w.heap.size)
    (h : ∀ v' w', Owns w' base Tii v' (xs ++ ys.map fun k => Value.int .i64 k) → w.grownBy w' v.ownBlock → wpList Try.prog ops Q rest (a.put o.dst v') w') : wpList Try.prog ops Q (o :: rest) a w := by
  obtain ⟨ti, hi, hz, hsz, hby⟩ := int_inf
  refine wpList_plain hgd fun K hK => ?_
  have key : ∃ v' w', (Builtin.append_ #[Tsi, Tsi] o.type #[v, x]).run Try.prog w = .ok v' w' ∧ Owns w' base Tii v' (xs ++ ys.map fun k => Value.int .i64 k) ∧ w.grownBy w' v.ownBlock := by
    rcases hx with ⟨rfl, rfl⟩ | ⟨ad, cap, rfl, _, hcell⟩
    · refine ⟨v, w, run_append_owned_none w base Tsi o.type Tii ti 1 Try.underlying24 hi v xs.length xs hown, by simpa using hown, grownRefl _ _⟩
    · obtain ⟨v', w', hr, h2, h3, _⟩ := run_append_own_at (P := Try.prog) w base Tsi o.type Tii ti (.int .i64 0) 1 8 Try.underlying24 hi hz hsz hby rfl (by omega) v xs.length xs hown ad ys.length cap (ys.map fun k => Value.int .i64 k) (by simp) hcell (fun u hu => by
        obtain ⟨k, _, rfl⟩ := List.mem_map.1 hu
        rfl) (by simp only [maxLen]; omega) (by omega) hbase
      refine ⟨v', w', hr, ?_, h3⟩
      unfold Owns
      rw [List.length_append, List.length_map]
      exact h2
  obtain ⟨v', w', hr, h2, h3⟩ := key
  unfold Oper.wp execOp
  simp only [ho, resolve, invoke, builtin, Sem.run_bind, Sem.run_pure, Result.andThen_ok, List.map_toArray, List.map_cons, List.map_nil, hs, hy, hr]
  exact hK _ _ (h v' w' h2 h3)
theorem wp_append_run {P : Program} {ops : Array Oper} {rest : List Oper} {o : Oper} {a : Act} {w : World} {Q : Exit → Act → World → Prop} {v y v' : Value} {w' : World} (s x : Operand) (t tn : TypeId)
    (hr : ∀ ty, (Builtin.append_ #[t, tn] ty #[v, y]).run P w = .ok v' w') (hgd : o.guard = none) (ho : o.op = .call { callee := .builtin .append, args := #[s, x], argTypes := #[t, tn] }) (hs : a.eval s = v) (hx : a.eval x = y)
    (h : wpList P ops Q rest (a.put o.dst v') w') : wpList P ops Q (o :: rest) a w := by
  refine wpList_plain hgd fun K hK => ?_
  unfold Oper.wp execOp
  simp only [ho, resolve, invoke, builtin, Sem.run_bind, Sem.run_pure, Result.andThen_ok, List.map_toArray, List.map_cons, List.map_nil, hs, hx, hr]
  exact hK _ _ h
set_option maxHeartbeats 1000000 in
set_option maxRecDepth 100000 in
theorem grow_any (n : Nat) (hn : n ≤ 1000) (W : World) : Calls Try.prog 81 #[.slice none 0 0, .int .i64 n] W fun e w' => ∃ v, e = .returned v ∧ Owns w' W.heap.size Tii v [] ∧ Below W.heap.size W w' := by
  obtain ⟨ti, hi, hz, hsz, hby⟩ := int_inf
  by_cases h0 : n = 0
  · subst h0
    go_enter Try.func81, Try.ntmps81
    go_wp2_with fail
    go_ret
    exact ⟨_, rfl, Owns.nil _ _ _, Below.refl _ _⟩
  · have hp : (0 : Int) < (n : Int) := by omega
    have happ : ∀ ty, (Builtin.append_ #[Tsi, Tii] ty #[.slice none 0 0, .int .i64 n]).run Try.prog W = .ok (.slice (some ⟨W.heap.size, 0, none⟩) n (grownCap W n 0 Tii)) (W.drew.alloc (.cells ((#[] : Array Value) ++ Builtin.zeroCells (Value.int .i64 0).cells n ++ Builtin.zeroCells (Value.int .i64 0).cells (grownCap W n 0 Tii - n)) Tii)) := by
      intro ty
      have h := Lib.run_append_grow_zeros (P := Try.prog) W Tsi Tii ty Tii ti (.int .i64 0) .i64 .i64 Try.underlying24 Try.underlying3 hi hz none 0 0 [] (by simp [Builtin.firstCells]) n (by omega) (by omega) (by omega) (by omega) (by rw [hby]; omega) (by
        have := nextslicecap_le_wide (need := 0 + n) (old := 0) (by omega)
        rw [hby]
        omega)
      simpa using h
    have hge := grownCap_ge W n 0 Tii
    have hle := grownCap_le_maxLen W n 0 Tii (by simp only [maxLen]; omega)
    obtain ⟨c, hc⟩ : ∃ c, c = grownCap W n 0 Tii := ⟨_, rfl⟩
    rw [← hc] at happ hge hle
    have HC := Lib.hid hc
    obtain ⟨cs, hcs⟩ : ∃ cs, cs = (#[] : Array Value) ++ Builtin.zeroCells (Value.int .i64 0).cells n ++ Builtin.zeroCells (Value.int .i64 0).cells (c - n) := ⟨_, rfl⟩
    rw [← hcs] at happ
    have hsize : cs.size = c := by
      rw [hcs]
      simp [Builtin.zeroCells, Value.cells]
      omega
    have HF := Lib.hid (show Owns (W.drew.alloc (.cells cs Tii)) W.heap.size Tii (.slice (some ⟨W.heap.size, 0, none⟩) 0 c) [] from ⟨rfl, .inr ⟨W.heap.size, c, cs, rfl, Nat.le_refl _, Mem.new W.drew Tii cs.toList, Nat.zero_le _, hle, by omega, rfl⟩⟩)
    have HB := Lib.hid (show Below W.heap.size W (W.drew.alloc (.cells cs Tii)) from (Below.refl _ _).drew.alloc (Nat.le_refl _) _)
    have HAP := Lib.hid happ
    clear hc hcs hsize hi hz hsz hby happ
    go_enter Try.func81, Try.ntmps81
    go_wp2_with (first
      | (at_builtin; refine wp_append_run (.tmp 20) (.tmp 21) Tsi Tii HAP.out rfl rfl rfl rfl ?_)
      | fail)
    go_ret
    exact ⟨_, rfl, HF.out, HB.out⟩
set_option maxHeartbeats 2000000 in
set_option maxRecDepth 100000 in
theorem concat_any (g : Nat) (pv hv : Value) (ps hs : List Int) (W : World) (h0 : W.cell? ⟨g, 0, none⟩ = some pv) (h1 : W.cell? ⟨g, 1, none⟩ = some hv) (hp : ZsR W pv ps) (hh : ZsR W hv hs) (hpl : ps.length ≤ 100) (hhl : hs.length ≤ 100) :
    Calls Try.prog 45 #[.slice (some ⟨g, 0, none⟩) 2 2] W fun e w' => ∃ v, e = .returned v ∧ Owns w' W.heap.size Tii v ((ps ++ hs).map fun k => Value.int .i64 k) ∧ Below W.heap.size W w' := by
  have HP := Lib.hid hp
  have HH := Lib.hid hh
  obtain ⟨pa, pc, rfl, _⟩ := hp.form
  obtain ⟨ha, hc, rfl, _⟩ := hh.form
  have HGR := Lib.hid (grow_any (ps.length + hs.length) (by omega) W)
  have H0 := Lib.hid h0
  have H1 := Lib.hid h1
  have hgl : g < W.heap.size := World.block_lt_of_cell? W ⟨g, 0, none⟩ h0
  clear hp hh
  go_enter Try.func45, Try.ntmps45
  go_wp2_with fail
  go_loopw [3, 11] (fun s i wr => ((i = .int .i64 0 ∧ s = .int .i64 0) ∨ (i = .int .i64 1 ∧ s = .int .i64 ps.length) ∨ (i = .int .i64 2 ∧ s = .int .i64 ((ps.length : Int) + (hs.length : Int)))) ∧ W = wr) (fun _ i _ => 2 - (intOf i).toNat)
  case atStart => exact ⟨.inl ⟨rfl, rfl⟩, rfl⟩
  case round =>
    obtain ⟨⟨rfl, rfl⟩ | ⟨rfl, rfl⟩ | ⟨rfl, rfl⟩, rfl⟩ := hrel
    · have hn : ¬ (ps.length : Int) < 0 := by omega
      go_wp2_with fail
      refine ⟨⟨.inr (.inl ⟨by go_num, by go_num⟩), by trivial⟩, ?_⟩
      simp [intOf]
    · have hn : ¬ (ps.length : Int) + (hs.length : Int) < 0 := by omega
      go_wp2_with fail
      refine ⟨⟨.inr (.inr ⟨by go_num, by go_num⟩), by trivial⟩, ?_⟩
      simp [intOf]
    · rw [show ((ps.length + hs.length : Nat) : Int) = (ps.length : Int) + (hs.length : Int) by omega] at HGR
      clear h0 h1
      go_wp2_with fail
      refine HGR.out.mono ?_
      rintro e w1 ⟨v, rfl, ho1, hb1⟩
      have HR0 : Hid (Owns w1 W.heap.size Tii v ((([] : List Int)).map fun k => Value.int .i64 k) ∧ Below W.heap.size W w1) := Lib.hid ⟨ho1, hb1⟩
      clear HGR ho1 hb1
      go_wp2_with fail
      go_loopw [6, 27] (fun v i wr => ∃ L : List Int, ((i = .int .i64 0 ∧ L = []) ∨ (i = .int .i64 1 ∧ L = ps) ∨ (i = .int .i64 2 ∧ L = ps ++ hs)) ∧ Hid (Owns wr W.heap.size Tii v (L.map fun k => Value.int .i64 k) ∧ Below W.heap.size W wr)) (fun _ i _ => 2 - (intOf i).toNat)
      case atStart => exact ⟨[], .inl ⟨rfl, rfl⟩, HR0⟩
      case round =>
        obtain ⟨L, hL, HR⟩ := hrel
        clear HR0
        rcases hL with ⟨rfl, rfl⟩ | ⟨rfl, rfl⟩ | ⟨rfl, rfl⟩
        · have c0 := (HR.out.2.cell (p := ⟨g, 0, none⟩) (by exact hgl)).trans H0.out
          have HPP := Lib.hid (HP.out.below HR.out.2)
          have HLN := Lib.hid (show ((([] : List Int).map fun k => Value.int .i64 k)).length + ps.length ≤ 1000000 by simp; omega)
          go_wp2_with (first
            | (at_builtin; refine wp_append_read HR.out.1 HPP.out (.tmp 31) (.tmp 32) rfl rfl rfl rfl HLN.out HR.out.2.size ?_
               intro v3 w3 ho3 hg3
               rw [← List.map_append, List.nil_append] at ho3
               have HX : Hid (Owns w3 W.heap.size Tii v3 (ps.map fun k => Value.int .i64 k) ∧ Below W.heap.size W w3) := Lib.hid ⟨ho3, below_grown HR.out.1 HR.out.2 (Nat.le_refl _) HR.out.2.size hg3⟩
               clear ho3 hg3)
            | fail)
          refine ⟨⟨ps, .inr (.inl ⟨by go_num, rfl⟩), HX⟩, ?_⟩
          simp [intOf]
        · have c1 := (HR.out.2.cell (p := ⟨g, 1, none⟩) (by exact hgl)).trans H1.out
          have HPP := Lib.hid (HH.out.below HR.out.2)
          have HLN := Lib.hid (show (L.map fun k => Value.int .i64 k).length + hs.length ≤ 1000000 by rw [List.length_map]; omega)
          go_wp2_with (first
            | (at_builtin; refine wp_append_read HR.out.1 HPP.out (.tmp 31) (.tmp 32) rfl rfl rfl rfl HLN.out HR.out.2.size ?_
               intro v3 w3 ho3 hg3
               rw [← List.map_append] at ho3
               have HX : Hid (Owns w3 W.heap.size Tii v3 ((L ++ hs).map fun k => Value.int .i64 k) ∧ Below W.heap.size W w3) := Lib.hid ⟨ho3, below_grown HR.out.1 HR.out.2 (Nat.le_refl _) HR.out.2.size hg3⟩
               clear ho3 hg3)
            | fail)
          refine ⟨⟨L ++ hs, .inr (.inr ⟨by go_num, rfl⟩), HX⟩, ?_⟩
          simp [intOf]
        · go_wp2_with fail
          go_ret
          exact ⟨_, rfl, HR.out.1, HR.out.2⟩
end Go.Proofs.Ytbkknhlagohhhaa

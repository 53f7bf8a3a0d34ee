/-
  SectorEdge: the walk.
-/
import Derived.Test.YthnkjgmoofhaoaaSec12
namespace Go.Proofs.Ythnkjgmoofhaoaa
open Go.RowKit Go.Maps Go.Sort Go.Shelf Crv

theorem wp_max1 {P : Program} {ops : Array Oper} {rest : List Oper} {o : Oper} {a : Act} {w : World} {Q : Exit → Act → World → Prop} {c d r : Int} {t : TypeId} (x y : Operand) (hr : max c d = r) (hgd : o.guard = none)
    (ho : o.op = .call { callee := .builtin .max, args := #[x, y], argTypes := #[t, t] }) (hx : a.eval x = .int .i64 c) (hy : a.eval y = .int .i64 d) (h : wpList P ops Q rest (a.put o.dst (.int .i64 r)) w) : wpList P ops Q (o :: rest) a w :=
  wp_max0 x y hgd ho hx hy (hr ▸ h)
theorem make_texts (m : Nat) (hm : m ≤ 1000) (w : World) : (Instr.makeSlice 26 (.int .i64 (m : Int)) (.int .i64 (m : Int))).run Try.prog w = .ok (.slice (some ⟨w.heap.size, 0, none⟩) m m) (w.alloc (.cells (Array.replicate m (tx [])) 9)) := by
  obtain ⟨i, hi, hz, hs, hb⟩ : ∃ i, Try.prog.info? 9 = some i ∧ i.zero = some (.string ⟨#[]⟩) ∧ i.size = 1 ∧ i.bytes = 16 := info_of (by kernel_rfl)
  have hr := run_make (P := Try.prog) w 26 9 i (.string ⟨#[]⟩) Try.underlying26 hi hz .i64 .i64 m m (by omega) (by omega) (by rw [hb]; omega) (by omega)
  simp only [Int.toNat_natCast, hs, Nat.mul_one] at hr
  have e : (madeCells (Value.string ⟨#[]⟩).cells m) = Array.replicate m (tx []) := by
    rw [← List.toArray_replicate, ← toList_madeCells_one]; rfl
  rw [hr, e]
theorem texts_new (m : Nat) (w : World) : Txs (w.alloc (.cells (Array.replicate m (tx [])) 9)) (.slice (some ⟨w.heap.size, 0, none⟩) m m) (List.replicate m []) := by
  have h := Txs.new (w := w) (t := 9) (List.replicate m ([] : List UInt8)) m
  rw [List.length_replicate, List.map_replicate, List.toArray_replicate] at h
  exact h

set_option maxHeartbeats 2000000 in
set_option maxRecDepth 100000 in
theorem sectorEdge_walk (size at_ n : Int) (ha : at_ ≤ 9223372036854775807) (ha' : -9223372036854775808 ≤ at_) (hn' : -9223372036854775808 ≤ n) (w : World) :
    Calls Try.prog 8 #[.int .i64 size, .int .i64 at_, .int .i64 n] w fun e w' => e = .returned (.bool true) ∧ Below w.heap.size w w' := by
  have HAW := Lib.hid awake3_any
  obtain ⟨sz, hsz⟩ : ∃ sz : Nat, min (max size 0) 40 = (sz : Int) := ⟨(min (max size 0) 40).toNat, by omega⟩
  have hs40 : sz ≤ 40 := by omega
  have HSZ := Lib.hid hsz
  clear hsz
  by_cases hn : 1000 < n
  · go_enter Try.func8, Try.ntmps8
    go_wp2_with (first
      | (refine wp_max0 (c := size) (d := 0) (.tmp 13) (.const (.int .i64 0)) rfl rfl rfl rfl ?_)
      | (refine wp_min0 (c := max size 0) (d := 40) (.tmp 14) (.const (.int .i64 40)) HSZ.out rfl rfl rfl rfl ?_)
      | fail)
    refine (HAW.out _).mono ?_
    rintro e w1 ⟨rfl, hb1⟩
    go_wp2_with fail
    refine (HAW.out _).mono ?_
    rintro e w2 ⟨rfl, hb2⟩
    go_wp2
    go_ret
    exact ⟨rfl, belowThen hb1 hb2⟩
  have hn2 : ¬ 1000 < n := hn
  clear hn
  by_cases hc1 : n < 0
  · have HHAS := Lib.hid (show hasS sz at_ n = false by unfold hasS; simp; omega)
    have hl0 : ¬ 0 ≤ n := by omega
    go_enter Try.func8, Try.ntmps8
    go_wp2_with (first
      | (refine wp_max0 (c := size) (d := 0) (.tmp 13) (.const (.int .i64 0)) rfl rfl rfl rfl ?_)
      | (refine wp_min0 (c := max size 0) (d := 40) (.tmp 14) (.const (.int .i64 40)) HSZ.out rfl rfl rfl rfl ?_)
      | fail)
    refine (HAW.out _).mono ?_
    rintro e w1 ⟨rfl, hb1⟩
    have HN := Lib.hid (new_any sz (by omega) w1)
    go_wp2_with fail
    refine HN.out.mono ?_
    rintro e w2 ⟨fb, cb, mb, db, rfl, hd2, hb2, g1, g2, g3, g4⟩
    have HB2 := Lib.hid (belowThen hb1 hb2)
    have hb1s := hb1.size
    have HG := Lib.hid (three_ge (Nat.le_trans hb1s g1) (Nat.le_trans hb1s g2) (Nat.le_trans hb1s g3))
    have HD2 := Lib.hid hd2
    clear HN hd2 hb2 hb1 g1 g2 g3 g4 hb1s
    have HR := Lib.hid (read_out at_ n ha HD2.out HHAS.out)
    go_wp2_with fail
    refine HR.out.mono ?_
    rintro e w3 ⟨rfl, rfl⟩
    clear HR
    have hmk := fun W => make_texts 0 (by omega) W
    rw [show ((0 : Nat) : Int) = 0 from rfl] at hmk
    by_cases hh : hasS sz at_ 0 = true
    · obtain ⟨i, rfl⟩ : ∃ i : Nat, at_ = i := ⟨at_.toNat, by unfold hasS at hh; simp at hh; omega⟩
      have hi : i ≤ sz := by unfold hasS at hh; simp at hh; omega
      have HW := Lib.hid (write_ok i (.slice (some ⟨w2.heap.size, 0, none⟩) 0 0) [] (texts_new 0 w2) (by simp) (HD2.out.below (belowSelf w2 _)) (by simpa using hi) (by simp) rfl)
      have HB3 := Lib.hid (belowThen HB2.out (belowSelf w2 (.cells (Array.replicate 0 (tx [])) 9)))
      clear hh hi
      go_wp2_with (first
          | (refine wp_max1 (c := n) (d := 0) (r := 0) (.tmp 74) (.const (.int .i64 0)) (by omega) rfl rfl rfl rfl ?_)
          | fail)
      refine HW.out.mono ?_
      rintro e w4 ⟨rfl, hd4, ho4⟩
      have HB4 := Lib.hid (Only.belowW HB3.out ho4 HG.out)
      clear hd4 ho4
      go_wp2
      go_ret
      exact ⟨rfl, HB4.out⟩
    · have HW := Lib.hid (write_out at_ (.slice (some ⟨w2.heap.size, 0, none⟩) 0 0) [] (texts_new 0 w2) ha (HD2.out.below (belowSelf w2 _)) (by simpa using hh))
      have HB3 := Lib.hid (belowThen HB2.out (belowSelf w2 (.cells (Array.replicate 0 (tx [])) 9)))
      clear hh
      go_wp2_with (first
          | (refine wp_max1 (c := n) (d := 0) (r := 0) (.tmp 74) (.const (.int .i64 0)) (by omega) rfl rfl rfl rfl ?_)
          | fail)
      refine HW.out.mono ?_
      rintro e w4 ⟨rfl, rfl⟩
      go_wp2
      go_ret
      exact ⟨rfl, HB3.out⟩
  obtain ⟨m, rfl⟩ : ∃ m : Nat, n = m := ⟨n.toNat, by omega⟩
  have e0 : ¬ (m : Int) < 0 := hc1
  clear hc1 hn'
  by_cases hc2 : at_ < 0
  · have e1 : ¬ 0 ≤ at_ := by omega
    have HHAS := Lib.hid (show hasS sz at_ (m : Int) = false by unfold hasS; simp; omega)
    go_enter Try.func8, Try.ntmps8
    go_wp2_with (first
      | (refine wp_max0 (c := size) (d := 0) (.tmp 13) (.const (.int .i64 0)) rfl rfl rfl rfl ?_)
      | (refine wp_min0 (c := max size 0) (d := 40) (.tmp 14) (.const (.int .i64 40)) HSZ.out rfl rfl rfl rfl ?_)
      | fail)
    refine (HAW.out _).mono ?_
    rintro e w1 ⟨rfl, hb1⟩
    have HN := Lib.hid (new_any sz (by omega) w1)
    go_wp2_with fail
    refine HN.out.mono ?_
    rintro e w2 ⟨fb, cb, mb, db, rfl, hd2, hb2, g1, g2, g3, g4⟩
    have HB2 := Lib.hid (belowThen hb1 hb2)
    have hb1s := hb1.size
    have HG := Lib.hid (three_ge (Nat.le_trans hb1s g1) (Nat.le_trans hb1s g2) (Nat.le_trans hb1s g3))
    have HD2 := Lib.hid hd2
    clear HN hd2 hb2 hb1 g1 g2 g3 g4 hb1s
    have HR := Lib.hid (read_out at_ (m : Int) ha HD2.out HHAS.out)
    go_wp2_with fail
    refine HR.out.mono ?_
    rintro e w3 ⟨rfl, rfl⟩
    clear HR
    have hmk := fun W => make_texts m (by omega) W
    have HW := Lib.hid (write_out at_ (.slice (some ⟨w2.heap.size, 0, none⟩) m m) (List.replicate m []) (texts_new m w2) ha (HD2.out.below (belowSelf w2 _)) (by rw [List.length_replicate]; exact HHAS.out))
    have HB3 := Lib.hid (belowThen HB2.out (belowSelf w2 (.cells (Array.replicate m (tx [])) 9)))
    go_wp2_with (first
        | (refine wp_max1 (c := (m : Int)) (d := 0) (r := (m : Int)) (.tmp 74) (.const (.int .i64 0)) (by omega) rfl rfl rfl rfl ?_)
        | fail)
    refine HW.out.mono ?_
    rintro e w4 ⟨rfl, rfl⟩
    go_wp2
    go_ret
    exact ⟨rfl, HB3.out⟩
  obtain ⟨i, rfl⟩ : ∃ i : Nat, at_ = i := ⟨at_.toNat, by omega⟩
  clear hc2 ha'
  by_cases hc3 : sz < i
  · have HHAS := Lib.hid (show hasS sz (i : Int) (m : Int) = false by unfold hasS; simp; omega)
    have e2 : ¬ (i : Int) ≤ sz := by omega
    go_enter Try.func8, Try.ntmps8
    go_wp2_with (first
      | (refine wp_max0 (c := size) (d := 0) (.tmp 13) (.const (.int .i64 0)) rfl rfl rfl rfl ?_)
      | (refine wp_min0 (c := max size 0) (d := 40) (.tmp 14) (.const (.int .i64 40)) HSZ.out rfl rfl rfl rfl ?_)
      | fail)
    refine (HAW.out _).mono ?_
    rintro e w1 ⟨rfl, hb1⟩
    have HN := Lib.hid (new_any sz (by omega) w1)
    go_wp2_with fail
    refine HN.out.mono ?_
    rintro e w2 ⟨fb, cb, mb, db, rfl, hd2, hb2, g1, g2, g3, g4⟩
    have HB2 := Lib.hid (belowThen hb1 hb2)
    have hb1s := hb1.size
    have HG := Lib.hid (three_ge (Nat.le_trans hb1s g1) (Nat.le_trans hb1s g2) (Nat.le_trans hb1s g3))
    have HD2 := Lib.hid hd2
    clear HN hd2 hb2 hb1 g1 g2 g3 g4 hb1s
    have HR := Lib.hid (read_out (i : Int) (m : Int) ha HD2.out HHAS.out)
    go_wp2_with fail
    refine HR.out.mono ?_
    rintro e w3 ⟨rfl, rfl⟩
    clear HR
    have hmk := fun W => make_texts m (by omega) W
    have HW := Lib.hid (write_out (i : Int) (.slice (some ⟨w2.heap.size, 0, none⟩) m m) (List.replicate m []) (texts_new m w2) ha (HD2.out.below (belowSelf w2 _)) (by rw [List.length_replicate]; exact HHAS.out))
    have HB3 := Lib.hid (belowThen HB2.out (belowSelf w2 (.cells (Array.replicate m (tx [])) 9)))
    go_wp2_with (first
        | (refine wp_max1 (c := (m : Int)) (d := 0) (r := (m : Int)) (.tmp 74) (.const (.int .i64 0)) (by omega) rfl rfl rfl rfl ?_)
        | fail)
    refine HW.out.mono ?_
    rintro e w4 ⟨rfl, rfl⟩
    go_wp2
    go_ret
    exact ⟨rfl, HB3.out⟩
  by_cases hc4 : sz < i + m
  · have HHAS := Lib.hid (show hasS sz (i : Int) (m : Int) = false by unfold hasS; simp; omega)
    have e2 : (i : Int) ≤ sz := by omega
    have e3 : ¬ (sz : Int) < i := by omega
    have e4 : ¬ (m : Int) ≤ sz - i := by omega
    go_enter Try.func8, Try.ntmps8
    go_wp2_with (first
      | (refine wp_max0 (c := size) (d := 0) (.tmp 13) (.const (.int .i64 0)) rfl rfl rfl rfl ?_)
      | (refine wp_min0 (c := max size 0) (d := 40) (.tmp 14) (.const (.int .i64 40)) HSZ.out rfl rfl rfl rfl ?_)
      | fail)
    refine (HAW.out _).mono ?_
    rintro e w1 ⟨rfl, hb1⟩
    have HN := Lib.hid (new_any sz (by omega) w1)
    go_wp2_with fail
    refine HN.out.mono ?_
    rintro e w2 ⟨fb, cb, mb, db, rfl, hd2, hb2, g1, g2, g3, g4⟩
    have HB2 := Lib.hid (belowThen hb1 hb2)
    have hb1s := hb1.size
    have HG := Lib.hid (three_ge (Nat.le_trans hb1s g1) (Nat.le_trans hb1s g2) (Nat.le_trans hb1s g3))
    have HD2 := Lib.hid hd2
    clear HN hd2 hb2 hb1 g1 g2 g3 g4 hb1s
    have HR := Lib.hid (read_out (i : Int) (m : Int) ha HD2.out HHAS.out)
    go_wp2_with fail
    refine HR.out.mono ?_
    rintro e w3 ⟨rfl, rfl⟩
    clear HR
    have hmk := fun W => make_texts m (by omega) W
    have HW := Lib.hid (write_out (i : Int) (.slice (some ⟨w2.heap.size, 0, none⟩) m m) (List.replicate m []) (texts_new m w2) ha (HD2.out.below (belowSelf w2 _)) (by rw [List.length_replicate]; exact HHAS.out))
    have HB3 := Lib.hid (belowThen HB2.out (belowSelf w2 (.cells (Array.replicate m (tx [])) 9)))
    go_wp2_with (first
        | (refine wp_max1 (c := (m : Int)) (d := 0) (r := (m : Int)) (.tmp 74) (.const (.int .i64 0)) (by omega) rfl rfl rfl rfl ?_)
        | fail)
    refine HW.out.mono ?_
    rintro e w4 ⟨rfl, rfl⟩
    go_wp2
    go_ret
    exact ⟨rfl, HB3.out⟩
  have e2 : (i : Int) ≤ sz := by omega
  have e3 : ¬ (sz : Int) < i := by omega
  have e4 : (m : Int) ≤ sz - i := by omega
  have hh : i + m ≤ sz := by omega
  go_enter Try.func8, Try.ntmps8
  go_wp2_with (first
      | (refine wp_max0 (c := size) (d := 0) (.tmp 13) (.const (.int .i64 0)) rfl rfl rfl rfl ?_)
      | (refine wp_min0 (c := max size 0) (d := 40) (.tmp 14) (.const (.int .i64 40)) HSZ.out rfl rfl rfl rfl ?_)
      | fail)
  refine (HAW.out _).mono ?_
  rintro e w1 ⟨rfl, hb1⟩
  have HN := Lib.hid (new_any sz (by omega) w1)
  go_wp2_with fail
  refine HN.out.mono ?_
  rintro e w2 ⟨fb, cb, mb, db, rfl, hd2, hb2, g1, g2, g3, g4⟩
  have HB2 := Lib.hid (belowThen hb1 hb2)
  have hb1s := hb1.size
  have HG := Lib.hid (three_ge (Nat.le_trans hb1s g1) (Nat.le_trans hb1s g2) (Nat.le_trans hb1s g3))
  have HD2 := Lib.hid hd2
  clear HN hd2 hb2 hb1 g1 g2 g3 g4 hb1s
  have HR := Lib.hid (read_ok i m HD2.out hh rfl)
  have HRL := Lib.hid (length_rowS HD2.out.len hh)
  obtain ⟨res, hres⟩ : ∃ r, r = rowS (List.replicate (64 * sz) (0 : UInt8)) i m := ⟨_, rfl⟩
  rw [← hres] at HR HRL
  have hrl : res.length = 64 * m := HRL.out
  clear hres HRL
  go_wp2_with fail
  refine HR.out.mono ?_
  rintro e w3 ⟨rfl, hd3, ho3, -⟩
  have HB2 := Lib.hid (Only.belowW HB2.out ho3 HG.out)
  have HD3 := Lib.hid hd3
  clear HR hd3 ho3 HD2
  have hmk := fun W => make_texts m (by omega) W
  have HW := Lib.hid (write_ok i (.slice (some ⟨w3.heap.size, 0, none⟩) m m) (List.replicate m []) (texts_new m w3) (by rw [List.length_replicate]; omega) (HD3.out.below (belowSelf w3 _)) (by rw [List.length_replicate]; exact hh) (by intro l hl; rw [List.eq_of_mem_replicate hl]; simp) rfl)
  have HB3 := Lib.hid (belowThen HB2.out (belowSelf w3 (.cells (Array.replicate m (tx [])) 9)))
  go_wp2_with (first
      | (refine wp_max1 (c := (m : Int)) (d := 0) (r := (m : Int)) (.tmp 74) (.const (.int .i64 0)) (by omega) rfl rfl rfl rfl ?_)
      | fail)
  refine HW.out.mono ?_
  rintro e w4 ⟨rfl, hd4, ho4⟩
  have HB4 := Lib.hid (Only.belowW HB3.out ho4 HG.out)
  clear hd4 ho4
  go_wp2
  go_ret
  exact ⟨rfl, HB4.out⟩
end Go.Proofs.Ythnkjgmoofhaoaa

/-
  Package letter: Reply; the law's Few.
-/
import Derived.Test.YtbkknhlagohhhaaLet0
namespace Go.Proofs.Ytbkknhlagohhhaa
open Go.RowKit Crv

theorem wp_store_row2 {P : Program} {ops : Array Oper} {rest : List Oper} {o : Oper} {a : Act} {w : World} {Q : Exit → Act → World → Prop} {g off : Nat} {t : TypeId} {old : List Value} (hm : Mem w g t old) (cs : List Value) (ty : TypeId) (x y : Operand) (hgd : o.guard = none) (ho : o.op = .store ty x y)
    (hx : a.eval x = .pointer (some ⟨g, off, none⟩)) (hy : a.eval y = .agg cs.toArray) (hi : (P.info? ty).map (·.size) = some cs.length) (hl : off + cs.length ≤ old.length) (h1 : ∀ v ∈ cs, v.oneCell' = true)
    (h : ∀ W, Mem W g t (old.take off ++ (cs ++ old.drop (off + cs.length))) → w.grownBy W (some g) → wpList P ops Q rest (a.put o.dst undef) W) : wpList P ops Q (o :: rest) a w := by
  refine wpList_plain hgd fun K hK => ?_
  have hr := run_store_rowOf (P := P) (n := cs.length) hi w g off cs rfl h1 (hm.hasRow off cs.length hl)
  unfold Oper.wp execOp
  simp only [ho, hx, hy, hr, Sem.run_bind, Sem.run_pure, Result.andThen_ok]
  exact hK _ _ (h _ (setCells_row cs off w old hm hl) (grown_cells cs off w (grownRefl _ _)))
theorem below_set {B : Nat} {a w : World} (h : Below B a w) (g i : Nat) (u : Value) (hg : B ≤ g) : Below B a (w.setCell ⟨g, i, none⟩ u) :=
  h.trans ⟨rfl, rfl, rfl, by simp [World.setCell], fun k hk => Below.heap_setCell w ⟨g, i, none⟩ u k (by simp only; omega)⟩
def zeroL : LV := ⟨0, 0, 0, 0, List.replicate 32 0, 0, [], .slice none 0 0, .slice none 0 0⟩
abbrev zA : Array Value := #[Value.int .i64 0, Value.int .i64 0, Value.int .i64 0, Value.int .i64 0, Value.int .u8 0, Value.int .u8 0, Value.int .u8 0, Value.int .u8 0, Value.int .u8 0, Value.int .u8 0, Value.int .u8 0, Value.int .u8 0, Value.int .u8 0, Value.int .u8 0, Value.int .u8 0, Value.int .u8 0, Value.int .u8 0, Value.int .u8 0, Value.int .u8 0, Value.int .u8 0, Value.int .u8 0, Value.int .u8 0, Value.int .u8 0, Value.int .u8 0, Value.int .u8 0, Value.int .u8 0, Value.int .u8 0, Value.int .u8 0, Value.int .u8 0, Value.int .u8 0, Value.int .u8 0, Value.int .u8 0, Value.int .u8 0, Value.int .u8 0, Value.int .u8 0, Value.int .u8 0, Value.int .i64 0, Value.string ⟨#[]⟩, Value.slice none 0 0, Value.slice none 0 0]
theorem zero_cells : zA = (ltC zeroL).toArray := by kernel_rfl
theorem one_ltC (l : LV) (h1 : l.pv.oneCell' = true) (h2 : l.hv.oneCell' = true) : ∀ u ∈ ltC l, u.oneCell' = true := by
  intro u hu
  simp only [ltC, List.mem_cons, List.mem_append, List.mem_map, List.mem_nil_iff, or_false] at hu
  rcases hu with rfl | rfl | rfl | rfl | ⟨b, _, rfl⟩ | rfl | rfl | rfl | rfl
  all_goals first | rfl | assumption
/-- The first four fields of a letter built. -/
theorem build4 (a b c d : Int) (W : World) : (Instr.build Tlt #[(0, .int .i64 a), (1, .int .i64 b), (2, .int .i64 c), (3, .int .i64 d)]).run Try.prog W = .ok (.agg (ltC { zeroL with kind := a, fr := b, to := c, seq := d }).toArray) W := by kernel_rfl
theorem wp_build4 {P : Program} {ops : Array Oper} {rest : List Oper} {o : Oper} {a : Act} {w : World} {Q : Exit → Act → World → Prop} {ty : TypeId} {x0 x1 x2 x3 : Operand} {u0 u1 u2 u3 r : Value} (hr : (Instr.build ty #[(0, u0), (1, u1), (2, u2), (3, u3)]).run P w = .ok r w) (hgd : o.guard = none) (ho : o.op = .build ty #[(0, x0), (1, x1), (2, x2), (3, x3)])
    (h0 : a.eval x0 = u0) (h1 : a.eval x1 = u1) (h2 : a.eval x2 = u2) (h3 : a.eval x3 = u3)
    (h : wpList P ops Q rest (a.put o.dst r) w) : wpList P ops Q (o :: rest) a w := by
  refine wpList_plain hgd fun K hK => ?_
  unfold Oper.wp execOp
  simp only [ho, List.map_toArray, List.map_cons, List.map_nil, h0, h1, h2, h3, hr, Sem.run_bind, Sem.run_pure, Result.andThen_ok]
  exact hK _ _ h
theorem ltC_id (l : LV) (h : l.id.length = 32) (x : List UInt8) (hx : x.length = 32) : (ltC l).take 4 ++ (x.map byteV ++ (ltC l).drop (4 + (x.map byteV).length)) = ltC { l with id := x } := by
  rw [List.length_map, hx]
  unfold ltC
  rw [show 4 + 32 = 32 + 1 + 1 + 1 + 1 from rfl]
  simp only [List.take_succ_cons, List.take_zero, List.drop_succ_cons]
  rw [List.drop_append_of_le_length (by rw [List.length_map, h]; exact Nat.le_refl _), List.drop_of_length_le (by rw [List.length_map, h]; exact Nat.le_refl _)]
  rfl
theorem ltC_what (l : LV) (h : l.id.length = 32) (x : Int) : (ltC l).set 36 (.int .i64 x) = ltC { l with what := x } := by
  unfold ltC
  rw [show 36 = 32 + 1 + 1 + 1 + 1 from rfl]
  simp only [List.set_cons_succ]
  rw [List.set_append_right _ _ (by rw [List.length_map, h]; exact Nat.le_refl _), List.length_map, h]
  rfl
theorem ltC_text (l : LV) (h : l.id.length = 32) (x : List UInt8) : (ltC l).set 37 (tx x) = ltC { l with text := x } := by
  unfold ltC
  rw [show 37 = 33 + 1 + 1 + 1 + 1 from rfl]
  simp only [List.set_cons_succ]
  rw [List.set_append_right _ _ (by rw [List.length_map, h]; omega), List.length_map, h]
  rfl
theorem ltC_pv (l : LV) (h : l.id.length = 32) (x : Value) : (ltC l).set 38 x = ltC { l with pv := x } := by
  unfold ltC
  rw [show 38 = 34 + 1 + 1 + 1 + 1 from rfl]
  simp only [List.set_cons_succ]
  rw [List.set_append_right _ _ (by rw [List.length_map, h]; omega), List.length_map, h]
  rfl
theorem ltC_hv (l : LV) (h : l.id.length = 32) (x : Value) : (ltC l).set 39 x = ltC { l with hv := x } := by
  unfold ltC
  rw [show 39 = 35 + 1 + 1 + 1 + 1 from rfl]
  simp only [List.set_cons_succ]
  rw [List.set_append_right _ _ (by rw [List.length_map, h]; omega), List.length_map, h]
  rfl
/-- What goes back. -/
def replyL (l : LV) (k : Int) : LV := { zeroL with kind := k, fr := l.to, to := l.fr, seq := l.seq, id := if idK k then l.id else zeroL.id, what := if whatK k then l.what else 0 }
set_option maxHeartbeats 1000000 in
set_option maxRecDepth 100000 in
theorem reply_any (l : LV) (k : Int) (W : World) (hid : l.id.length = 32) : Calls Try.prog 24 #[.agg (ltC l).toArray, .int .i64 k] W fun e w' => e = .returned (.agg (ltC (replyL l k)).toArray) ∧ Below W.heap.size W w' := by
  have HID := Lib.hid (fun w => hasID_any k w)
  have HWH := Lib.hid (fun w => hasWhat_any k w)
  have hM0 : Mem ((W.alloc (.cells (ltC l).toArray Tlt)).alloc (.cells zA Tlt)) W.heap.size Tlt (ltC l) := (Mem.new W Tlt (ltC l)).alloc _
  have hM1 : Mem ((W.alloc (.cells (ltC l).toArray Tlt)).alloc (.cells zA Tlt)) (W.heap.size + 1) Tlt (ltC zeroL) := by
    rw [zero_cells]
    exact Mem.newAt _ Tlt (ltC zeroL) (by simp)
  have hB1 : Below W.heap.size W ((W.alloc (.cells (ltC l).toArray Tlt)).alloc (.cells zA Tlt)) := ((Below.refl _ _).alloc (Nat.le_refl _) _).alloc (by simp) _
  have hM2 : Mem (((W.alloc (.cells (ltC l).toArray Tlt)).alloc (.cells zA Tlt)).alloc (.cells zA Tlt)) (W.heap.size + 1 + 1) Tlt (ltC zeroL) := by
    rw [zero_cells]
    exact Mem.newAt _ Tlt (ltC zeroL) (by simp)
  have HM2 := Lib.hid hM2
  have HB2 := Lib.hid (hB1.alloc (B := W.heap.size) (by simp; omega) (.cells zA Tlt))
  obtain ⟨⟨h00, h01, h02, h03⟩, -⟩ := lt_cells hM0 hid
  have HM0 := Lib.hid (hM0.alloc (.cells zA Tlt))
  have HM1 := Lib.hid (hM1.alloc (.cells zA Tlt))
  obtain ⟨r1, hr1⟩ : ∃ r1 : LV, r1 = { zeroL with kind := k, fr := l.to, to := l.fr, seq := l.seq } := ⟨_, rfl⟩
  have HBD := Lib.hid (fun W => build4 k l.to l.fr l.seq W)
  rw [← hr1] at HBD
  have HR1 := Lib.hid hr1
  have hid1 : r1.id.length = 32 := by rw [hr1]; rfl
  have SZ1 := Lib.hid (sz_lt r1 hid1)
  have HL1 := Lib.hid (show (ltC zeroL).length = (ltC r1).length by rw [length_ltC r1 hid1, length_ltC zeroL rfl])
  have ONE1 := Lib.hid (one_ltC r1 (by rw [hr1]; rfl) (by rw [hr1]; rfl))
  clear hM0 hM1 hM2 hB1 hr1
  go_enter Try.func24, Try.ntmps24
  go_wp2_with (first
    | (refine wp_build4 (HBD.out _) rfl rfl rfl rfl rfl rfl ?_)
    | (refine wp_store_gen (B := W.heap.size) (w0 := W) HB2.out (by omega) HM2.out (ltC r1) Tlt (.tmp 5) (.tmp 13) rfl rfl rfl rfl SZ1.out HL1.out ONE1.out ?_
       intro W2 hm2 hb2 hsz2 ho2
       have HN0 := Lib.hid (show Mem W2 W.heap.size Tlt (ltC l) from (ho2 _ (by omega)).trans HM0.out)
       have HN1 := Lib.hid (show Mem W2 (W.heap.size + 1) Tlt (ltC zeroL) from (ho2 _ (by omega)).trans HM1.out)
       have HN2 := Lib.hid hm2
       have HNB := Lib.hid hb2
       clear hm2 hb2 hsz2 ho2)
    | fail)
  have SZI := Lib.hid (sz_id l.id hid)
  have ONEI := Lib.hid (oneBytes l.id)
  refine (HID.out _).mono ?_
  rintro e w ⟨rfl, rfl⟩
  have hpi : r1.pv.oneCell' = true ∧ r1.hv.oneCell' = true := by rw [HR1.out]; exact ⟨rfl, rfl⟩
  have HPI := Lib.hid hpi
  clear hpi
  cases hk : idK k
  case' false =>
    have hrep0 : replyL l k = { r1 with what := if whatK k then l.what else 0 } := by
      rw [HR1.out]
      unfold replyL
      rw [hk]
      rfl
    obtain ⟨r2, hr2⟩ : ∃ r2, r2 = r1 := ⟨_, rfl⟩
    have HW2 : Hid (r2.what = 0) := Lib.hid (by rw [hr2, HR1.out]; rfl)
    rw [← hr2] at hrep0 HN2 HPI hid1
    have HP0 := Lib.hid HN0.out
    have HP1 := Lib.hid HN1.out
    have HP2 := Lib.hid HN2.out
    have HPB := Lib.hid HNB.out
    have HREP := Lib.hid hrep0
    have HI2 := Lib.hid hid1
    clear hrep0 hid1 hr2 HN0 HN1 HN2 HNB HM0 HM1 HM2 HB2 hk
    go_wp2_with fail
  case' true =>
    have hrep0 : replyL l k = { ({ r1 with id := l.id } : LV) with what := if whatK k then l.what else 0 } := by
      rw [HR1.out]
      unfold replyL
      rw [hk]
      rfl
    have hst := ltC_id r1 hid1 l.id hid
    obtain ⟨r2, hr2⟩ : ∃ r2, r2 = { r1 with id := l.id } := ⟨_, rfl⟩
    have HI2 : Hid (r2.id.length = 32) := Lib.hid (by rw [hr2]; exact hid)
    have HW2 : Hid (r2.what = 0) := Lib.hid (by rw [hr2, HR1.out]; rfl)
    have HPJ : Hid (r2.pv.oneCell' = true ∧ r2.hv.oneCell' = true) := Lib.hid (by rw [hr2]; exact HPI.out)
    rw [← hr2] at hrep0 hst
    have HREP := Lib.hid hrep0
    have HST := Lib.hid hst
    have HLN := Lib.hid (show 4 + (l.id.map byteV).length ≤ (ltC r1).length by rw [length_ltC r1 hid1, List.length_map, hid]; omega)
    clear hrep0 hst hr2 HM0 HM1 HM2 HB2 hk HPI
    have HPI := HPJ
    clear HPJ
    go_wp2_with (first
      | (refine wp_load_row (ltC_rng HN0.out) Ti (.tmp 16) (.array 32 5) rfl rfl rfl Try.underlying23 rfl SZI.out ?_)
      | (refine wp_store_row2 HN2.out (l.id.map byteV) Ti (.tmp 18) (.tmp 17) rfl rfl rfl rfl SZI.out HLN.out ONEI.out ?_
         intro W3 hm3 hg3
         rw [HST.out] at hm3
         have HP0 := Lib.hid (Mem.grown HN0.out hg3 (fun e => by injection e with e; omega))
         have HP1 := Lib.hid (Mem.grown HN1.out hg3 (fun e => by injection e with e; omega))
         have HP2 := Lib.hid hm3
         have HPB := Lib.hid (HNB.out.trans (⟨hg3.os, hg3.tape, hg3.output, hg3.size, fun i hi => hg3.block i (by have := HNB.out.size; omega) (fun e => by injection e with e; omega)⟩ : Below W.heap.size _ _))
         clear hm3 hg3 HN0 HN1 HN2 HNB)
      | fail)
  all_goals
    refine (HWH.out _).mono ?_
    rintro e w ⟨rfl, rfl⟩
    have HL0 := Lib.hid (show (ltC zeroL).length = 40 from length_ltC zeroL rfl)
    cases hw : whatK k
    case' false =>
      have hrep1 : replyL l k = r2 := by
        rw [HREP.out, hw]
        have := HW2.out
        cases r2
        simp only at this
        subst this
        rfl
      have HRP := Lib.hid hrep1
      have SZ2 := Lib.hid (sz_lt r2 HI2.out)
      have ONE2 := Lib.hid (one_ltC r2 HPI.out.1 HPI.out.2)
      have HLE := Lib.hid (show (ltC zeroL).length = (ltC r2).length by rw [HL0.out, length_ltC r2 HI2.out])
      clear hw HREP hrep1 SZ1 HL1 ONE1 HBD HR1 HW2
      go_wp2_with (first
        | (refine wp_load_mem HP2.out Tlt (.tmp 5) _ rfl rfl rfl Try.underlying26 rfl SZ2.out ?_)
        | (refine wp_store_gen (B := W.heap.size) (w0 := W) HPB.out (by omega) HP1.out (ltC r2) Tlt (.tmp 4) (.tmp 24) rfl rfl rfl rfl SZ2.out HLE.out ONE2.out ?_
           intro W5 hm5 hb5 _ _
           have HM5 := Lib.hid hm5
           have HB5 := Lib.hid hb5
           clear hm5 hb5)
        | fail)
    case' true =>
      obtain ⟨r3, hr3⟩ : ∃ r3 : LV, r3 = { r2 with what := l.what } := ⟨_, rfl⟩
      have hrep1 : replyL l k = r3 := by rw [HREP.out, hw, hr3]; rfl
      have HRP := Lib.hid hrep1
      have HI3 : Hid (r3.id.length = 32) := Lib.hid (by rw [hr3]; exact HI2.out)
      have SZ2 := Lib.hid (sz_lt r3 HI3.out)
      have ONE2 := Lib.hid (one_ltC r3 (by rw [hr3]; exact HPI.out.1) (by rw [hr3]; exact HPI.out.2))
      have HLE := Lib.hid (show (ltC zeroL).length = (ltC r3).length by rw [HL0.out, length_ltC r3 HI3.out])
      have c0 := (lt_cells HP0.out hid).2.1
      have c2 := (lt_cells HP2.out HI2.out).2.1
      have z2 := HP2.out.frozen 36
      have hset := ltC_what r2 HI2.out l.what
      rw [← hr3] at hset
      have hQ2 := HP2.out.set 36 (.int .i64 l.what)
      rw [hset] at hQ2
      have HQ2 := Lib.hid hQ2
      have HQ1 := Lib.hid (HP1.out.other (p := ⟨W.heap.size + 1 + 1, 36, none⟩) (by simp only; omega) (.int .i64 l.what))
      have HQB := Lib.hid (below_set HPB.out (W.heap.size + 1 + 1) 36 (.int .i64 l.what) (by omega))
      clear hw HREP hrep1 hr3 hset hQ2 SZ1 HL1 ONE1 HBD HR1 HW2
      go_wp2_with (first
        | (refine wp_load_mem HQ2.out Tlt (.tmp 5) _ rfl rfl rfl Try.underlying26 rfl SZ2.out ?_)
        | (refine wp_store_gen (B := W.heap.size) (w0 := W) HQB.out (by omega) HQ1.out (ltC r3) Tlt (.tmp 4) (.tmp 24) rfl rfl rfl rfl SZ2.out HLE.out ONE2.out ?_
           intro W5 hm5 hb5 _ _
           have HM5 := Lib.hid hm5
           have HB5 := Lib.hid hb5
           clear hm5 hb5)
        | fail)
    all_goals
      refine bodyPost_ret (results_mem HM5.out rfl _ _ rfl Try.underlying26 rfl SZ2.out) rfl ⟨?_, HB5.out⟩
      rw [HRP.out]
end Go.Proofs.Ytbkknhlagohhhaa

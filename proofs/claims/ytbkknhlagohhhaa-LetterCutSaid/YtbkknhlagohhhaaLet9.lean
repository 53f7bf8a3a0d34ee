/-
  awake of layer 17.
-/
import Derived.Test.YtbkknhlagohhhaaLet8
namespace Go.Proofs.Ytbkknhlagohhhaa
open Go.RowKit Crv

theorem ld_lt (p : Value) : Instr.loadAt Tlt p = ldRow Tlt p := rfl
attribute [local go_sem ↓] ld_lt
/-- A letter is loaded whole. -/
theorem ld_lt_at {W : World} {g : Nat} {l : LV} (hm : Mem W g Tlt (ltC l)) (hid : l.id.length = 32) : (ldRow Tlt (.pointer (some ⟨g, 0, none⟩))).run Try.prog W = .ok (.agg (ltC l).toArray) W :=
  run_loadAt_mid W g 0 Tlt (ltC l) _ (fun j v hj => by rw [Nat.zero_add, hm.cell]; exact hj) Try.underlying26 rfl (sz_lt l hid)
def pingL : LV := { zeroL with kind := 1, fr := 1, to := 2 }
theorem build3 (W : World) : (Instr.build Tlt #[(0, .int .i64 1), (1, .int .i64 1), (2, .int .i64 2)]).run Try.prog W = .ok (.agg (ltC pingL).toArray) W := by kernel_rfl
theorem wp_build3 {P : Program} {ops : Array Oper} {rest : List Oper} {o : Oper} {a : Act} {w : World} {Q : Exit → Act → World → Prop} {ty : TypeId} {x0 x1 x2 : Operand} {u0 u1 u2 r : Value} (hr : (Instr.build ty #[(0, u0), (1, u1), (2, u2)]).run P w = .ok r w) (hgd : o.guard = none) (ho : o.op = .build ty #[(0, x0), (1, x1), (2, x2)])
    (h0 : a.eval x0 = u0) (h1 : a.eval x1 = u1) (h2 : a.eval x2 = u2)
    (h : wpList P ops Q rest (a.put o.dst r) w) : wpList P ops Q (o :: rest) a w := by
  refine wpList_plain hgd fun K hK => ?_
  unfold Oper.wp execOp
  simp only [ho, List.map_toArray, List.map_cons, List.map_nil, h0, h1, h2, hr, Sem.run_bind, Sem.run_pure, Result.andThen_ok]
  exact hK _ _ h
theorem field_to (l : LV) (w : World) : (Instr.field Tlt (.agg (ltC l).toArray) 2).run Try.prog w = .ok (.int .i64 l.to) w := by kernel_rfl
theorem ping_bytes : cvT ++ numsL [1, 1, 2, 0] = [99, 118, 1, 1, 1, 1, 1, 2, 0] := by kernel_rfl
theorem ping_dec : dec4 ([1, 1, 1, 1, 1, 2, 0], 0) = (pingL, ([], 0)) := by kernel_rfl
theorem ping_chk : chkL pingL [] [] = 0 := by kernel_rfl
theorem zA_mem (w : World) : Mem (w.alloc (.cells zA Tlt)) w.heap.size Tlt (ltC zeroL) := by
  rw [zero_cells]
  exact Mem.new w Tlt (ltC zeroL)
set_option maxHeartbeats 4000000 in
set_option maxRecDepth 100000 in
theorem awake17_any (W : World) : Calls Try.prog 16 #[] W fun e w' => e = .returned (.bool true) ∧ Below W.heap.size W w' := by
  have HM0 := Lib.hid (zA_mem W)
  have HB0 := Lib.hid (belowSelf W (.cells zA Tlt))
  have SZP := Lib.hid (sz_lt pingL rfl)
  have ONEP := Lib.hid (one_ltC pingL rfl rfl)
  have HBY := Lib.hid (fun w => bytes_plain pingL w rfl (by kernel_rfl) (by kernel_rfl) (by kernel_rfl) (by kernel_rfl) (by decide))
  rw [show [pingL.kind, pingL.fr, pingL.to, pingL.seq] = [1, 1, 2, 0] from rfl, ping_bytes] at HBY
  have HP1 := Lib.hid (fun w => parse_plain [99, 118, 1, 1, 1, 1, 1, 2, 0] [1, 1, 1, 1, 1, 2, 0] pingL w (by decide) (by decide) ping_dec (by kernel_rfl) (by kernel_rfl) (by kernel_rfl) (by kernel_rfl) ⟨rfl, rfl, rfl, rfl⟩ ping_chk)
  have HP2 := Lib.hid (fun w => parse_no [99, 120] w (by decide) (by decide))
  have HRE := Lib.hid (fun w => reply_any pingL 2 w rfl)
  obtain ⟨rp, hrp⟩ : ∃ rp, rp = replyL pingL 2 := ⟨_, rfl⟩
  have hrt : rp.to = 1 := by rw [hrp]; rfl
  have hft := fun w => field_to rp w
  rw [hrt] at hft
  rw [← hrp] at HRE
  obtain ⟨pL, hpL⟩ : ∃ pL, pL = pingL := ⟨_, rfl⟩
  have hpi : pL.id.length = 32 ∧ pL.to = 2 := by rw [hpL]; exact ⟨rfl, rfl⟩
  have hbd := fun W => build3 W
  rw [← hpL] at hbd SZP ONEP HBY HP1 HRE
  have HLE := Lib.hid (show (ltC zeroL).length = (ltC pL).length by rw [length_ltC zeroL rfl, length_ltC pL hpi.1])
  obtain ⟨zL, hzL⟩ : ∃ zL, zL = zeroL := ⟨_, rfl⟩
  have HBD := Lib.hid hbd
  clear hrp hrt hpL hbd
  have HPI := Lib.hid hpi
  clear hpi
  go_enter Try.func16, Try.ntmps16
  go_wp2_with (first
    | (refine wp_build3 (HBD.out _) rfl rfl rfl rfl rfl ?_)
    | (refine wp_store_gen (B := W.heap.size) (w0 := W) HB0.out (Nat.le_refl _) HM0.out (ltC pL) Tlt (.tmp 1) (.tmp 6) rfl rfl rfl rfl SZP.out HLE.out ONEP.out ?_
       intro W1 hm1 hb1 hsz1 _
       have HM1 := Lib.hid hm1
       have HB1 := Lib.hid hb1
       have hl1 := ld_lt_at hm1 HPI.out.1
       clear hm1 hb1 hsz1)
    | fail)
  refine (HBY.out _).mono ?_
  rintro e w2 ⟨rfl, hb2⟩
  have HM2 := Lib.hid (HM1.out.below hb2 HM1.out.lt)
  have HB2 := Lib.hid (HB1.out.trans (hb2.mono HB1.out.size))
  clear hb2 HM1 HB1 hl1
  go_wp2_with fail
  refine (HP1.out _).mono ?_
  rintro e w3 ⟨rfl, hb3⟩
  have HM3 := Lib.hid (HM2.out.below hb3 HM2.out.lt)
  have hB3 := HB2.out.trans (hb3.mono HB2.out.size)
  have HA3 := Lib.hid (zA_mem w3)
  have hA := belowSelf w3 (.cells zA Tlt)
  have HM3a := Lib.hid (HM3.out.below hA HM3.out.lt)
  have HB3a := Lib.hid (hB3.trans (hA.mono hB3.size))
  have hlt3 : W.heap.size < w3.heap.size := HM3.out.lt
  clear hb3 hB3 hA HM2 HB2
  go_wp2_with (first
    | (refine wp_store_gen (B := W.heap.size) (w0 := W) HB3a.out (Nat.le_of_lt hlt3) HA3.out (ltC pL) Tlt (.tmp 2) (.tmp 11) rfl rfl rfl rfl SZP.out HLE.out ONEP.out ?_
       intro W4 hm4 hb4 hsz4 ho4
       have HX4 := Lib.hid hm4
       have HM4 := Lib.hid (show Mem W4 W.heap.size Tlt (ltC pL) from (ho4 _ (by omega)).trans HM3a.out)
       have HB4 := Lib.hid hb4
       clear hm4 hb4 hsz4 ho4)
    | fail)
  refine (HP2.out _).mono ?_
  rintro e w5 ⟨rfl, hb5⟩
  have HM5 := Lib.hid (HM4.out.below hb5 HM4.out.lt)
  have HX5 := Lib.hid (HX4.out.below hb5 HX4.out.lt)
  have hB5 := HB4.out.trans (hb5.mono HB4.out.size)
  have HA5 := Lib.hid (zA_mem w5)
  have hA := belowSelf w5 (.cells zA Tlt)
  have HM5a := Lib.hid (HM5.out.below hA HM5.out.lt)
  have HX5a := Lib.hid (HX5.out.below hA HX5.out.lt)
  have HB5a := Lib.hid (hB5.trans (hA.mono hB5.size))
  have hlt5 : W.heap.size < w5.heap.size := HM5.out.lt
  have hlx5 : w3.heap.size < w5.heap.size := HX5.out.lt
  have SZZ := Lib.hid (sz_lt zeroL rfl)
  have ONEZ := Lib.hid (one_ltC zeroL rfl rfl)
  clear hb5 hB5 hA HM4 HB4 HX4 hzL
  go_wp2_with (first
    | (refine wp_store_gen (B := W.heap.size) (w0 := W) HB5a.out (Nat.le_of_lt hlt5) HA5.out (ltC zeroL) Tlt (.tmp 4) (.tmp 15) rfl rfl rfl rfl SZZ.out rfl ONEZ.out ?_
       intro W6 hm6 hb6 hsz6 ho6
       have HX6 := Lib.hid (show Mem W6 w3.heap.size Tlt (ltC pL) from (ho6 _ (by omega)).trans HX5a.out)
       have HM6 := Lib.hid (show Mem W6 W.heap.size Tlt (ltC pL) from (ho6 _ (by omega)).trans HM5a.out)
       have HB6 := Lib.hid hb6
       have hl6 := ld_lt_at HM6.out HPI.out.1
       clear hm6 hb6 hsz6 ho6)
    | fail)
  refine (HBY.out _).mono ?_
  rintro e w7 ⟨rfl, hb7⟩
  have HM7 := Lib.hid (HM6.out.below hb7 HM6.out.lt)
  have HX7 := Lib.hid (HX6.out.below hb7 HX6.out.lt)
  have HB7 := Lib.hid (HB6.out.trans (hb7.mono HB6.out.size))
  have hl7 := ld_lt_at HM7.out HPI.out.1
  have hx7 : w7.cell? ⟨w3.heap.size, 2, none⟩ = some (.int .i64 2) := by
    rw [← HPI.out.2]
    exact HX7.out.cell 2
  clear hb7 HM6 HB6 HX6 hl6
  go_wp2_with fail
  refine (HRE.out _).mono ?_
  rintro e w8 ⟨rfl, hb8⟩
  have HB8 := Lib.hid (HB7.out.trans (hb8.mono HB7.out.size))
  clear hb8
  go_wp2_with fail
  go_ret
  exact ⟨rfl, HB8.out⟩
end Go.Proofs.Ytbkknhlagohhhaa

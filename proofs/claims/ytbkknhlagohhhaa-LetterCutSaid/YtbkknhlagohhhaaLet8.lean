/-
  letter.Parse where the kind has nothing more, and where the text begins otherwise.
-/
import Derived.Test.YtbkknhlagohhhaaLet7
namespace Go.Proofs.Ytbkknhlagohhhaa
open Go.RowKit Crv

theorem resultsCellTmpL {P : Program} {fn : Func} {p u : Tmp} {ty : TypeId} {w : World} {g : Nat} {t : TypeId} {cs : List Value} (hm : Mem w g t cs) (h : fn.results = #[.cell p ty, .tmp u]) (tmps : Array Value) (d : TypeDesc)
    (hp : tmps.getD p undef = .pointer (some ⟨g, 0, none⟩)) (hu : P.underlying ty = some d) (hd : (match d with | .struct _ | .array _ _ => true | _ => false) = true) (hi : (P.info? ty).map (·.size) = some cs.length) :
    (results fn tmps).run P w = .ok (.tuple #[.agg cs.toArray, tmps.getD u undef]) w := by
  rw [results_cell_tmp h tmps P w, hp]
  simp [asAddr, run_loadVar_row w g t ty cs.toArray (0, 0) d hm hu hd (by simpa using hi)]
theorem build0L (W : World) : (Instr.build Tlt #[]).run Try.prog W = .ok (.agg (ltC zeroL).toArray) W := by kernel_rfl
theorem wp_build0L {P : Program} {ops : Array Oper} {rest : List Oper} {o : Oper} {a : Act} {w : World} {Q : Exit → Act → World → Prop} {ty : TypeId} {r : Value} (hr : (Instr.build ty #[]).run P w = .ok r w) (hgd : o.guard = none) (ho : o.op = .build ty #[])
    (h : wpList P ops Q rest (a.put o.dst r) w) : wpList P ops Q (o :: rest) a w := by
  refine wpList_plain hgd fun K hK => ?_
  unfold Oper.wp execOp
  simp only [ho, List.map_toArray, List.map_nil, hr, Sem.run_bind, Sem.run_pure, Result.andThen_ok]
  exact hK _ _ h
set_option maxHeartbeats 2000000 in
set_option maxRecDepth 100000 in
theorem parse_no (s : List UInt8) (W : World) (hs : s.length ≤ 1024) (hc : (s.take 2 == cvT) = false) : Calls Try.prog 19 #[tx s] W fun e w' => e = .returned (.tuple #[.agg (ltC zeroL).toArray, .int .i64 2]) ∧ Below W.heap.size W w' := by
  have HC := Lib.hid (fun w => cutPre_any s w (by omega))
  have hcp : cutP s = (s, false) := by unfold cutP; rw [hc]; rfl
  rw [hcp] at HC
  have hM : Mem (W.alloc (.cells zA Tlt)) W.heap.size Tlt (ltC zeroL) := by
    rw [zero_cells]
    exact Mem.new W Tlt (ltC zeroL)
  have HM := Lib.hid hM
  have HB := Lib.hid (belowSelf W (.cells zA Tlt))
  have hls : ¬ (1024 : Int) < (s.length : Int) := by omega
  have SZ := Lib.hid (sz_lt zeroL rfl)
  have ONE := Lib.hid (one_ltC zeroL rfl rfl)
  clear hM hc hcp
  go_enter Try.func19, Try.ntmps19
  go_wp2_with fail
  refine (HC.out _).mono ?_
  rintro e w ⟨rfl, rfl⟩
  go_wp2_with (first
    | (refine wp_build0L (build0L _) rfl rfl ?_)
    | (refine wp_store_gen (B := W.heap.size) (w0 := W) HB.out (Nat.le_refl _) HM.out (ltC zeroL) Tlt (.tmp 2) (.tmp 21) rfl rfl rfl rfl SZ.out rfl ONE.out ?_
       intro W5 hm5 hb5 hsz5 ho5
       have HM5 := Lib.hid hm5
       have HB5 := Lib.hid hb5
       clear hm5 hb5 hsz5 ho5)
    | fail)
  exact bodyPost_ret (resultsCellTmpL HM5.out rfl _ _ rfl Try.underlying26 rfl SZ.out) rfl ⟨rfl, HB5.out⟩
set_option maxHeartbeats 4000000 in
set_option maxRecDepth 100000 in
theorem parse_plain (s r : List UInt8) (L : LV) (W : World) (hs : s.length ≤ 1024) (hc : cutP s = (r, true)) (hd : dec4 (r, 0) = (L, ([], 0))) (hi : idK L.kind = false) (hli : listK L.kind = false) (hwh : whatK L.kind = false) (hte : textK L.kind = false)
    (hL : L.id.length = 32 ∧ L.pv = .slice none 0 0 ∧ L.hv = .slice none 0 0 ∧ L.text = []) (hck : chkL L [] [] = 0) :
    Calls Try.prog 19 #[tx s] W fun e w' => e = .returned (.tuple #[.agg (ltC L).toArray, .int .i64 0]) ∧ Below W.heap.size W w' := by
  have HC := Lib.hid (fun w => cutPre_any s w (by omega))
  rw [hc] at HC
  have hM : Mem (W.alloc (.cells zA Tlt)) W.heap.size Tlt (ltC zeroL) := by
    rw [zero_cells]
    exact Mem.new W Tlt (ltC zeroL)
  have HM := Lib.hid hM
  have hB := belowSelf W (.cells zA Tlt)
  have HB := Lib.hid hB
  have HOP := Lib.hid (open_any r (W.alloc (.cells zA Tlt)))
  have hls : ¬ (1024 : Int) < (s.length : Int) := by omega
  obtain ⟨hid, hpv, hhv, htx⟩ := hL
  have SZ := Lib.hid (sz_lt L hid)
  have ONE := Lib.hid (one_ltC L (by rw [hpv]; rfl) (by rw [hhv]; rfl))
  have HLE := Lib.hid (show (ltC zeroL).length = (ltC L).length by rw [length_ltC zeroL rfl, length_ltC L hid])
  have HID := Lib.hid hid
  have HPV := Lib.hid hpv
  have HHV := Lib.hid hhv
  have HTX := Lib.hid htx
  have HDE := Lib.hid hd
  have HP := Lib.hid (show idK (dec4 (r, 0)).1.kind = false ∧ listK (dec4 (r, 0)).1.kind = false ∧ whatK (dec4 (r, 0)).1.kind = false ∧ textK (dec4 (r, 0)).1.kind = false by rw [hd]; exact ⟨hi, hli, hwh, hte⟩)
  have HCK := Lib.hid hck
  obtain ⟨gb, hgb⟩ : ∃ gb, gb = (W.alloc (.cells zA Tlt)).heap.size := ⟨_, rfl⟩
  have hgb1 : gb = W.heap.size + 1 := by rw [hgb]; simp
  rw [← hgb] at HOP
  have HGB := Lib.hid hgb1
  clear hM hB hc hd hi hli hwh hte hid hpv hhv htx hck hgb hgb1
  go_enter Try.func19, Try.ntmps19
  go_wp2_with fail
  refine (HC.out _).mono ?_
  rintro e w ⟨rfl, rfl⟩
  go_wp2_with fail
  refine HOP.out.mono ?_
  rintro e w1 ⟨rfl, hbm1, hb1, _⟩
  have HB1 := Lib.hid (HB.out.trans (hb1.mono (by have := HGB.out; omega)))
  have HM1 := Lib.hid (Mem.below HM.out hb1 (by have := HGB.out; omega))
  have HDEC := Lib.hid (decoded_plain w1 gb (r, 0) hbm1 HP.out.1 HP.out.2.1 HP.out.2.2.1 HP.out.2.2.2)
  rw [HDE.out] at HDEC
  clear hbm1 hb1
  go_wp2_with fail
  refine HDEC.out.mono ?_
  rintro e w2 ⟨rfl, hbm2, hg2⟩
  have hne : W.heap.size ≠ gb := by have := HGB.out; omega
  have HM2 := Lib.hid (Mem.grown HM1.out hg2 (fun e => hne (by injection e)))
  have hB2 : Below W.heap.size W w2 := HB1.out.trans ⟨hg2.os, hg2.tape, hg2.output, hg2.size, fun k hk => hg2.block k (by have := HB1.out.size; omega) (fun e => by injection e with e; have := HGB.out; omega)⟩
  have hA2 := belowSelf w2 (.cells zA Tlt)
  have hM3 : Mem (w2.alloc (.cells zA Tlt)) w2.heap.size Tlt (ltC zeroL) := by
    rw [zero_cells]
    exact Mem.new w2 Tlt (ltC zeroL)
  have HM3 := Lib.hid hM3
  have HB3 := Lib.hid (hB2.trans (hA2.mono hB2.size))
  have HM2a := Lib.hid (HM2.out.below hA2 HM2.out.lt)
  have HBM2 := Lib.hid (show BM (w2.alloc (.cells zA Tlt)) gb ([], 0) from BM.below hbm2 hA2)
  have hlt2 : W.heap.size < w2.heap.size := HM2.out.lt
  have hlb2 : gb < w2.heap.size := Mem.lt hbm2
  clear hbm2 hg2 hB2 hA2 hM3
  go_wp2_with (first
    | (refine wp_store_gen (B := W.heap.size) (w0 := W) HB3.out (Nat.le_of_lt hlt2) HM3.out (ltC L) Tlt (.tmp 7) (.tmp 25) rfl rfl rfl rfl SZ.out HLE.out ONE.out ?_
       intro W4 hm4 hb4 hsz4 ho4
       have HM4 := Lib.hid hm4
       have HB4 := Lib.hid hb4
       have HM4a := Lib.hid (show Mem W4 W.heap.size Tlt (ltC zeroL) from (ho4 _ (by omega)).trans HM2a.out)
       have HBM4 := Lib.hid (show BM W4 gb ([], 0) from (ho4 _ (by omega)).trans HBM2.out)
       have HCL := Lib.hid (close_any W4 gb ([], 0) HBM4.out)
       simp only [if_true] at HCL
       clear hm4 hb4 hsz4 ho4)
    | fail)
  refine HCL.out.mono ?_
  rintro e w5 ⟨rfl, hbm5, hg5⟩
  have HM5 := Lib.hid (Mem.grown HM4.out hg5 (fun e => by injection e with e; omega))
  have HM5a := Lib.hid (Mem.grown HM4a.out hg5 (fun e => hne (by injection e)))
  have HB5 := Lib.hid (HB4.out.trans (⟨hg5.os, hg5.tape, hg5.output, hg5.size, fun k hk => hg5.block k (by have := HB4.out.size; omega) (fun e => by injection e with e; have := HGB.out; omega)⟩ : Below W.heap.size W4 w5))
  have HCH := Lib.hid (check_any L w5 HID.out [] [] (.inl ⟨HPV.out, rfl⟩) (.inl ⟨HHV.out, rfl⟩) (by simp) (by simp) (by rw [HTX.out]; simp))
  rw [HCK.out] at HCH
  clear hbm5 hg5 HCL
  go_wp2_with (first
    | (refine wp_load_mem HM5.out Tlt (.tmp 7) _ rfl rfl rfl Try.underlying26 rfl SZ.out ?_)
    | fail)
  refine HCH.out.mono ?_
  rintro e w6 ⟨rfl, hb6⟩
  have HM6 := Lib.hid (HM5.out.below hb6 HM5.out.lt)
  have HM6a := Lib.hid (HM5a.out.below hb6 HM5a.out.lt)
  have HB6 := Lib.hid (HB5.out.trans (hb6.mono HB5.out.size))
  clear hb6 HCH
  go_wp2_with (first
    | (refine wp_load_mem HM6.out Tlt (.tmp 7) _ rfl rfl rfl Try.underlying26 rfl SZ.out ?_)
    | (refine wp_store_gen (B := W.heap.size) (w0 := W) HB6.out (Nat.le_refl _) HM6a.out (ltC L) Tlt (.tmp 2) (.tmp 38) rfl rfl rfl rfl SZ.out HLE.out ONE.out ?_
       intro W7 hm7 hb7 _ _
       have HM7 := Lib.hid hm7
       have HB7 := Lib.hid hb7
       clear hm7 hb7)
    | fail)
  exact bodyPost_ret (resultsCellTmpL HM7.out rfl _ _ rfl Try.underlying26 rfl SZ.out) rfl ⟨rfl, HB7.out⟩
end Go.Proofs.Ytbkknhlagohhhaa

/-
  Package merkle: Build where it refuses.
-/
import Derived.Test.YtjdhcanblpifcaaDoorMer9
namespace Go.Proofs.YtjdhcanblpifcaaDoor
open Go.RowKit Crv

theorem build_zero (W : World) : (Instr.build Tpt #[]).run Tryd.prog W = .ok (.agg zP.toArray) W := by kernel_rfl
theorem wp_build0 {P : Program} {ops : Array Oper} {rest : List Oper} {o : Oper} {a : Act} {w : World} {Q : Exit → Act → World → Prop} {ty : TypeId} {r : Value} (hr : (Instr.build ty #[]).run P w = .ok r w) (hgd : o.guard = none) (ho : o.op = .build ty #[])
    (h : wpList P ops Q rest (a.put o.dst r) w) : wpList P ops Q (o :: rest) a w := by
  refine wpList_plain hgd fun K hK => ?_
  unfold Oper.wp execOp
  simp only [ho, List.map_toArray, List.map_nil, hr, Sem.run_bind, Sem.run_pure, Result.andThen_ok]
  exact hK _ _ h
set_option maxRecDepth 100000 in
set_option maxHeartbeats 400000 in
theorem build_err (v : Value) (cs : List (List UInt8)) (w : World) (hv : Txs w v cs) (hn : cs.length ≤ 1000) (h0 : chkC cs ≠ 0) :
    Calls Tryd.prog 15 #[v] w fun e w' => e = .returned (.tuple #[.agg zP.toArray, .slice none 0 0, .int .i64 (chkC cs)]) ∧ Below w.heap.size w w' := by
  have HV := Lib.hid hv
  obtain ⟨a, cap, rfl, -⟩ := hv
  obtain ⟨W0, hW0⟩ : ∃ W, W = w.alloc (.cells zP.toArray Tpt) := ⟨_, rfl⟩
  have HB0 := Lib.hid (show Below w.heap.size w W0 by rw [hW0]; exact belowSelf w _)
  have HM0 := Lib.hid (show Mem W0 w.heap.size Tpt zP by rw [hW0]; exact Mem.new w _ _)
  have HCK := Lib.hid (checkC_any (.slice a cs.length cap) cs W0 (HV.out.below HB0.out) (by omega))
  have HWW := Lib.hid hW0
  have hd : ((chkC cs : Int) != 0) = true := by simpa using h0
  obtain ⟨c, hc⟩ : ∃ c, c = chkC cs := ⟨_, rfl⟩
  rw [← hc] at HCK hd ⊢
  have SZ : (Tryd.prog.info? Tpt).map (·.size) = some zP.length := by kernel_rfl
  have ONE : ∀ u ∈ zP, u.oneCell' = true := by
    intro u hu
    rcases List.mem_append.1 hu with h | h
    · rw [List.eq_of_mem_replicate h]; rfl
    · simp only [List.mem_singleton] at h; subst h; rfl
  have HSZ := Lib.hid SZ
  have HON := Lib.hid ONE
  clear hW0 h0 hc SZ ONE
  go_enter Tryd.func15, Tryd.ntmps15
  go_wp2_with fail
  rw [show w.alloc (.cells #[Value.int .u8 0, Value.int .u8 0, Value.int .u8 0, Value.int .u8 0, Value.int .u8 0, Value.int .u8 0, Value.int .u8 0, Value.int .u8 0, Value.int .u8 0, Value.int .u8 0, Value.int .u8 0, Value.int .u8 0, Value.int .u8 0, Value.int .u8 0, Value.int .u8 0, Value.int .u8 0, Value.int .u8 0, Value.int .u8 0, Value.int .u8 0, Value.int .u8 0, Value.int .u8 0, Value.int .u8 0, Value.int .u8 0, Value.int .u8 0, Value.int .u8 0, Value.int .u8 0, Value.int .u8 0, Value.int .u8 0, Value.int .u8 0, Value.int .u8 0, Value.int .u8 0, Value.int .u8 0, Value.int .i64 0] Tpt) = W0 from HWW.out.symm]
  refine HCK.out.mono ?_
  rintro e w1 ⟨rfl, rfl⟩
  clear HCK HWW
  go_wp2_with (first
    | (refine wp_build0 (build_zero _) rfl rfl ?_)
    | (refine wp_store_mem HM0.out zP Tpt (.tmp 2) (.tmp 17) rfl rfl rfl rfl HSZ.out rfl HON.out ?_)
    | fail)
  exact bodyPost_ret (resultsCell3 (HM0.out.setRow _) rfl _ _ rfl Tryd.underlying43 rfl HSZ.out) rfl ⟨rfl, below_row HB0.out (Nat.le_refl _) _⟩
end Go.Proofs.YtjdhcanblpifcaaDoor

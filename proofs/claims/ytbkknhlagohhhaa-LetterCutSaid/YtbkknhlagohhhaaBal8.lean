/-
  Package bale: the decoder: ID; IDs where nothing is left; the laws' names and same of no names.
-/
import Derived.Test.YtbkknhlagohhhaaBal7
import Derived.Test.YtbkknhlagohhhaaNam
namespace Go.Proofs.Ytbkknhlagohhhaa
open Go.RowKit Crv

abbrev Ti : TypeId := 23
/-- copy(b[:], s) as one step of a region that draws its order. -/
theorem step_copy_gen {P : Program} {ops : Array Oper} {o : Oper} {a : Act} {w : World} {Q : Exit → Act → World → Prop} {K : Act → World → Prop} {E : Prop} {g : Nat} {t : TypeId} {cs : List Value} (hm : Mem w g t cs) (new : List Value) (d x : Operand) (dT sT elem : TypeId) (dLen dCap : Nat) (l : List UInt8)
    (hgd : o.guard = none) (ho : o.op = .call { callee := .builtin .copy, args := #[d, x], argTypes := #[dT, sT] }) (hd : a.eval d = .slice (some ⟨g, 0, none⟩) dLen dCap) (hx : a.eval x = .string (str l))
    (hu : P.underlying dT = some (.slice elem)) (hs : (P.info? elem).map (·.size) = some 1) (hfit : dLen ≤ cs.length)
    (hnew : cs.take 0 ++ ((l.take (min l.length dLen)).map byteV ++ cs.drop (0 + min l.length dLen)) = new)
    (h : ∀ W, Mem W g t new → w.grownBy W (some g) → K (a.put o.dst (.int .i64 ((min l.length dLen : Nat) : Int))) W) : if Region.wanted o (yielded ops a.tmps) = true then Oper.wp P o a w K Q else E := by
  have hw : Region.wanted o (yielded ops a.tmps) = true := by simp [Region.wanted, hgd]
  rw [if_pos hw]
  subst hnew
  have hr := run_copy_str (P := P) hm dT sT o.type elem 0 dLen dCap l hu hs (by omega)
  unfold Oper.wp execOp
  simp only [ho, resolve, invoke, builtin, Sem.run_bind, Sem.run_pure, Result.andThen_ok, List.map_toArray, List.map_cons, List.map_nil, hd, hx, hr]
  exact h _ (hm.setRow _) (grown_row (grownRefl _ _) _)

set_option maxRecDepth 100000 in
set_option maxHeartbeats 1000000 in
theorem idB_any (w : World) (g : Nat) (s : BSt) (h : BM w g s) (hg0 : g < w.heap.size) :
    Calls Try.prog 86 #[ptr g] w fun e w' => e = .returned (.agg ((nameOf (bytesS s 32).2).map byteV).toArray) ∧ BM w' g (bytesS s 32).1 ∧ w.grownBy w' (some g) := by
  obtain ⟨W0, hW0⟩ : ∃ W0, W0 = (w.alloc (.cells zs32 23)).alloc (.cells zs32 23) := ⟨_, rfl⟩
  have HBM := Lib.hid (show BM W0.drew g s by rw [hW0]; exact Mem.drew (Mem.alloc (Mem.alloc h _) _))
  have HB := Lib.hid (bytesB_any W0.drew g s 32 HBM.out)
  obtain ⟨s1, d, e1⟩ : ∃ s1 d, bytesS s 32 = (s1, d) := ⟨_, _, rfl⟩
  rw [e1] at HB ⊢
  clear e1 h
  have NC := Lib.hid (name_cells d)
  obtain ⟨x, hx⟩ : ∃ x, x = nameOf d := ⟨_, rfl⟩
  have hxl : x.length = 32 := by rw [hx]; exact length_nameOf d
  simp only
  rw [← hx] at NC ⊢
  clear hx
  have SZ := Lib.hid (sz_id x hxl)
  have HZ := Lib.hid (show (List.replicate 32 (byteV 0)).length = (x.map byteV).length by rw [List.length_map, hxl]; rfl)
  have ONE := Lib.hid (oneBytes x)
  clear hxl
  have hsz : W0.heap.size = w.heap.size + 2 := by rw [hW0]; simp
  have HM0 := Lib.hid (show Mem W0 w.heap.size 23 (List.replicate 32 (byteV 0)) by rw [hW0, zs32_eq]; exact (Mem.newAt w 23 (List.replicate 32 (byteV 0)) rfl).alloc _)
  have HM1 := Lib.hid (show Mem W0 (w.heap.size + 1) 23 (List.replicate 32 (byteV 0)) by rw [hW0, zs32_eq]; exact Mem.newAt _ 23 (List.replicate 32 (byteV 0)) (by simp))
  have hgw0 : w.grownBy W0.drew (some g) := grown_drew (grownOfBelow (by rw [hW0]; exact (belowSelf w _).alloc (by simp) _))
  have HSZ := Lib.hid hsz
  clear hsz
  go_enter Try.func86, Try.ntmps86
  go_wp2_with fail
  rw [← hW0]
  clear hW0
  go_region_held3 (fun _ => True) (trivial)
    (first
      | (go_at_call 97; refine HB.out.mono ?_; rintro e w1 ⟨rfl, hm1, hg1⟩; have HBM1 := Lib.hid hm1; have HM11 := Lib.hid (show Mem w1 (w.heap.size + 1) 23 (List.replicate 32 (byteV 0)) from HM1.out.drew.grown hg1 (fun e => by injection e with e; omega)); have HM10 := Lib.hid (show Mem w1 w.heap.size 23 (List.replicate 32 (byteV 0)) from HM0.out.drew.grown hg1 (fun e => by injection e with e; omega)); clear hm1)
      | (refine step_copy_gen HM11.out (x.map byteV) (.tmp 4) (.tmp 6) 122 9 5 32 32 d rfl rfl rfl rfl Try.underlying122 (by kernel_rfl) (by simp) NC.out ?_; intro W2 hm2 hg2; have HX2 := Lib.hid hm2; clear hm2))
  rename_i K hK hHe
  refine hK _ _ ?_
  have HY2 := Lib.hid (show Mem W2 w.heap.size 23 (List.replicate 32 (byteV 0)) from HM10.out.grown hg2 (fun e => by injection e with e; omega))
  have HB2 := Lib.hid (show BM W2 g s1 from HBM1.out.grown hg2 (by omega))
  have HG := Lib.hid (show w.grownBy W2 (some g) from by
    refine ⟨hg2.os.trans (hg1.os.trans hgw0.os), hg2.tape.trans (hg1.tape.trans hgw0.tape), hg2.output.trans (hg1.output.trans hgw0.output), Nat.le_trans hgw0.size (Nat.le_trans hg1.size hg2.size), fun k hk hne => ?_⟩
    exact (hg2.block k (Nat.lt_of_lt_of_le (Nat.lt_of_lt_of_le hk hgw0.size) hg1.size) (fun e => by injection e with e; omega)).trans ((hg1.block k (Nat.lt_of_lt_of_le hk hgw0.size) hne).trans (hgw0.block k hk hne)))
  go_wp2_with (first
    | (refine wp_load_mem HX2.out 23 (.tmp 3) (.array 32 5) rfl rfl rfl Try.underlying23 rfl SZ.out ?_)
    | (refine wp_store_mem HY2.out (x.map byteV) 23 (.tmp 2) (.tmp 8) rfl rfl rfl rfl SZ.out HZ.out ONE.out ?_)
    | fail)
  refine bodyPost_ret (v := .agg (x.map byteV).toArray) (results_mem (HY2.out.setRow _) rfl _ (.array 32 5) rfl Try.underlying23 rfl SZ.out) rfl ⟨rfl, Mem.setRow_other HB2.out _ (by omega), ?_⟩
  have hq := HG.out
  exact ⟨hq.os, hq.tape, hq.output, by simpa [World.setRow] using hq.size, fun k hk hne => (heap_setRow_other W2 w.heap.size k _ (by omega)).trans (hq.block k hk hne)⟩

/-- A decoder behind an error, with nothing left. -/
abbrev badS : BSt := (([] : List UInt8), (2 : Int))
theorem bytesS_bad (n : Int) : bytesS badS n = (badS, []) := by
  unfold bytesS
  split
  · simp [failS]
  · simp
theorem numS_bad : numS badS = (badS, 0) := by decide +kernel
theorem intS_bad (top : Int) : intS badS top = (badS, 0) := by unfold intS; rw [numS_bad]; simp
theorem strS_bad (top : Int) : strS badS top = (badS, []) := by unfold strS; rw [intS_bad]; exact bytesS_bad 0
theorem nameOf_nil : nameOf [] = List.replicate 32 0 := rfl

end Go.Proofs.Ytbkknhlagohhhaa

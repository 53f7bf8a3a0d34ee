/-
  slices.Chunk over parts: its iterator.
-/
import Derived.Test.YtjdhcanblpifcaaDoorMer4
import Derived.Test.YtjdhcanblpifcaaDoorRng
import Derived.Shelf.Abstract
import Derived.Shelf.RegionOpen
import Derived.OwnWalkIn
import Derived.TacticsInMore
import Derived.LoopNIn
import Derived.LoopIn
namespace Go.Proofs.YtjdhcanblpifcaaDoor
open Go.RowKit Go.Shelf Crv
attribute [local go_sem] Oper.semAt_some

abbrev Tsp : TypeId := 23
/-- The groups of eight as slice values, with their parts. -/
def gvs (g off : Nat) (ps : List Pt) : List (Value × List Pt) := (List.range ((ps.length + 7) / 8)).map fun j => (.slice (some ⟨g, off + 8 * j * 33, none⟩) (min 8 (ps.length - 8 * j)) (min 8 (ps.length - 8 * j)), (ps.drop (8 * j)).take 8)
theorem length_gvs (g off : Nat) (ps : List Pt) : (gvs g off ps).length = (ps.length + 7) / 8 := by simp [gvs]
theorem gvs_get (g off : Nat) (ps : List Pt) (j : Nat) (h : j < (gvs g off ps).length) : (gvs g off ps)[j] = (.slice (some ⟨g, off + 8 * j * 33, none⟩) (min 8 (ps.length - 8 * j)) (min 8 (ps.length - 8 * j)), (ps.drop (8 * j)).take 8) := by simp [gvs]
theorem addr_add (g off k : Nat) : (⟨g, off, none⟩ : Addr).add k = ⟨g, off + k, none⟩ := by unfold Addr.add; split <;> simp_all
theorem elem_sp : Tryd.prog.underlying Tsp = some (.slice (Tryd.prog.elem Tsp)) := by kernel_rfl
theorem sl_from (g off n cap p : Nat) (hp : p < n) (hn : n ≤ cap) (W : World) : (Instr.slice Tsp (.slice (some ⟨g, off, none⟩) n cap) (some (.int .i64 (p : Int))) none none).run Tryd.prog W = .ok (.slice (some ⟨g, off + p * 33, none⟩) (n - p) (cap - p)) W := by
  have hne : ¬ cap = p := by omega
  have hsz : (sizeOf (Tryd.prog.elem Tsp)).run Tryd.prog W = .ok 33 W := by kernel_rfl
  rw [run_slice_l (P := Tryd.prog) W Tsp (some ⟨g, off, none⟩) n cap elem_sp .i64 (p : Int) (by omega) (by omega), hsz]
  simp [Result.andThen, sliced, hne, addr_add]
theorem sl_mid (g off n cap p m : Nat) (hm : 0 < m) (hp : p + m ≤ n) (hn : n ≤ cap) (W : World) : (Instr.slice Tsp (.slice (some ⟨g, off, none⟩) n cap) (some (.int .i64 (p : Int))) (some (.int .i64 ((p + m : Nat) : Int))) (some (.int .i64 ((p + m : Nat) : Int)))).run Tryd.prog W = .ok (.slice (some ⟨g, off + p * 33, none⟩) m m) W := by
  have hne : ¬ p + m = p := by omega
  have hsz : (sizeOf (Tryd.prog.elem Tsp)).run Tryd.prog W = .ok 33 W := by kernel_rfl
  rw [run_slice_lhm (P := Tryd.prog) W Tsp (some ⟨g, off, none⟩) n cap elem_sp .i64 .i64 .i64 (p : Int) ((p + m : Nat) : Int) ((p + m : Nat) : Int) (by omega) (by omega) (by omega) (by omega), hsz]
  simp only [Result.andThen, sliced, Int.toNat_natCast, if_neg hne, Nat.add_sub_cancel_left, Option.map_some, addr_add]
/-- What the iterator does between two rounds. -/
def ChSt (A B : World) : Prop := Below A.heap.size A B
/-- What a round keeps: the iterator's two boxes. -/
def ChKp (b1 b2 : Nat) (A B : World) : Prop := ∀ b, b = b1 ∨ b = b2 → ∀ (cs : Array Value) (t : TypeId) (fr : Nat × Nat), A.heap[b]? = some (Obj.cells cs t fr) → B.heap[b]? = some (Obj.cells cs t fr)
theorem ChKp.mem1 {b1 b2 : Nat} {A B : World} {t : TypeId} {cs : List Value} (h : ChKp b1 b2 A B) (hm : Mem A b1 t cs) : Mem B b1 t cs := h b1 (.inl rfl) _ _ _ hm
theorem ChKp.mem2 {b1 b2 : Nat} {A B : World} {t : TypeId} {cs : List Value} (h : ChKp b1 b2 A B) (hm : Mem A b2 t cs) : Mem B b2 t cs := h b2 (.inr rfl) _ _ _ hm
theorem chunk_any (a : Option Addr) (n c : Nat) (w : World) :
    Calls Tryd.prog 66 #[.slice a n c, .int .i64 8] w fun e w' => e = .returned (.func (.func 78) #[] #[ptr w.heap.size, ptr (w.heap.size + 1)]) ∧ Mem w' w.heap.size Tsp [.slice a n c] ∧ Mem w' (w.heap.size + 1) Ti64 [.int .i64 8] ∧ Below w.heap.size w w' ∧ w'.heap.size = w.heap.size + 1 + 1 := by
  go_enter Tryd.func66, Tryd.ntmps66
  go_wp2
  exact bodyPost_ret (results_tmp rfl _ _ _) rfl ⟨rfl, (Mem.new w Tsp [_]).alloc _, Mem.newAt _ Ti64 [.int .i64 8] (by simp), (belowSelf w _).alloc (by simp) _, by simp⟩
set_option maxRecDepth 100000 in
set_option maxHeartbeats 1000000 in
theorem chunk1_seq (n b1 b2 g off cap : Nat) (ps : List Pt) (w : World) (h1 : Mem w b1 Tsp [.slice (some ⟨g, off, none⟩) ps.length cap]) (h2 : Mem w b2 Ti64 [.int .i64 8]) (hcap : ps.length ≤ cap) (hn : ps.length ≤ 1000000) :
    SeqBy Fence.wide n Tryd.prog 78 #[ptr b1, ptr b2] (fun x : Value × List Pt => #[x.1]) ChSt (ChKp b1 b2) (gvs g off ps) w := fun l J Jx W hW hJ hY h0 => by
  have HJ := Lib.hid hJ
  have HY := Lib.hid hY
  have HM1 := Lib.hid (h1.below hW h1.lt)
  have HM2 := Lib.hid (h2.below hW h2.lt)
  have H0 := Lib.hid h0
  have HLG := Lib.hid (length_gvs g off ps)
  have HGET := Lib.hid (gvs_get g off ps)
  obtain ⟨full, hfull⟩ : ∃ f, f = gvs g off ps := ⟨_, rfl⟩
  rw [← hfull] at HY HLG HGET ⊢
  obtain ⟨N, hN⟩ : ∃ N, N = ps.length := ⟨_, rfl⟩
  rw [← hN] at hcap hn HM1 HLG
  have HNP := Lib.hid hN
  clear hN
  clear hJ hY h0 h1 h2 hfull
  refine callsIn_of_wp Tryd.func78 rfl trivial ?_ rfl
  simp only [Tryd.ntmps78, List.size_toArray, List.length_cons, List.length_nil, Nat.reduceAdd, Nat.reduceSub, Array.replicate_succ, Array.replicate_zero, List.push_toArray, List.append_toArray, List.nil_append, List.cons_append]
  gi_wp2
  gi_loopw [4] (fun i wr => ∃ j : Nat, i = .int .i64 ((8 * j : Nat) : Int) ∧ j ≤ 200000 ∧ Hid (Mem wr b1 Tsp [.slice (some ⟨g, off, none⟩) N cap]) ∧ Hid (Mem wr b2 Ti64 [.int .i64 8]) ∧ Hid (J (full.take j) wr)) (fun i _ => N + 8 - (intOf i).toNat)
  case atStart => exact ⟨0, rfl, by omega, HM1, HM2, Lib.hid (by simpa using H0.out)⟩
  case round =>
    obtain ⟨j, rfl, hj, HR1, HR2, HJR⟩ := hrel
    clear HM1 HM2 H0
    have c1 : wr.cell? ⟨b1, 0, none⟩ = some (.slice (some ⟨g, off, none⟩) N cap) := HR1.out.cell 0
    have c2 : wr.cell? ⟨b2, 0, none⟩ = some (.int .i64 8) := HR2.out.cell 0
    by_cases hlt : 8 * j < N
    · have hd : decide ((8 * (j : Int)) < (N : Int)) = true := by simp; omega
      have hdi : (8 * (j : Int)) < (N : Int) := by omega
      have hs1 := fun W => sl_from g off N cap (8 * j) hlt hcap W
      obtain ⟨m, hm⟩ : ∃ m, m = min 8 (N - 8 * j) := ⟨_, rfl⟩
      have hs2 := fun W => sl_mid g off N cap (8 * j) m (by omega) (by omega) hcap W
      gi_wp2
      have hmI : min (8 : Int) ((N - 8 * j : Nat) : Int) = (m : Int) := by omega
      have hmx : Tryd.prog.follows .mixedOrders = true := by kernel_rfl
      have hm0 : 0 < m := by omega
      have hmN : 8 * j + m ≤ N := by omega
      clear hm
      gi_region_o
      rename_i K0 hK0
      refine hK0 _ _ ?_
      have hjf : j < full.length := by have := HLG.out; omega
      have HX := Lib.hid (HGET.out j hjf)
      have HTK := Lib.hid (show full.take (j + 1) = full.take j ++ [full[j]] from List.take_succ_eq_append_getElem hjf)
      have HPF := Lib.hid (show full.take j ++ [full[j]] <+: full by rw [← HTK.out]; exact List.take_prefix _ _)
      obtain ⟨x, hx⟩ : ∃ x, x = full[j] := ⟨_, rfl⟩
      rw [← hx] at HX HTK HPF
      have hx1 : x.1 = .slice (some ⟨g, off + 8 * j * 33, none⟩) m m := by rw [HX.out, ← HNP.out]; simp only [Value.slice.injEq, true_and]; omega
      have HJ4 := Lib.hid (HJ.out (full.take j) wr wr.drew HJR.out (below_drewN (Below.refl _ _) 1))
      obtain ⟨fn, tmps, assign, body, hyy, hR⟩ := HY.out (full.take j) x wr.drew HJ4.out HPF.out
      rw [hx1] at hyy
      have HRR := Lib.hid hR
      clear hR hx hx1
      gi_wp2_with fail
      refine ⟨fun h => absurd h (by decide), ?_⟩
      refine HRR.out.mono ?_
      rintro e1 W5 (⟨rfl, hJ5, hk5⟩ | ⟨rfl, hJx5⟩)
      · have HA1 := Lib.hid (hk5.mem1 HR1.out.drew)
        have HA2 := Lib.hid (hk5.mem2 HR2.out.drew)
        have a2 : W5.cell? ⟨b2, 0, none⟩ = some (.int .i64 8) := HA2.out.cell 0
        have HJ5 := Lib.hid (show J (full.take (j + 1)) W5 by rw [HTK.out]; exact hJ5)
        clear hJ5 hk5 hyy hs1 hs2 c1 c2 hmI
        gi_wp2_with fail
        refine ⟨⟨j + 1, by go_num, by omega, HA1, HA2, HJ5⟩, ?_⟩
        simp [intOf]
        omega
      · have HJX := Lib.hid (show ∃ p, p <+: full ∧ Jx p W5 from ⟨_, HPF.out, hJx5⟩)
        clear hJx5 hyy hs1 hs2 c1 c2 hmI
        gi_wp2_with fail
        refine bodyPost_ret (results_none rfl _ _ _) rfl ?_
        exact ⟨⟨_, rfl⟩, .inr HJX.out⟩
    · have hd : decide ((8 * (j : Int)) < (N : Int)) = false := by simp; omega
      have hdi : ¬ (8 * (j : Int)) < (N : Int) := by omega
      have HFU := Lib.hid (show full.take j = full from List.take_of_length_le (by have := HLG.out; omega))
      gi_wp2
      go_end0
      exact ⟨⟨_, rfl⟩, .inl (by rw [← HFU.out]; exact HJR.out)⟩
end Go.Proofs.YtjdhcanblpifcaaDoor

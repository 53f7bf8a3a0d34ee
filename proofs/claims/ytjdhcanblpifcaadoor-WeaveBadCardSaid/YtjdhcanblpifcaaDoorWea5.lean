/-
  slices.Backward over parts.
-/
import Derived.Test.YtjdhcanblpifcaaDoorWeaA
import Derived.Test.YtjdhcanblpifcaaDoorBrg
namespace Go.Proofs.YtjdhcanblpifcaaDoor
open Go.RowKit Crv
theorem ld_pt (p : Value) : Instr.loadAt Tpt p = ldRow Tpt p := rfl
theorem ld_pt_at {w : World} {b off : Nat} {p : Pt} (h : w.rangeAt b off (ptC p)) (hp : p.1.length = 32) : (ldRow Tpt (.pointer (some ⟨b, off, none⟩))).run Tryd.prog w = .ok (.agg (ptC p).toArray) w :=
  run_loadAt_mid (P := Tryd.prog) w b off Tpt (ptC p) _ h Tryd.underlying43 rfl (sz_pt p hp)
/-- The parts with their places, the last one first. -/
def bws (ps : List Pt) : List (Nat × Pt) := (List.range ps.length).map fun j => (ps.length - 1 - j, ps.getD (ps.length - 1 - j) ([], 0))
theorem length_bws (ps : List Pt) : (bws ps).length = ps.length := by simp [bws]
theorem bws_get (ps : List Pt) (j : Nat) (h : j < (bws ps).length) : (bws ps)[j] = (ps.length - 1 - j, ps.getD (ps.length - 1 - j) ([], 0)) := by simp [bws]
theorem bws_snd (ps : List Pt) : (bws ps).map (·.2) = ps.reverse := by
  refine List.ext_getElem (by simp [bws]) fun j h1 h2 => ?_
  rw [List.getElem_map, bws_get, List.getElem_reverse, List.getD_eq_getElem?_getD, List.getElem?_eq_getElem (by simp [bws] at h1; omega)]
  rfl
/-- What a round keeps: the iterator's box, the parts. -/
def BwKp (b1 g : Nat) (A B : World) : Prop := (∀ (cs : Array Value) (t : TypeId) (fr : Nat × Nat), A.heap[b1]? = some (Obj.cells cs t fr) → B.heap[b1]? = some (Obj.cells cs t fr)) ∧ B.heap[g]? = A.heap[g]?
theorem bwd_any (a : Option Addr) (n c : Nat) (w : World) :
    Calls Tryd.prog 73 #[.slice a n c] w fun e w' => e = .returned (.func (.func 83) #[] #[ptr w.heap.size]) ∧ Mem w' w.heap.size Tsp [.slice a n c] ∧ Below w.heap.size w w' ∧ w'.heap.size = w.heap.size + 1 := by
  go_enter Tryd.func73, Tryd.ntmps73
  go_wp2
  exact bodyPost_ret (results_tmp rfl _ _ _) rfl ⟨rfl, Mem.new w Tsp [_], belowSelf w _, by simp⟩
attribute [local go_sem ↓] ld_pt
theorem cell_of_block {A B : World} {g : Nat} (h : B.heap[g]? = A.heap[g]?) {off : Nat} {cs : List Value} (hr : A.rangeAt g off cs) : B.rangeAt g off cs := fun j u hu => by
  have := hr j u hu
  simp only [World.cell?, h] at this ⊢
  exact this
set_option maxRecDepth 100000 in
set_option maxHeartbeats 600000 in
theorem bwd1_seq (n b1 g off cap : Nat) (ps : List Pt) (w : World) (h1 : Mem w b1 Tsp [.slice (some ⟨g, off, none⟩) ps.length cap]) (hP : Pts w (.slice (some ⟨g, off, none⟩) ps.length cap) ps) (hn : ps.length ≤ 1000000) :
    SeqBy Fence.wide n Tryd.prog 83 #[ptr b1] (fun x : Nat × Pt => #[.int .i64 (x.1 : Int), .agg (ptC x.2).toArray]) ChSt (BwKp b1 g) (bws ps) w := fun l J Jx W hW hJ hY h0 => by
  have HJ := Lib.hid hJ
  have HY := Lib.hid hY
  have HM1 := Lib.hid (h1.below hW h1.lt)
  have HP0 := Lib.hid (show ∀ m, m < ps.length → W.rangeAt g (off + m * 33) (ptC (ps.getD m ([], 0))) ∧ (ps.getD m ([], 0)).1.length = 32 from fun m hm => by
    obtain ⟨a, cap', hv, -, hc⟩ := (hP.below hW).form
    injection hv with hv _ _
    obtain ⟨g', off', ha, -, hr⟩ := hc m hm
    rw [← hv] at ha
    injection ha with ha
    injection ha with ha1 ha2
    subst ha1 ha2
    have e : ps[m] = ps.getD m ([], 0) := by rw [List.getD_eq_getElem?_getD, List.getElem?_eq_getElem hm]; rfl
    rw [e] at hr
    exact ⟨hr, by rw [← e]; exact hP.1 _ (List.getElem_mem hm)⟩)
  have H0 := Lib.hid h0
  have HLG := Lib.hid (length_bws ps)
  have HGET := Lib.hid (bws_get ps)
  obtain ⟨full, hfull⟩ : ∃ f, f = bws ps := ⟨_, rfl⟩
  rw [← hfull] at HY HLG HGET ⊢
  obtain ⟨N, hN⟩ : ∃ N, N = ps.length := ⟨_, rfl⟩
  rw [← hN] at hn HM1 HLG HGET HP0
  have c1 : W.cell? ⟨b1, 0, none⟩ = some (.slice (some ⟨g, off, none⟩) N cap) := HM1.out.cell 0
  clear hN hJ hY h0 h1 hfull hP
  refine callsIn_of_wp Tryd.func83 rfl trivial ?_ rfl
  simp only [Tryd.ntmps83, List.size_toArray, List.length_cons, List.length_nil, Nat.reduceAdd, Nat.reduceSub, Array.replicate_succ, Array.replicate_zero, List.push_toArray, List.append_toArray, List.nil_append, List.cons_append]
  gi_wp2
  clear c1
  gi_loopw [3] (fun i wr => ∃ j : Nat, j ≤ N ∧ i = .int .i64 ((N : Int) - 1 - (j : Int)) ∧ Hid (Mem wr b1 Tsp [.slice (some ⟨g, off, none⟩) N cap]) ∧ Hid (∀ m, m < N → wr.rangeAt g (off + m * 33) (ptC (ps.getD m ([], 0))) ∧ (ps.getD m ([], 0)).1.length = 32) ∧ Hid (J (full.take j) wr)) (fun i _ => (intOf i + 1).toNat)
  case atStart => exact ⟨0, by omega, by simp, HM1, HP0, Lib.hid (by simpa using H0.out)⟩
  case round =>
    obtain ⟨j, hj, rfl, HR1, HRP, HJR⟩ := hrel
    clear HM1 H0 HP0
    by_cases hlt : j < N
    · obtain ⟨m, hm⟩ : ∃ m : Nat, (N : Int) - 1 - (j : Int) = (m : Int) := ⟨N - 1 - j, by omega⟩
      have hmN : m < N := by omega
      have HMJ := Lib.hid (show N - 1 - j = m by omega)
      rw [hm]
      have c1 : wr.cell? ⟨b1, 0, none⟩ = some (.slice (some ⟨g, off, none⟩) N cap) := HR1.out.cell 0
      have hld := ld_pt_at (HRP.out m hmN).1 (HRP.out m hmN).2
      have hjf : j < full.length := by have := HLG.out; omega
      have HX := Lib.hid (HGET.out j hjf)
      rw [HMJ.out] at HX
      obtain ⟨p, hp⟩ : ∃ p, p = ps.getD m ([], 0) := ⟨_, rfl⟩
      rw [← hp] at hld HX
      have HTK := Lib.hid (show full.take (j + 1) = full.take j ++ [(m, p)] by rw [List.take_succ_eq_append_getElem hjf, HX.out])
      have HPF := Lib.hid (show full.take j ++ [(m, p)] <+: full by rw [← HTK.out]; exact List.take_prefix _ _)
      obtain ⟨fn, tmps, assign, body, hyy, hR⟩ := HY.out (full.take j) (m, p) wr HJR.out HPF.out
      simp only at hyy
      have HRR := Lib.hid hR
      have HMM := Lib.hid hm
      clear hR hp HX hm
      gi_wp2_with fail
      refine ⟨fun h => absurd h (by decide), ?_⟩
      refine HRR.out.mono ?_
      rintro e1 W5 (⟨rfl, hJ5, hk5⟩ | ⟨rfl, hJx5⟩)
      · have HA1 := Lib.hid (show Mem W5 b1 Tsp [.slice (some ⟨g, off, none⟩) N cap] from hk5.1 _ _ _ HR1.out)
        have HAP := Lib.hid (show ∀ m, m < N → W5.rangeAt g (off + m * 33) (ptC (ps.getD m ([], 0))) ∧ (ps.getD m ([], 0)).1.length = 32 from fun m hm => ⟨cell_of_block hk5.2 (HRP.out m hm).1, (HRP.out m hm).2⟩)
        have HJ5 := Lib.hid (show J (full.take (j + 1)) W5 by rw [HTK.out]; exact hJ5)
        clear hJ5 hk5 hyy c1 hld
        gi_wp2_with fail
        refine ⟨⟨j + 1, by omega, by rw [← HMM.out]; go_num, HA1, HAP, HJ5⟩, ?_⟩
        simp [intOf]
      · have HJX := Lib.hid (show ∃ p, p <+: full ∧ Jx p W5 from ⟨_, HPF.out, hJx5⟩)
        clear hJx5 hyy c1 hld
        gi_wp2_with fail
        refine bodyPost_ret (results_none rfl _ _ _) rfl ?_
        exact ⟨⟨_, rfl⟩, .inr HJX.out⟩
    · have hm : (N : Int) - 1 - (j : Int) = -1 := by omega
      have HFU := Lib.hid (show full.take j = full from List.take_of_length_le (by have := HLG.out; omega))
      rw [hm]
      clear hm
      gi_wp2
      go_end0
      exact ⟨⟨_, rfl⟩, .inl (by rw [← HFU.out]; exact HJR.out)⟩
end Go.Proofs.YtjdhcanblpifcaaDoor

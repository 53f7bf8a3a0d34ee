/-
  Package merkle: combine.
-/
import Derived.Test.YtjdhcanblpifcaaDoorMer7
import Derived.Test.YtjdhcanblpifcaaDoorBrg
namespace Go.Proofs.YtjdhcanblpifcaaDoor
open Go.RowKit Go.Shelf Crv
attribute [local go_sem] Oper.semAt_some

abbrev Tso : TypeId := 44
def obCs (o : Ob) : List Value := obC o.1 o.2.1 o.2.2
/-! ### The groups -/
theorem gvs_parts : ∀ (n : Nat) (ps : List Pt), ps.length ≤ n → ((List.range ((ps.length + 7) / 8)).map fun j => (ps.drop (8 * j)).take 8) = grp ps
  | 0, ps, h => by
    have : ps = [] := List.length_eq_zero_iff.1 (by omega)
    subst this
    simp [grp_nil]
  | n + 1, ps, h => by
    by_cases hp : ps = []
    · subst hp; simp [grp_nil]
    · have h1 := List.length_pos_iff.2 hp
      have ih := gvs_parts n (ps.drop 8) (by rw [List.length_drop]; omega)
      rw [grp_cons hp, ← ih]
      have e : (ps.length + 7) / 8 = ((ps.drop 8).length + 7) / 8 + 1 := by rw [List.length_drop]; omega
      rw [e, List.range_succ_eq_map, List.map_cons, List.map_map]
      congr 1
      apply List.map_congr_left
      intro j _
      simp only [Function.comp, List.drop_drop]
      rw [show 8 * (j + 1) = 8 + 8 * j from by omega]
theorem gvs_snd (g off : Nat) (ps : List Pt) : (gvs g off ps).map (·.2) = grp ps := by
  rw [← gvs_parts ps.length ps (Nat.le_refl _)]
  simp [gvs]
theorem group_pts {w : World} {g off cap : Nat} {ps : List Pt} (h : Pts w (.slice (some ⟨g, off, none⟩) ps.length cap) ps) {x : Value × List Pt} (hx : x ∈ gvs g off ps) : Pts w x.1 x.2 ∧ (∃ m, x.1 = .slice (some ⟨g, m, none⟩) x.2.length x.2.length) ∧ x.2.length ≤ 8 ∧ ∀ p ∈ x.2, p ∈ ps := by
  obtain ⟨j, hj, rfl⟩ := List.mem_map.1 hx
  have hj' : j < (ps.length + 7) / 8 := List.mem_range.1 hj
  obtain ⟨a, cap', hv, hcap, hc⟩ := h.form
  injection hv with hv1 _ _
  have hl : ((ps.drop (8 * j)).take 8).length = min 8 (ps.length - 8 * j) := by rw [List.length_take, List.length_drop]
  have hsub : ∀ p ∈ (ps.drop (8 * j)).take 8, p ∈ ps := fun p hp => List.mem_of_mem_drop (List.mem_of_mem_take hp)
  refine ⟨⟨fun p hp => h.1 p (hsub p hp), ?_⟩, ⟨off + 8 * j * 33, by simp only [hl]⟩, by simp only [hl]; omega, hsub⟩
  refine ⟨some ⟨g, off + 8 * j * 33, none⟩, min 8 (ps.length - 8 * j), by rw [List.length_map, hl], by rw [List.length_map, hl]; exact Nat.le_refl _, fun i hi => ?_⟩
  rw [List.length_map, hl] at hi
  obtain ⟨g', off', ha, hlt, hr⟩ := hc (8 * j + i) (by omega)
  rw [← hv1] at ha
  injection ha with ha
  injection ha with h1 h2
  subst h1 h2
  refine ⟨g, off + 8 * j * 33, rfl, hlt, ?_⟩
  rw [List.getElem_map, List.getElem_take, List.getElem_drop]
  rw [show off + 8 * j * 33 + i * 33 = off + (8 * j + i) * 33 from by omega]
  exact hr
/-! ### What the rounds keep -/
def Kx (b6 b7 : Nat) (A B : World) : Prop := A.heap.size ≤ B.heap.size ∧ ∀ k o, A.heap[k]? = some o → B.heap[k]? = some o ∨ k = b6 ∨ k = b7 ∨ ∃ cs fr, o = Obj.cells cs Tpt fr ∨ o = Obj.cells cs Tob fr
theorem Kx.trans {b6 b7 : Nat} {A B C : World} (h : Kx b6 b7 A B) (h' : Kx b6 b7 B C) : Kx b6 b7 A C := ⟨Nat.le_trans h.1 h'.1, fun k o ho => (h.2 k o ho).elim (fun hb => h'.2 k o hb) .inr⟩
theorem Kx.below {b6 b7 : Nat} {A B : World} (h : Below A.heap.size A B) : Kx b6 b7 A B := ⟨h.size, fun k _ ho => .inl ((h.block k (Array.getElem?_eq_some_iff.1 ho).1).trans ho)⟩
theorem Kx.grown {b6 b7 : Nat} {A B : World} {row : Option Nat} (hg : A.grownBy B row) (hr : ∀ r, row = some r → r = b6 ∨ r = b7 ∨ ∃ cs fr, A.heap[r]? = some (Obj.cells cs Tpt fr) ∨ A.heap[r]? = some (Obj.cells cs Tob fr)) : Kx b6 b7 A B := by
  refine ⟨hg.size, fun k o ho => ?_⟩
  by_cases hk : some k = row
  · rcases hr k hk.symm with h | h | ⟨cs, fr, h⟩
    · exact .inr (.inl h)
    · exact .inr (.inr (.inl h))
    · exact .inr (.inr (.inr ⟨cs, fr, h.elim (fun h => .inl (by rw [ho] at h; exact Option.some.inj h)) (fun h => .inr (by rw [ho] at h; exact Option.some.inj h))⟩))
  · exact .inl ((hg.block k (Array.getElem?_eq_some_iff.1 ho).1 hk).trans ho)
theorem Kx.keeps {b6 b7 N : Nat} {A B : World} {c6 c7 : List Value} (h : Kx b6 b7 A B) (h6 : Mem A b6 Tsp c6) (h7 : Mem A b7 Tso c7) : KeepsFrom N A B := ⟨h.1, fun k o _ ho hc => by
  rcases h.2 k o ho with h | h | h | ⟨cs, fr, h⟩
  · exact h
  · subst h; rw [show A.heap[k]? = some (Obj.cells c6.toArray Tsp (0, 0)) from h6] at ho; cases ho; cases hc
  · subst h; rw [show A.heap[k]? = some (Obj.cells c7.toArray Tso (0, 0)) from h7] at ho; cases ho; cases hc
  · rcases h with h | h <;> (subst h; cases hc)⟩
theorem Kx.chunk {b6 b7 b1 b2 : Nat} {A B : World} {c1 c2 : List Value} (h : Kx b6 b7 A B) (h1 : Mem A b1 Tsp c1) (h2 : Mem A b2 Ti64 c2) (n1 : b1 ≠ b6 ∧ b1 ≠ b7) (n2 : b2 ≠ b6 ∧ b2 ≠ b7) : ChKp b1 b2 A B := by
  intro b hb cs t fr ho
  have key : b ≠ b6 ∧ b ≠ b7 ∧ (t = Tsp ∨ t = Ti64) := by
    rcases hb with rfl | rfl
    · refine ⟨n1.1, n1.2, .inl ?_⟩
      rw [show A.heap[b]? = some (Obj.cells c1.toArray Tsp (0, 0)) from h1] at ho
      cases ho; rfl
    · refine ⟨n2.1, n2.2, .inr ?_⟩
      rw [show A.heap[b]? = some (Obj.cells c2.toArray Ti64 (0, 0)) from h2] at ho
      cases ho; rfl
  rcases h.2 b _ ho with h | h | h | ⟨cs', fr', h⟩
  · exact h
  · exact absurd h key.1
  · exact absurd h key.2.1
  · exfalso
    rcases h with h | h <;> (injection h with _ ht _; rcases key.2.2 with e | e <;> (rw [e] at ht; exact absurd ht (by decide)))
/-- What the loop keeps. -/
def CbI (w : World) (lv : Nat) (pre : List (Value × List Pt)) (W : World) : Prop :=
  Mem W w.heap.size Ti64 [.int .i64 lv] ∧ (∃ va, Mem W (w.heap.size + 1) Tsp [va] ∧ Rw W (w.heap.size + 3) Tpt 33 va (pre.map fun x => ptC (nodePt lv x.2))) ∧
    (∃ vo, Mem W (w.heap.size + 1 + 1) Tso [vo] ∧ Rw W (w.heap.size + 3) Tob 34 vo (pre.map fun x => obCs (mkOb 2 (txtN lv x.2)))) ∧
    Mem W (w.heap.size + 3) Tsp [] = Mem W (w.heap.size + 3) Tsp [] ∧ Below w.heap.size w W
theorem cells_kept {W W' : World} {row : Option Nat} (hg : W.grownBy W' row) (hr : ∀ r, row = some r → ∃ o : Obj, W.heap[r]? = some o ∧ o.isCells = false) : ∀ (k : Nat) (cs : Array Value) (t : TypeId) (fr : Nat × Nat), W.heap[k]? = some (Obj.cells cs t fr) → W'.heap[k]? = some (Obj.cells cs t fr) := fun k cs t fr hk =>
  (hg.block k (Array.getElem?_eq_some_iff.1 hk).1 (fun e => by
    obtain ⟨o, h1, h2⟩ := hr k e.symm
    rw [hk] at h1
    cases h1
    cases h2)).trans hk
theorem put_kept {W : World} {l : Nat} {o o' : Obj} (h1 : W.heap[l]? = some o) (h2 : o.isCells = false) {k : Nat} {cs : Array Value} {t : TypeId} {fr : Nat × Nat} (hk : W.heap[k]? = some (Obj.cells cs t fr)) : (W.putObj l o').heap[k]? = some (Obj.cells cs t fr) :=
  (World.putObj_heap_other (fun e => by subst e; rw [h1] at hk; cases hk; cases h2)).trans hk
theorem Rw.kept {W W' : World} {base : Nat} {e : TypeId} {m : Nat} {v : Value} {xs : List (List Value)} (h : Rw W base e m v xs) (hk : ∀ (k : Nat) (cs : Array Value) (t : TypeId) (fr : Nat × Nat), W.heap[k]? = some (Obj.cells cs t fr) → W'.heap[k]? = some (Obj.cells cs t fr)) : Rw W' base e m v xs := h.of_block fun g hg => by
  obtain ⟨cs, hcs⟩ := h.tag g hg
  rw [hcs]
  exact hk g _ _ _ hcs
theorem cbI_own {w : World} {lv N0 : Nat} (hN : w.heap.size ≤ N0) : OwnFrom N0 (CbI w lv) := by
  rintro s W W' row ⟨h1, ⟨va, h2, h3⟩, ⟨vo, h4, h5⟩, -, h6⟩ hg hr
  have hk := cells_kept hg (fun r e => (hr r e).2)
  refine ⟨hk _ _ _ _ h1, ⟨va, hk _ _ _ _ h2, h3.kept hk⟩, ⟨vo, hk _ _ _ _ h4, h5.kept hk⟩, rfl, ?_⟩
  exact ⟨hg.os.trans h6.os, hg.tape.trans h6.tape, hg.output.trans h6.output, Nat.le_trans h6.size hg.size, fun k hkk => (hg.block k (Nat.lt_of_lt_of_le hkk h6.size) (fun e => by have := (hr k e.symm).1; omega)).trans (h6.block k hkk)⟩
theorem cbI_st {w : World} {lv : Nat} {pre : List (Value × List Pt)} {A B : World} (h : CbI w lv pre A) (hs : ChSt A B) : CbI w lv pre B := by
  obtain ⟨h1, ⟨va, h2, h3⟩, ⟨vo, h4, h5⟩, -, h6⟩ := h
  exact ⟨h1.below hs h1.lt, ⟨va, h2.below hs h2.lt, h3.below hs⟩, ⟨vo, h4.below hs h4.lt, h5.below hs⟩, rfl, belowThen h6 hs⟩
theorem small_of' {ps : List Pt} (h : ∀ p ∈ ps, 0 ≤ p.2 ∧ p.2 ≤ 1000000000) (hn : ps.length ≤ 8) : Small ps ∧ ∀ p ∈ ps, -1152921504606846976 ≤ p.2 ∧ p.2 ≤ 1152921504606846976 := by
  refine ⟨fun k hk => ?_, fun p hp => by have := h p hp; omega⟩
  have key : ∀ l : List Pt, (∀ p ∈ l, 0 ≤ p.2 ∧ p.2 ≤ 1000000000) → 0 ≤ sumP l ∧ sumP l ≤ 1000000000 * (l.length : Int) := by
    intro l
    induction l with
    | nil => intro _; simp [sumP]
    | cons p r ih =>
      intro hl
      have h1 := hl p (by simp)
      have h2 := ih (fun q hq => hl q (by simp [hq]))
      rw [sumP_cons, List.length_cons]
      push_cast
      omega
  have h3 := key (ps.take k) (fun p hp => h p (List.mem_of_mem_take hp))
  have h4 := List.length_take_le k ps
  rw [List.length_take] at h3
  omega
set_option maxRecDepth 100000 in
set_option maxHeartbeats 1000000 in
theorem combine_any (lv g off cap : Nat) (ps : List Pt) (w : World) (hc : Consts w) (hP : Pts w (.slice (some ⟨g, off, none⟩) ps.length cap) ps) (hcap : ps.length ≤ cap) (hn : ps.length ≤ 1000000) (hlv : lv ≤ 1000) (hsz : ∀ p ∈ ps, 0 ≤ p.2 ∧ p.2 ≤ 1000000000) :
    Calls Tryd.prog 44 #[.int .i64 (lv : Int), .slice (some ⟨g, off, none⟩) ps.length cap] w fun e w' => ∃ va vo, e = .returned (.tuple #[va, vo]) ∧ Rw w' w.heap.size Tpt 33 va ((upP lv ps).map ptC) ∧ Rw w' w.heap.size Tob 34 vo ((upO lv ps).map obCs) ∧ Below w.heap.size w w' := by
  have HC := Lib.hid hc
  have HP := Lib.hid hP
  have HSZ := Lib.hid hsz
  obtain ⟨W0, hW0⟩ : ∃ W, W = ((w.alloc (.cells #[.int .i64 (lv : Int)] Ti64)).alloc (.cells #[.slice none 0 0] Tsp)).alloc (.cells #[.slice none 0 0] Tso) := ⟨_, rfl⟩
  have HI0 := Lib.hid (show CbI w lv [] W0 by
    rw [hW0]
    exact ⟨((Mem.new w Ti64 [.int .i64 (lv : Int)]).alloc _).alloc _, ⟨_, (Mem.newAt _ Tsp [.slice none 0 0] (by simp)).alloc _, Rw.nil _ _ _ _⟩, ⟨_, Mem.newAt _ Tso [.slice none 0 0] (by simp), Rw.nil _ _ _ _⟩, rfl, ((belowSelf w _).alloc (by simp) _).alloc (by simp; omega) _⟩)
  have hs0 : W0.heap.size = w.heap.size + 3 := by rw [hW0]; simp
  have HCH := Lib.hid (fun k => (callsIn_wide (n := k)).2 (chunk_any (some ⟨g, off, none⟩) ps.length cap W0))
  rw [hs0] at HCH
  have HWW := Lib.hid hW0
  clear hc hP hsz hW0
  refine (callsIn_wide (n := 3)).1 ?_
  refine callsIn_of_wp_marks Tryd.func44 rfl trivial ?_ rfl
  simp only [Tryd.ntmps44, List.size_toArray, List.length_cons, List.length_nil, Nat.reduceAdd, Nat.reduceSub, Array.replicate_succ, Array.replicate_zero, List.push_toArray, List.append_toArray, List.nil_append, List.cons_append]
  gi_wp2_with fail
  rw [show ((w.alloc (.cells #[.int .i64 (lv : Int)] Ti64)).alloc (.cells #[.slice none 0 0] Tsp)).alloc (.cells #[.slice none 0 0] Tso) = W0 from HWW.out.symm]
  refine ⟨trivial, ?_⟩
  refine (HCH.out _).mono ?_
  rintro e w1 ⟨rfl, hm1, hm2, hb1, hs1⟩
  have HI1 := Lib.hid (cbI_st HI0.out (show ChSt W0 w1 by unfold ChSt; rw [hs0]; exact hb1))
  have HSQ := Lib.hid (chunk1_seq 2 (w.heap.size + 3) (w.heap.size + 3 + 1) g off cap ps w1 hm1 hm2 hcap hn)
  have HM1 := Lib.hid hm1
  have HM2 := Lib.hid hm2
  have hz1 : w.heap.size + 5 = w1.heap.size := by omega
  clear hb1 hs1 hm1 hm2 HCH HI0 hs0
  gi_wp2_with fail
  refine range_by rfl (by omega) (gf := 78) (lb := #[ptr (w.heap.size + 3), ptr (w.heap.size + 3 + 1)]) rfl trivial (enters_of Tryd.func78 (by kernel_rfl) rfl) HSQ.out
    (fun A B h => ⟨h.size, fun k o _ hk _ => (h.block k (Array.getElem?_eq_some_iff.1 hk).1).trans hk⟩) (fun A B C h h' b hb cs t fr ho => h' b hb cs t fr (h b hb cs t fr ho)) (fun W l o o' _ h1 h2 b _ cs t fr hb => (World.putObj_heap_other (fun e => by subst e; rw [h1] at hb; cases hb; cases h2)).trans hb) (fun _ => rfl) (fun pre W => CbI w lv pre W ∧ Mem W (w.heap.size + 3) Tsp [.slice (some ⟨g, off, none⟩) ps.length cap] ∧ Mem W (w.heap.size + 3 + 1) Ti64 [.int .i64 8]) (fun _ _ _ => False)
    ?own (fun pre A B hi hst => ⟨cbI_st hi.1 hst, hi.2.1.below hst hi.2.1.lt, hi.2.2.below hst hi.2.2.lt⟩) (fun _ _ _ _ _ hs _ _ => hs) ⟨HI1.out, HM1.out, HM2.out⟩
    (fun x => { tmps := #[.int .i64 (lv : Int), .slice (some ⟨g, off, none⟩) ps.length cap, ptr w.heap.size, undef, .slice none 0 0, .slice none 0 0, ptr (w.heap.size + 1), ptr (w.heap.size + 1 + 1), x.1, undef, undef, .slice (some ⟨g, off, none⟩) ps.length cap, .func (.func 78) #[] #[ptr (w.heap.size + 3), ptr (w.heap.size + 3 + 1)], x.1, undef, undef, undef, undef, undef, undef, undef, undef, undef, undef, undef, undef, undef, undef, undef, undef, undef, undef, undef, undef], defers := [] }) ?assign ?body ?done ?stop
  case own =>
    rintro s W W' row ⟨h1, h2, h3⟩ hg hr
    have hk := cells_kept hg (fun r e => (hr r e).2)
    exact ⟨cbI_own (by omega) s W W' row h1 hg hr, hk _ _ _ _ h2, hk _ _ _ _ h3⟩
  case assign =>
    intro l x W K hK
    gi_wp2
    exact hK
  case body =>
    rintro l pre x W ⟨hI, hM1, hM2⟩ hpre
    have hxm : x ∈ gvs g off ps := hpre.subset (by simp)
    obtain ⟨hgp, ⟨mo, hx1⟩, hx8, hsub⟩ := group_pts HP.out hxm
    obtain ⟨x1, grp1⟩ := x
    simp only at hx1 hx8 hsub hgp
    subst hx1
    obtain ⟨i1, ⟨va, i2, i3⟩, ⟨vo, i4, i5⟩, -, i6⟩ := hI
    have hcl : W.cell? ⟨w.heap.size, 0, none⟩ = some (.int .i64 (lv : Int)) := i1.cell 0
    have hPW := hgp.below i6
    have HCW := Lib.hid (HC.out.below i6)
    have hszg : ∀ p ∈ grp1, 0 ≤ p.2 ∧ p.2 ≤ 1000000000 := fun p hp => HSZ.out p (hsub p hp)
    have HLT := Lib.hid (show (txtN lv grp1).length ≤ 1000000 by
      have h1 := length_numOf (n := nat0 lv) (by unfold nat0; omega)
      have h2 := length_numOf (n := grp1.length) (by omega)
      have h3 := length_flatTxt grp1 (fun p hp => ⟨hPW.1 p hp, by have := hszg p hp; omega⟩)
      unfold txtN
      rw [List.length_append, List.length_append]
      omega)
    have HTX := Lib.hid (text_any lv (.slice (some ⟨g, mo, none⟩) grp1.length grp1.length) grp1 (W.alloc (.cells #[.int .i64 (lv : Int), .slice (some ⟨g, mo, none⟩) grp1.length grp1.length] Tnd)) (hPW.below (belowSelf W _)) (by omega) (by omega) (fun p hp => by have := hszg p hp; omega))
    have HGP0 := Lib.hid hgp
    have HPRE := Lib.hid hpre
    have hLO : ∀ K : Act → World → Prop, ¬ LetsOut (Exit.then K (Exit.inBlock 1 (ownPostG w1.heap.size (ChKp (w.heap.size + 3) (w.heap.size + 3 + 1)) (fun pre W => CbI w lv pre W ∧ Mem W (w.heap.size + 3) Tsp [.slice (some ⟨g, off, none⟩) ps.length cap] ∧ Mem W (w.heap.size + 3 + 1) Ti64 [.int .i64 8]) (fun _ _ _ => False) (pre ++ [(Value.slice (some ⟨g, mo, none⟩) grp1.length grp1.length, grp1)]) W))) := by
      rintro K ⟨_, _, h⟩
      exact h
    have HLO := Lib.hid hLO
    have HQI := Lib.hid (show Mem W w.heap.size Ti64 [.int .i64 (lv : Int)] ∧ Mem W (w.heap.size + 1) Tsp [va] ∧ Rw W (w.heap.size + 3) Tpt 33 va (pre.map fun x => ptC (nodePt lv x.2)) ∧ Mem W (w.heap.size + 1 + 1) Tso [vo] ∧ Rw W (w.heap.size + 3) Tob 34 vo (pre.map fun x => obCs (mkOb 2 (txtN lv x.2))) ∧ Below w.heap.size w W ∧ Mem W (w.heap.size + 3) Tsp [.slice (some ⟨g, off, none⟩) ps.length cap] ∧ Mem W (w.heap.size + 3 + 1) Ti64 [.int .i64 8] from ⟨i1, i2, i3, i4, i5, i6, hM1, hM2⟩)
    clear i1 i2 i4 i6 hM1 hM2 hPW hgp hpre hLO hxm HI1 HM1 HM2 HSQ
    obtain ⟨oa, om, op, rfl⟩ := i5.shape
    obtain ⟨pa, pm, pp, rfl⟩ := i3.shape
    clear i3 i5
    obtain ⟨io, hio, hiz, hisz, hiby⟩ : ∃ i, Tryd.prog.info? Tob = some i ∧ i.zero = some (.agg (Value.int .i64 0 :: (List.replicate 32 (byteV 0) ++ [Value.string ⟨#[]⟩])).toArray) ∧ i.size = 34 ∧ i.bytes = 56 := info_of (by kernel_rfl)
    have HIO := Lib.hid hio
    have HIZ := Lib.hid hiz
    have HISZ := Lib.hid hisz
    have HIBY := Lib.hid hiby
    clear hio hiz hisz hiby
    obtain ⟨ip, hio, hiz, hisz, hiby⟩ : ∃ i, Tryd.prog.info? Tpt = some i ∧ i.zero = some (.agg (List.replicate 32 (byteV 0) ++ [Value.int .i64 0]).toArray) ∧ i.size = 33 ∧ i.bytes = 40 := info_of (by kernel_rfl)
    have HJO := Lib.hid hio
    have HJZ := Lib.hid hiz
    have HJSZ := Lib.hid hisz
    have HJBY := Lib.hid hiby
    clear hio hiz hisz hiby
    have hpl : pre.length ≤ 1000000 := by
      have h1 := HPRE.out.length_le
      rw [length_gvs] at h1
      simp at h1
      omega
    refine wpIn_block ?_
    refine wpIn_seq_k (fun K1 hK1 => ?_)
    refine regionL_of (by kernel_rfl) (HLO.out K1) ?_
    go_wp2_with fail
    refine wpIn_seq_k (fun K2 hK2 => ?_)
    refine regionL_of (by kernel_rfl) (HLO.out K2) ?_
    obtain ⟨tt, htt⟩ : ∃ q, q = txtN lv grp1 := ⟨_, rfl⟩
    have h32 := length_oidOf 2 (txtN lv grp1)
    obtain ⟨xi, hxi⟩ : ∃ q, q = oidOf 2 (txtN lv grp1) := ⟨_, rfl⟩
    have HMK := Lib.hid (show ∀ W, Consts W → Calls Tryd.prog 43 #[.int .i64 2, .string (str tt)] W fun e w' => e = .returned (.agg (obC 2 xi tt).toArray) ∧ Below W.heap.size W w' from fun W hc => by rw [hxi, htt]; exact make_any 2 (by omega) _ HLT.out W hc)
    rw [← hxi] at h32
    rw [← htt] at HTX HLT
    have HNP := Lib.hid (show nodePt lv grp1 = (xi, sumP grp1) by rw [hxi]; rfl)
    have HNO := Lib.hid (show obCs (mkOb 2 (txtN lv grp1)) = obC 2 xi tt by rw [hxi, htt]; rfl)
    have SZO := Lib.hid (sz_ob 2 xi tt h32)
    have ONEO := Lib.hid (one_obC 2 xi tt)
    have HLN := Lib.hid (show (Value.int .i64 0 :: (List.replicate 32 (byteV 0) ++ [Value.string ⟨#[]⟩])).length = (obC 2 xi tt).length by rw [length_obC 2 xi tt h32]; rfl)
    have HL34 := Lib.hid (length_obC 2 xi tt h32)
    have HBSO := Lib.hid (fun W => run_bslice_ob 2 xi tt h32 W)
    have H32 := Lib.hid h32
    clear htt hxi h32
    go_wp2_with fail
    refine HTX.out.mono ?_
    rintro e w2 ⟨rfl, hb2⟩
    have HB2 := Lib.hid (belowThen (belowSelf W _) hb2)
    have HN2 := Lib.hid ((Mem.new W Tnd [.int .i64 (lv : Int), .slice (some ⟨g, mo, none⟩) grp1.length grp1.length]).below hb2 (by simp))
    clear hb2 HTX
    go_wp2_with fail
    refine (HMK.out _ (HCW.out.below HB2.out)).mono ?_
    rintro e w3 ⟨rfl, hb3⟩
    have HB3 := Lib.hid (belowThen HB2.out hb3)
    have HN3 := Lib.hid (HN2.out.below hb3 HN2.out.lt)
    clear hb3 HMK HN2 HB2
    go_wp2_with (first
      | (refine wp_store_gen (B := w3.heap.size) (w0 := w3) (belowSelf w3 _) (Nat.le_refl _) (Mem.newAt w3 Tob (Value.int .i64 0 :: (List.replicate 32 (byteV 0) ++ [Value.string ⟨#[]⟩])) rfl) (obC 2 xi tt) Tob (.tmp 10) (.tmp 19) rfl rfl rfl rfl SZO.out HLN.out ONEO.out ?_
         intro W4 hm4 hb4 hz4 hk4
         have HM4 := Lib.hid hm4
         have HB4 := Lib.hid (belowThen HB3.out hb4)
         have HN4 := Lib.hid (HN3.out.below hb4 HN3.out.lt)
         clear hm4 hb4 hz4 hk4)
      | fail)
    have HQ4 := Lib.hid (show Mem W4 w.heap.size Ti64 [.int .i64 (lv : Int)] ∧ Mem W4 (w.heap.size + 1) Tsp [.slice pa pm pp] ∧ Rw W4 (w.heap.size + 3) Tpt 33 (.slice pa pm pp) (pre.map fun x => ptC (nodePt lv x.2)) ∧ Mem W4 (w.heap.size + 1 + 1) Tso [.slice oa om op] ∧ Rw W4 (w.heap.size + 3) Tob 34 (.slice oa om op) (pre.map fun x => obCs (mkOb 2 (txtN lv x.2))) ∧ Below w.heap.size w W4 ∧ Mem W4 (w.heap.size + 3) Tsp [.slice (some ⟨g, off, none⟩) ps.length cap] ∧ Mem W4 (w.heap.size + 3 + 1) Ti64 [.int .i64 8] from
      ⟨HQI.out.1.below HB4.out HQI.out.1.lt, HQI.out.2.1.below HB4.out HQI.out.2.1.lt, HQI.out.2.2.1.below HB4.out, HQI.out.2.2.2.1.below HB4.out HQI.out.2.2.2.1.lt, HQI.out.2.2.2.2.1.below HB4.out, belowThen HQI.out.2.2.2.2.2.1 HB4.out, HQI.out.2.2.2.2.2.2.1.below HB4.out HQI.out.2.2.2.2.2.2.1.lt, HQI.out.2.2.2.2.2.2.2.below HB4.out HQI.out.2.2.2.2.2.2.2.lt⟩)
    have c7 : W4.cell? ⟨w.heap.size + 1 + 1, 0, none⟩ = some (.slice oa om op) := HQ4.out.2.2.2.1.cell 0
    have HRO := Lib.hid (show Rw (W4.alloc (.cells (obC 2 xi tt).toArray Tob)) (w.heap.size + 3) Tob 34 (.slice oa om op) (pre.map fun x => obCs (mkOb 2 (txtN lv x.2))) from HQ4.out.2.2.2.2.1.below (belowSelf _ _))
    have HBO := Lib.hid (belowThen HQ4.out.2.2.2.2.2.1 (belowSelf W4 (.cells (obC 2 xi tt).toArray Tob)))
    have HLKO := Lib.hid (show (pre.map fun x => obCs (mkOb 2 (txtN lv x.2))).length ≤ 900000000 by rw [List.length_map]; omega)
    have hs4 : w.heap.size + 5 ≤ W4.heap.size := by have := HQI.out.2.2.2.2.2.2.2.lt; have := HB4.out.size; omega
    refine wpIn_seq_k (fun K3 hK3 => ?_)
    refine regionL_of (by kernel_rfl) (HLO.out K3) ?_
    simp only [Act.put]
    go_wp2_with (first
      | (refine wp_load_mem HM4.out Tob (.tmp 10) _ rfl rfl rfl Tryd.underlying55 rfl SZO.out ?_)
      | (refine wp_bslice1 (HBSO.out _) rfl rfl rfl ?_)
      | (at_builtin
         refine wp_append_row (w0 := w) HRO.out w.heap.size HBO.out (by omega) (obC 2 xi tt) (by decide) HL34.out ONEO.out (.tmp 20) (.tmp 22) Tso io _ 56 rfl rfl Tryd.underlying44 HIO.out HIZ.out HISZ.out HIBY.out rfl (by decide) rfl (g := W4.heap.size) (c := 1) rfl (fun j u hu => ((Mem.new W4 Tob (obC 2 xi tt)).cell j).trans hu) HLKO.out (by simp; omega) ?_
         intro vB wB hrB hbB hsB hgB hatB
         obtain ⟨oa', om', op', rfl⟩ := hrB.shape
         have hltO := HRO.out.lt
         have htgO := HRO.out.tag
         have HB5 := Lib.hid (show Mem wB (w.heap.size + 1 + 1) Tso [.slice oa om op] from (HQ4.out.2.2.2.1.alloc _).grown hgB (fun e => by have := (hltO _ e.symm).2; omega))
         have c7b : wB.cell? ⟨w.heap.size + 1 + 1, 0, none⟩ = some (.slice oa om op) := HB5.out.cell 0
         have f7b : wB.frozen? ⟨w.heap.size + 1 + 1, 0, none⟩ = false := HB5.out.frozen 0
         have HRB := Lib.hid hrB
         have HBB := Lib.hid hbB
         have HGB := Lib.hid hgB
         have HTG := Lib.hid htgO
         clear hrB hbB hsB hgB hatB hltO htgO c7)
      | fail)
-- BEGIN
    have hW3 : W.heap.size ≤ w3.heap.size := HB3.out.size
    have HOWN := Lib.hid (show ∀ b, (W.heap.size ≤ b ∨ ∃ cs t, t ≠ Tob ∧ Mem (W4.alloc (.cells (obC 2 xi tt).toArray Tob)) b t cs) → some b ≠ (Value.slice oa om op).ownBlock from fun b hb e => by
      rcases hb with hb | ⟨cs, t, ht, hm⟩
      · have := (HQI.out.2.2.2.2.1.lt b e.symm).1
        omega
      · obtain ⟨cs', h'⟩ := HTG.out b e.symm
        rw [show (W4.alloc (.cells (obC 2 xi tt).toArray Tob)).heap[b]? = some (Obj.cells cs.toArray t (0, 0)) from hm] at h'
        injection h' with h'
        injection h' with _ h'
        exact ht h')
    have hN1 : W.heap.size < w3.heap.size := HN3.out.lt
    have hN5 : w.heap.size + 5 ≤ W.heap.size := HQI.out.2.2.2.2.2.2.2.lt
    obtain ⟨W6, hW6⟩ : ∃ q, q = wB.setCell ⟨w.heap.size + 1 + 1, 0, none⟩ (.slice oa' om' op') := ⟨_, rfl⟩
    have HQ6 := Lib.hid (show Mem W6 w.heap.size Ti64 [.int .i64 (lv : Int)] ∧ Mem W6 (w.heap.size + 1) Tsp [.slice pa pm pp] ∧ Rw W6 (w.heap.size + 3) Tpt 33 (.slice pa pm pp) (pre.map fun x => ptC (nodePt lv x.2)) ∧ Mem W6 (w.heap.size + 1 + 1) Tso [.slice oa' om' op'] ∧ Rw W6 (w.heap.size + 3) Tob 34 (.slice oa' om' op') ((pre.map fun x => obCs (mkOb 2 (txtN lv x.2))) ++ [obC 2 xi tt]) ∧ Below w.heap.size w W6 ∧ Mem W6 (w.heap.size + 3) Tsp [.slice (some ⟨g, off, none⟩) ps.length cap] ∧ Mem W6 (w.heap.size + 3 + 1) Ti64 [.int .i64 8] ∧ Mem W6 w3.heap.size Tob (obC 2 xi tt) ∧ Mem W6 W.heap.size Tnd [.int .i64 (lv : Int), .slice (some ⟨g, mo, none⟩) grp1.length grp1.length] by
      rw [hW6]
      refine ⟨?_, ?_, ?_, HB5.out.set 0 (.slice oa' om' op'), ?_, ?_, ?_, ?_, ?_, ?_⟩
      · exact ((HQ4.out.1.alloc _).grown HGB.out (HOWN.out _ (.inr ⟨_, _, by decide, HQ4.out.1.alloc _⟩))).other (by simp; omega) _
      · exact ((HQ4.out.2.1.alloc _).grown HGB.out (HOWN.out _ (.inr ⟨_, _, by decide, HQ4.out.2.1.alloc _⟩))).other (by simp) _
      · refine Rw.of_block (w := wB) ((HQ4.out.2.2.1.below (belowSelf W4 (.cells (obC 2 xi tt).toArray Tob))).of_block (fun b hb => ?_)) (fun b hb => heap_set_ne ?_)
        · have h1 := HQ4.out.2.2.1.below (belowSelf W4 (.cells (obC 2 xi tt).toArray Tob))
          obtain ⟨cs, hcs⟩ := h1.tag b hb
          exact HGB.out.block b (h1.lt b hb).1 (HOWN.out b (.inr ⟨cs.toList, Tpt, by decide, by simpa [Mem] using hcs⟩))
        · have := (HQ4.out.2.2.1.lt b hb).2
          simp; omega
      · exact HRB.out.of_block (fun b hb => heap_set_ne (by have := (HRB.out.lt b hb).2; simp; omega))
      · exact HBB.out.setCell (by simp; omega) _
      · exact ((HQ4.out.2.2.2.2.2.2.1.alloc _).grown HGB.out (HOWN.out _ (.inr ⟨_, _, by decide, HQ4.out.2.2.2.2.2.2.1.alloc _⟩))).other (by simp) _
      · exact ((HQ4.out.2.2.2.2.2.2.2.alloc _).grown HGB.out (HOWN.out _ (.inr ⟨_, _, by decide, HQ4.out.2.2.2.2.2.2.2.alloc _⟩))).other (by simp) _
      · exact ((HM4.out.alloc _).grown HGB.out (HOWN.out _ (.inl hW3))).other (by simp; omega) _
      · exact ((HN4.out.alloc _).grown HGB.out (HOWN.out _ (.inl (Nat.le_refl _)))).other (by simp; omega) _)
    have HKX := Lib.hid (show Kx (w.heap.size + 1) (w.heap.size + 1 + 1) W W6 by
      rw [hW6]
      refine (Kx.below (belowThen HB4.out (belowSelf W4 (.cells (obC 2 xi tt).toArray Tob)))).trans ((Kx.grown HGB.out (fun r hr => ?_)).trans (Kx.grown (grownCell _ _ _ _) (fun r hr => .inr (.inl (by injection hr with hr; exact hr.symm)))))
      obtain ⟨cs, hcs⟩ := HTG.out r hr
      exact .inr (.inr ⟨_, _, .inr hcs⟩))
    rw [← hW6]
    have HQD := Lib.hid (show Mem W6.drew w.heap.size Ti64 [.int .i64 (lv : Int)] ∧ Mem W6.drew (w.heap.size + 1) Tsp [.slice pa pm pp] ∧ Rw W6.drew (w.heap.size + 3) Tpt 33 (.slice pa pm pp) (pre.map fun x => ptC (nodePt lv x.2)) ∧ Mem W6.drew (w.heap.size + 1 + 1) Tso [.slice oa' om' op'] ∧ Rw W6.drew (w.heap.size + 3) Tob 34 (.slice oa' om' op') ((pre.map fun x => obCs (mkOb 2 (txtN lv x.2))) ++ [obC 2 xi tt]) ∧ Below w.heap.size w W6.drew ∧ Mem W6.drew (w.heap.size + 3) Tsp [.slice (some ⟨g, off, none⟩) ps.length cap] ∧ Mem W6.drew (w.heap.size + 3 + 1) Ti64 [.int .i64 8] ∧ Mem W6.drew w3.heap.size Tob (obC 2 xi tt) ∧ Mem W6.drew W.heap.size Tnd [.int .i64 (lv : Int), .slice (some ⟨g, mo, none⟩) grp1.length grp1.length] from ⟨HQ6.out.1, HQ6.out.2.1, HQ6.out.2.2.1, HQ6.out.2.2.2.1, HQ6.out.2.2.2.2.1, below_drewN HQ6.out.2.2.2.2.2.1 1, HQ6.out.2.2.2.2.2.2.1, HQ6.out.2.2.2.2.2.2.2.1, HQ6.out.2.2.2.2.2.2.2.2.1, HQ6.out.2.2.2.2.2.2.2.2.2⟩)
    have hLO2 : ¬ LetsOut (Exit.inBlock 1 (ownPostG w1.heap.size (ChKp (w.heap.size + 3) (w.heap.size + 3 + 1)) (fun pre W => CbI w lv pre W ∧ Mem W (w.heap.size + 3) Tsp [.slice (some ⟨g, off, none⟩) ps.length cap] ∧ Mem W (w.heap.size + 3 + 1) Ti64 [.int .i64 8]) (fun _ _ _ => False) (pre ++ [(Value.slice (some ⟨g, mo, none⟩) grp1.length grp1.length, grp1)]) W)) := by
      rintro ⟨_, _, h⟩
      exact h
    have SZI := Lib.hid (sz_id xi H32.out)
    have hsm := small_of' (ps := grp1) hszg hx8
    have HSIZE := Lib.hid (size_any lv (.slice (some ⟨g, mo, none⟩) grp1.length grp1.length) grp1 W6.drew (HGP0.out.below HQD.out.2.2.2.2.2.1) hsm.1 hsm.2 (by omega))
    have HBP := Lib.hid (fun W => run_build_pt xi (sumP grp1) H32.out W)
    have HBS := Lib.hid (fun W => run_bslice_pt (xi, sumP grp1) H32.out W)
    have HN33 := Lib.hid (length_ptC (xi, sumP grp1) H32.out)
    have HONE := Lib.hid (one_ptC (xi, sumP grp1))
    have HLKP := Lib.hid (show (pre.map fun x => ptC (nodePt lv x.2)).length ≤ 900000000 by rw [List.length_map]; omega)
    have c6 : W6.drew.cell? ⟨w.heap.size + 1, 0, none⟩ = some (.slice pa pm pp) := HQD.out.2.1.cell 0
    obtain ⟨sm, hsmE⟩ : ∃ q, q = sumP grp1 := ⟨_, rfl⟩
    rw [← hsmE] at HSIZE HBP HBS HN33 HONE HNP
    clear hsm hsmE hW6 c7b f7b HRO HBO
    refine region_held_of (S := fun W' => Mem W' w3.heap.size Tob (obC 2 xi tt) ∧ Mem W' W.heap.size Tnd [.int .i64 (lv : Int), .slice (some ⟨g, mo, none⟩) grp1.length grp1.length]) (by kernel_rfl) hLO2 (by kernel_rfl) HQD.out.2.2.2.2.2.2.2.2 (fun hHeld => ?_)
    refine wpAnyH_take (i := 1) (oi := { dst := some 25, op := Op.fieldAddr Tob (Operand.tmp 10) 1, type := 0, pos := "merkle.go:154", after := #[], guard := none }) (v := .pointer (some ⟨w3.heap.size, 1, none⟩)) rfl (by kernel_rfl) (by kernel_rfl) (by kernel_rfl) (fun _ _ _ h => h) (Or.inl ⟨by rfl, ?_⟩) hHeld ?_
    · intro w' hSw
      go_simp
    simp only [Act.put, List.setIfInBounds_toArray, List.set_cons_zero, List.set_cons_succ]
    refine wpAnyH_take (i := 2) (oi := { dst := some 26, op := Op.load TI (Operand.tmp 25), type := TI, pos := "merkle.go:154", after := #[{ on := 1, ground := Ground.data }], guard := none }) (v := _) rfl (by kernel_rfl) (by kernel_rfl) (by kernel_rfl) (fun _ _ _ h => h) (yieldsIf_load_mid (by rfl) TI (.tmp 25) rfl w3.heap.size 1 rfl (xi.map byteV) (.array 32 5) (fun w hS => hS.1.range 1 _ ⟨[.string (str tt)], by simp [obC]⟩) Tryd.underlying41 rfl SZI.out) hHeld ?_
    simp only [Act.put, List.setIfInBounds_toArray, List.set_cons_zero, List.set_cons_succ]
    refine wpAnyH_take (i := 3) (oi := { dst := some 27, op := Op.load Tnd (Operand.tmp 9), type := Tnd, pos := "merkle.go:154", after := #[], guard := none }) (v := .agg #[.int .i64 (lv : Int), .slice (some ⟨g, mo, none⟩) grp1.length grp1.length]) rfl (by kernel_rfl) (by kernel_rfl) (by kernel_rfl) (fun _ _ _ h => h) (Or.inl ⟨by rfl, ?_⟩) hHeld ?_
    · intro w' hSw
      have k0 : w'.cell? ⟨W.heap.size, 0, none⟩ = some (.int .i64 (lv : Int)) := hSw.2.cell 0
      have k1 : w'.cell? ⟨W.heap.size, 1, none⟩ = some (.slice (some ⟨g, mo, none⟩) grp1.length grp1.length) := hSw.2.cell 1
      go_simp
    simp only [Act.put, List.setIfInBounds_toArray, List.set_cons_zero, List.set_cons_succ]
    refine wpAnyH_ready (rs := [0, 4]) (by kernel_rfl) (by simp) (AllReadyH.cons rfl (fun K hK => ?_) (AllReadyH.cons rfl (fun K hK => ?_) AllReadyH.nil))
    · go_simp
      refine hK.out _ _ hHeld (fun hH0 => ?_)
      clear hK K
      refine wpAnyH_ready (rs := [4]) (by kernel_rfl) (by simp) (AllReadyH.cons rfl (fun K hK => ?_) AllReadyH.nil)
      go_simp
      refine HSIZE.out.mono ?_
      rintro e w7 ⟨rfl, hb7⟩
      dsimp only
      have HQ7 := Lib.hid (show Mem w7 w.heap.size Ti64 [.int .i64 (lv : Int)] ∧ Mem w7 (w.heap.size + 1) Tsp [.slice pa pm pp] ∧ Rw w7 (w.heap.size + 3) Tpt 33 (.slice pa pm pp) (pre.map fun x => ptC (nodePt lv x.2)) ∧ Mem w7 (w.heap.size + 1 + 1) Tso [.slice oa' om' op'] ∧ Rw w7 (w.heap.size + 3) Tob 34 (.slice oa' om' op') ((pre.map fun x => obCs (mkOb 2 (txtN lv x.2))) ++ [obC 2 xi tt]) ∧ Below w.heap.size w w7 ∧ Mem w7 (w.heap.size + 3) Tsp [.slice (some ⟨g, off, none⟩) ps.length cap] ∧ Mem w7 (w.heap.size + 3 + 1) Ti64 [.int .i64 8] ∧ Mem w7 w3.heap.size Tob (obC 2 xi tt) ∧ Mem w7 W.heap.size Tnd [.int .i64 (lv : Int), .slice (some ⟨g, mo, none⟩) grp1.length grp1.length] from ⟨HQD.out.1.below hb7 HQD.out.1.lt, HQD.out.2.1.below hb7 HQD.out.2.1.lt, HQD.out.2.2.1.below hb7, HQD.out.2.2.2.1.below hb7 HQD.out.2.2.2.1.lt, HQD.out.2.2.2.2.1.below hb7, belowThen HQD.out.2.2.2.2.2.1 hb7, HQD.out.2.2.2.2.2.2.1.below hb7 HQD.out.2.2.2.2.2.2.1.lt, HQD.out.2.2.2.2.2.2.2.1.below hb7 HQD.out.2.2.2.2.2.2.2.1.lt, HQD.out.2.2.2.2.2.2.2.2.1.below hb7 HQD.out.2.2.2.2.2.2.2.2.1.lt, HQD.out.2.2.2.2.2.2.2.2.2.below hb7 HQD.out.2.2.2.2.2.2.2.2.2.lt⟩)
      have c67 : w7.cell? ⟨w.heap.size + 1, 0, none⟩ = some (.slice pa pm pp) := HQ7.out.2.1.cell 0
      have HK7 := Lib.hid (HKX.out.trans (Kx.below (show Below W6.heap.size W6 w7 from ⟨hb7.os, hb7.tape, hb7.output, hb7.size, hb7.block⟩)))
      refine hK.out _ _ HQ7.out.2.2.2.2.2.2.2.2 (fun hH4 => ?_)
      clear hK K hb7
      refine wpAnyH_ready (rs := [5]) (by kernel_rfl) (by simp) (AllReadyH.cons rfl (fun K hK => ?_) AllReadyH.nil)
      refine step_build2 (HBP.out _) rfl rfl rfl rfl ?_
      refine hK.out _ _ hH4 (fun hH5 => ?_)
      clear hK K
      refine wpAnyH_ready (rs := [6]) (by kernel_rfl) (by simp) (AllReadyH.cons rfl (fun K hK => ?_) AllReadyH.nil)
      refine step_bslice1 (HBS.out _) rfl rfl rfl ?_
      have HQ8 := Lib.hid (show Mem (w7.alloc (.cells (ptC (xi, sm)).toArray Tpt)) w.heap.size Ti64 [.int .i64 (lv : Int)] ∧ Mem (w7.alloc (.cells (ptC (xi, sm)).toArray Tpt)) (w.heap.size + 1) Tsp [.slice pa pm pp] ∧ Rw (w7.alloc (.cells (ptC (xi, sm)).toArray Tpt)) (w.heap.size + 3) Tpt 33 (.slice pa pm pp) (pre.map fun x => ptC (nodePt lv x.2)) ∧ Mem (w7.alloc (.cells (ptC (xi, sm)).toArray Tpt)) (w.heap.size + 1 + 1) Tso [.slice oa' om' op'] ∧ Rw (w7.alloc (.cells (ptC (xi, sm)).toArray Tpt)) (w.heap.size + 3) Tob 34 (.slice oa' om' op') ((pre.map fun x => obCs (mkOb 2 (txtN lv x.2))) ++ [obC 2 xi tt]) ∧ Below w.heap.size w (w7.alloc (.cells (ptC (xi, sm)).toArray Tpt)) ∧ Mem (w7.alloc (.cells (ptC (xi, sm)).toArray Tpt)) (w.heap.size + 3) Tsp [.slice (some ⟨g, off, none⟩) ps.length cap] ∧ Mem (w7.alloc (.cells (ptC (xi, sm)).toArray Tpt)) (w.heap.size + 3 + 1) Ti64 [.int .i64 8] ∧ Mem (w7.alloc (.cells (ptC (xi, sm)).toArray Tpt)) w3.heap.size Tob (obC 2 xi tt) ∧ Mem (w7.alloc (.cells (ptC (xi, sm)).toArray Tpt)) W.heap.size Tnd [.int .i64 (lv : Int), .slice (some ⟨g, mo, none⟩) grp1.length grp1.length] from ⟨HQ7.out.1.below (belowSelf w7 (.cells (ptC (xi, sm)).toArray Tpt)) HQ7.out.1.lt, HQ7.out.2.1.below (belowSelf w7 (.cells (ptC (xi, sm)).toArray Tpt)) HQ7.out.2.1.lt, HQ7.out.2.2.1.below (belowSelf w7 (.cells (ptC (xi, sm)).toArray Tpt)), HQ7.out.2.2.2.1.below (belowSelf w7 (.cells (ptC (xi, sm)).toArray Tpt)) HQ7.out.2.2.2.1.lt, HQ7.out.2.2.2.2.1.below (belowSelf w7 (.cells (ptC (xi, sm)).toArray Tpt)), belowThen HQ7.out.2.2.2.2.2.1 (belowSelf w7 (.cells (ptC (xi, sm)).toArray Tpt)), HQ7.out.2.2.2.2.2.2.1.below (belowSelf w7 (.cells (ptC (xi, sm)).toArray Tpt)) HQ7.out.2.2.2.2.2.2.1.lt, HQ7.out.2.2.2.2.2.2.2.1.below (belowSelf w7 (.cells (ptC (xi, sm)).toArray Tpt)) HQ7.out.2.2.2.2.2.2.2.1.lt, HQ7.out.2.2.2.2.2.2.2.2.1.below (belowSelf w7 (.cells (ptC (xi, sm)).toArray Tpt)) HQ7.out.2.2.2.2.2.2.2.2.1.lt, HQ7.out.2.2.2.2.2.2.2.2.2.below (belowSelf w7 (.cells (ptC (xi, sm)).toArray Tpt)) HQ7.out.2.2.2.2.2.2.2.2.2.lt⟩)
      have HF8 := Lib.hid (Mem.new w7 Tpt (ptC (xi, sm)))
      have c68 : (w7.alloc (.cells (ptC (xi, sm)).toArray Tpt)).cell? ⟨w.heap.size + 1, 0, none⟩ = some (.slice pa pm pp) := HQ8.out.2.1.cell 0
      refine hK.out _ _ HQ8.out.2.2.2.2.2.2.2.2 (fun hH6 => ?_)
      clear hK K
      refine wpAnyH_ready (rs := [7]) (by kernel_rfl) (by simp) (AllReadyH.cons rfl (fun K hK => ?_) AllReadyH.nil)
      refine step_append_row HQ8.out.2.2.1 (ptC (xi, sm)) (by decide) HN33.out HONE.out (.tmp 24) (.tmp 30) Tsp ip _ 40 rfl rfl Tryd.underlying23 HJO.out HJZ.out HJSZ.out HJBY.out rfl (by decide) rfl rfl (fun j u hu => (HF8.out.cell j).trans hu) HLKP.out (by have := HQ8.out.2.2.2.2.2.2.2.1.lt; omega) ?_
      intro v9 w9 hr9 hg9 hat9
      obtain ⟨a9, m9, p9, rfl⟩ := hr9.shape
      have htg8 := HQ8.out.2.2.1.tag
      have hlt8 := HQ8.out.2.2.1.lt
      have hno : ∀ b (cs : List Value) (t : TypeId), t ≠ Tpt → Mem (w7.alloc (.cells (ptC (xi, sm)).toArray Tpt)) b t cs → some b ≠ (Value.slice pa pm pp).ownBlock := fun b cs t ht hm e => by
        obtain ⟨cs', h'⟩ := htg8 b e.symm
        rw [show (w7.alloc (.cells (ptC (xi, sm)).toArray Tpt)).heap[b]? = some (Obj.cells cs.toArray t (0, 0)) from hm] at h'
        injection h' with h'
        injection h' with _ h'
        exact ht h'
      have HQ9 := Lib.hid (show Mem w9 w.heap.size Ti64 [.int .i64 (lv : Int)] ∧ Mem w9 (w.heap.size + 1) Tsp [.slice pa pm pp] ∧ Rw w9 (w.heap.size + 3) Tpt 33 (.slice a9 m9 p9) ((pre.map fun x => ptC (nodePt lv x.2)) ++ [ptC (xi, sm)]) ∧ Mem w9 (w.heap.size + 1 + 1) Tso [.slice oa' om' op'] ∧ Rw w9 (w.heap.size + 3) Tob 34 (.slice oa' om' op') ((pre.map fun x => obCs (mkOb 2 (txtN lv x.2))) ++ [obC 2 xi tt]) ∧ Below w.heap.size w w9 ∧ Mem w9 (w.heap.size + 3) Tsp [.slice (some ⟨g, off, none⟩) ps.length cap] ∧ Mem w9 (w.heap.size + 3 + 1) Ti64 [.int .i64 8] ∧ Mem w9 w3.heap.size Tob (obC 2 xi tt) ∧ Mem w9 W.heap.size Tnd [.int .i64 (lv : Int), .slice (some ⟨g, mo, none⟩) grp1.length grp1.length] from
        ⟨HQ8.out.1.grown hg9 (hno _ _ _ (by decide) HQ8.out.1), HQ8.out.2.1.grown hg9 (hno _ _ _ (by decide) HQ8.out.2.1), hr9, HQ8.out.2.2.2.1.grown hg9 (hno _ _ _ (by decide) HQ8.out.2.2.2.1), HQ8.out.2.2.2.2.1.of_block (fun b hb => by
          obtain ⟨cs, hcs⟩ := HQ8.out.2.2.2.2.1.tag b hb
          exact hg9.block b (HQ8.out.2.2.2.2.1.lt b hb).1 (hno b cs.toList Tob (by decide) (by simpa [Mem] using hcs))),
         ⟨hg9.os.trans HQ8.out.2.2.2.2.2.1.os, hg9.tape.trans HQ8.out.2.2.2.2.2.1.tape, hg9.output.trans HQ8.out.2.2.2.2.2.1.output, Nat.le_trans HQ8.out.2.2.2.2.2.1.size hg9.size, fun b hb => (hg9.block b (Nat.lt_of_lt_of_le hb HQ8.out.2.2.2.2.2.1.size) (fun e => by have := (hlt8 b e.symm).2; omega)).trans (HQ8.out.2.2.2.2.2.1.block b hb)⟩,
         HQ8.out.2.2.2.2.2.2.1.grown hg9 (hno _ _ _ (by decide) HQ8.out.2.2.2.2.2.2.1), HQ8.out.2.2.2.2.2.2.2.1.grown hg9 (hno _ _ _ (by decide) HQ8.out.2.2.2.2.2.2.2.1), HQ8.out.2.2.2.2.2.2.2.2.1.grown hg9 (hno _ _ _ (by decide) HQ8.out.2.2.2.2.2.2.2.2.1), HQ8.out.2.2.2.2.2.2.2.2.2.grown hg9 (hno _ _ _ (by decide) HQ8.out.2.2.2.2.2.2.2.2.2)⟩)
      have HK9 := Lib.hid (HK7.out.trans ((Kx.below (belowSelf w7 (.cells (ptC (xi, sm)).toArray Tpt))).trans (Kx.grown hg9 (fun r hr => by
        obtain ⟨cs, hcs⟩ := htg8 r hr
        exact .inr (.inr ⟨_, _, .inl hcs⟩)))))
      have c9 : w9.cell? ⟨w.heap.size + 1, 0, none⟩ = some (.slice pa pm pp) := HQ9.out.2.1.cell 0
      have f9 : w9.frozen? ⟨w.heap.size + 1, 0, none⟩ = false := HQ9.out.2.1.frozen 0
      refine hK.out _ _ HQ9.out.2.2.2.2.2.2.2.2 (fun hH7 => ?_)
      clear hK K hr9 hg9 hat9 htg8 hlt8 hno c68 c67
      refine wpAnyH_ready (rs := [8]) (by kernel_rfl) (by simp) (AllReadyH.cons rfl (fun K hK => ?_) AllReadyH.nil)
      go_simp
      refine hK.out _ _ ⟨HQ9.out.2.2.2.2.2.2.2.2.1.other (p := ⟨w.heap.size + 1, 0, none⟩) (by simp; omega) _, HQ9.out.2.2.2.2.2.2.2.2.2.other (p := ⟨w.heap.size + 1, 0, none⟩) (by simp; omega) _⟩ (fun hH8 => ?_)
      clear hK K hH8
      refine wpAnyH_done (by kernel_rfl) ?_ _
      have HKE := Lib.hid (HK9.out.trans (Kx.grown (grownCell w9 (w.heap.size + 1) 0 (.slice a9 m9 p9)) (fun r hr => .inl (by injection hr with hr; exact hr.symm))))
      refine ⟨HKE.out.keeps HQI.out.2.1 HQI.out.2.2.2.1, HKE.out.chunk HQI.out.2.2.2.2.2.2.1 HQI.out.2.2.2.2.2.2.2 (by omega) (by omega), ⟨HQ9.out.1.other (p := ⟨w.heap.size + 1, 0, none⟩) (by simp) _, ⟨_, HQ9.out.2.1.set 0 (.slice a9 m9 p9), ?_⟩, ⟨_, HQ9.out.2.2.2.1.other (p := ⟨w.heap.size + 1, 0, none⟩) (by simp) _, ?_⟩, rfl, HQ9.out.2.2.2.2.2.1.setCell (by simp) _⟩, HQ9.out.2.2.2.2.2.2.1.other (p := ⟨w.heap.size + 1, 0, none⟩) (by simp) _, HQ9.out.2.2.2.2.2.2.2.1.other (p := ⟨w.heap.size + 1, 0, none⟩) (by simp) _⟩
      · rw [List.map_append, List.map_singleton, HNP.out]
        exact HQ9.out.2.2.1.of_block (fun b hb => heap_set_ne (by have := (HQ9.out.2.2.1.lt b hb).2; simp; omega))
      · rw [List.map_append, List.map_singleton, HNO.out]
        exact HQ9.out.2.2.2.2.1.of_block (fun b hb => heap_set_ne (by have := (HQ9.out.2.2.2.2.1.lt b hb).2; simp; omega))
    · go_simp
      refine HSIZE.out.mono ?_
      rintro e w7 ⟨rfl, hb7⟩
      dsimp only
      have HQ7 := Lib.hid (show Mem w7 w.heap.size Ti64 [.int .i64 (lv : Int)] ∧ Mem w7 (w.heap.size + 1) Tsp [.slice pa pm pp] ∧ Rw w7 (w.heap.size + 3) Tpt 33 (.slice pa pm pp) (pre.map fun x => ptC (nodePt lv x.2)) ∧ Mem w7 (w.heap.size + 1 + 1) Tso [.slice oa' om' op'] ∧ Rw w7 (w.heap.size + 3) Tob 34 (.slice oa' om' op') ((pre.map fun x => obCs (mkOb 2 (txtN lv x.2))) ++ [obC 2 xi tt]) ∧ Below w.heap.size w w7 ∧ Mem w7 (w.heap.size + 3) Tsp [.slice (some ⟨g, off, none⟩) ps.length cap] ∧ Mem w7 (w.heap.size + 3 + 1) Ti64 [.int .i64 8] ∧ Mem w7 w3.heap.size Tob (obC 2 xi tt) ∧ Mem w7 W.heap.size Tnd [.int .i64 (lv : Int), .slice (some ⟨g, mo, none⟩) grp1.length grp1.length] from ⟨HQD.out.1.below hb7 HQD.out.1.lt, HQD.out.2.1.below hb7 HQD.out.2.1.lt, HQD.out.2.2.1.below hb7, HQD.out.2.2.2.1.below hb7 HQD.out.2.2.2.1.lt, HQD.out.2.2.2.2.1.below hb7, belowThen HQD.out.2.2.2.2.2.1 hb7, HQD.out.2.2.2.2.2.2.1.below hb7 HQD.out.2.2.2.2.2.2.1.lt, HQD.out.2.2.2.2.2.2.2.1.below hb7 HQD.out.2.2.2.2.2.2.2.1.lt, HQD.out.2.2.2.2.2.2.2.2.1.below hb7 HQD.out.2.2.2.2.2.2.2.2.1.lt, HQD.out.2.2.2.2.2.2.2.2.2.below hb7 HQD.out.2.2.2.2.2.2.2.2.2.lt⟩)
      have c67 : w7.cell? ⟨w.heap.size + 1, 0, none⟩ = some (.slice pa pm pp) := HQ7.out.2.1.cell 0
      have HK7 := Lib.hid (HKX.out.trans (Kx.below (show Below W6.heap.size W6 w7 from ⟨hb7.os, hb7.tape, hb7.output, hb7.size, hb7.block⟩)))
      refine hK.out _ _ HQ7.out.2.2.2.2.2.2.2.2 (fun hH4 => ?_)
      clear hK K hb7
      refine wpAnyH_ready (rs := [0, 5]) (by kernel_rfl) (by simp) (AllReadyH.cons rfl (fun K hK => ?_) (AllReadyH.cons rfl (fun K hK => ?_) AllReadyH.nil))
      · go_simp
        refine hK.out _ _ hH4 (fun hH0 => ?_)
        clear hK K
        refine wpAnyH_ready (rs := [5]) (by kernel_rfl) (by simp) (AllReadyH.cons rfl (fun K hK => ?_) AllReadyH.nil)
        refine step_build2 (HBP.out _) rfl rfl rfl rfl ?_
        refine hK.out _ _ hH4 (fun hH5 => ?_)
        clear hK K
        refine wpAnyH_ready (rs := [6]) (by kernel_rfl) (by simp) (AllReadyH.cons rfl (fun K hK => ?_) AllReadyH.nil)
        refine step_bslice1 (HBS.out _) rfl rfl rfl ?_
        have HQ8 := Lib.hid (show Mem (w7.alloc (.cells (ptC (xi, sm)).toArray Tpt)) w.heap.size Ti64 [.int .i64 (lv : Int)] ∧ Mem (w7.alloc (.cells (ptC (xi, sm)).toArray Tpt)) (w.heap.size + 1) Tsp [.slice pa pm pp] ∧ Rw (w7.alloc (.cells (ptC (xi, sm)).toArray Tpt)) (w.heap.size + 3) Tpt 33 (.slice pa pm pp) (pre.map fun x => ptC (nodePt lv x.2)) ∧ Mem (w7.alloc (.cells (ptC (xi, sm)).toArray Tpt)) (w.heap.size + 1 + 1) Tso [.slice oa' om' op'] ∧ Rw (w7.alloc (.cells (ptC (xi, sm)).toArray Tpt)) (w.heap.size + 3) Tob 34 (.slice oa' om' op') ((pre.map fun x => obCs (mkOb 2 (txtN lv x.2))) ++ [obC 2 xi tt]) ∧ Below w.heap.size w (w7.alloc (.cells (ptC (xi, sm)).toArray Tpt)) ∧ Mem (w7.alloc (.cells (ptC (xi, sm)).toArray Tpt)) (w.heap.size + 3) Tsp [.slice (some ⟨g, off, none⟩) ps.length cap] ∧ Mem (w7.alloc (.cells (ptC (xi, sm)).toArray Tpt)) (w.heap.size + 3 + 1) Ti64 [.int .i64 8] ∧ Mem (w7.alloc (.cells (ptC (xi, sm)).toArray Tpt)) w3.heap.size Tob (obC 2 xi tt) ∧ Mem (w7.alloc (.cells (ptC (xi, sm)).toArray Tpt)) W.heap.size Tnd [.int .i64 (lv : Int), .slice (some ⟨g, mo, none⟩) grp1.length grp1.length] from ⟨HQ7.out.1.below (belowSelf w7 (.cells (ptC (xi, sm)).toArray Tpt)) HQ7.out.1.lt, HQ7.out.2.1.below (belowSelf w7 (.cells (ptC (xi, sm)).toArray Tpt)) HQ7.out.2.1.lt, HQ7.out.2.2.1.below (belowSelf w7 (.cells (ptC (xi, sm)).toArray Tpt)), HQ7.out.2.2.2.1.below (belowSelf w7 (.cells (ptC (xi, sm)).toArray Tpt)) HQ7.out.2.2.2.1.lt, HQ7.out.2.2.2.2.1.below (belowSelf w7 (.cells (ptC (xi, sm)).toArray Tpt)), belowThen HQ7.out.2.2.2.2.2.1 (belowSelf w7 (.cells (ptC (xi, sm)).toArray Tpt)), HQ7.out.2.2.2.2.2.2.1.below (belowSelf w7 (.cells (ptC (xi, sm)).toArray Tpt)) HQ7.out.2.2.2.2.2.2.1.lt, HQ7.out.2.2.2.2.2.2.2.1.below (belowSelf w7 (.cells (ptC (xi, sm)).toArray Tpt)) HQ7.out.2.2.2.2.2.2.2.1.lt, HQ7.out.2.2.2.2.2.2.2.2.1.below (belowSelf w7 (.cells (ptC (xi, sm)).toArray Tpt)) HQ7.out.2.2.2.2.2.2.2.2.1.lt, HQ7.out.2.2.2.2.2.2.2.2.2.below (belowSelf w7 (.cells (ptC (xi, sm)).toArray Tpt)) HQ7.out.2.2.2.2.2.2.2.2.2.lt⟩)
        have HF8 := Lib.hid (Mem.new w7 Tpt (ptC (xi, sm)))
        have c68 : (w7.alloc (.cells (ptC (xi, sm)).toArray Tpt)).cell? ⟨w.heap.size + 1, 0, none⟩ = some (.slice pa pm pp) := HQ8.out.2.1.cell 0
        refine hK.out _ _ HQ8.out.2.2.2.2.2.2.2.2 (fun hH6 => ?_)
        clear hK K
        refine wpAnyH_ready (rs := [7]) (by kernel_rfl) (by simp) (AllReadyH.cons rfl (fun K hK => ?_) AllReadyH.nil)
        refine step_append_row HQ8.out.2.2.1 (ptC (xi, sm)) (by decide) HN33.out HONE.out (.tmp 24) (.tmp 30) Tsp ip _ 40 rfl rfl Tryd.underlying23 HJO.out HJZ.out HJSZ.out HJBY.out rfl (by decide) rfl rfl (fun j u hu => (HF8.out.cell j).trans hu) HLKP.out (by have := HQ8.out.2.2.2.2.2.2.2.1.lt; omega) ?_
        intro v9 w9 hr9 hg9 hat9
        obtain ⟨a9, m9, p9, rfl⟩ := hr9.shape
        have htg8 := HQ8.out.2.2.1.tag
        have hlt8 := HQ8.out.2.2.1.lt
        have hno : ∀ b (cs : List Value) (t : TypeId), t ≠ Tpt → Mem (w7.alloc (.cells (ptC (xi, sm)).toArray Tpt)) b t cs → some b ≠ (Value.slice pa pm pp).ownBlock := fun b cs t ht hm e => by
          obtain ⟨cs', h'⟩ := htg8 b e.symm
          rw [show (w7.alloc (.cells (ptC (xi, sm)).toArray Tpt)).heap[b]? = some (Obj.cells cs.toArray t (0, 0)) from hm] at h'
          injection h' with h'
          injection h' with _ h'
          exact ht h'
        have HQ9 := Lib.hid (show Mem w9 w.heap.size Ti64 [.int .i64 (lv : Int)] ∧ Mem w9 (w.heap.size + 1) Tsp [.slice pa pm pp] ∧ Rw w9 (w.heap.size + 3) Tpt 33 (.slice a9 m9 p9) ((pre.map fun x => ptC (nodePt lv x.2)) ++ [ptC (xi, sm)]) ∧ Mem w9 (w.heap.size + 1 + 1) Tso [.slice oa' om' op'] ∧ Rw w9 (w.heap.size + 3) Tob 34 (.slice oa' om' op') ((pre.map fun x => obCs (mkOb 2 (txtN lv x.2))) ++ [obC 2 xi tt]) ∧ Below w.heap.size w w9 ∧ Mem w9 (w.heap.size + 3) Tsp [.slice (some ⟨g, off, none⟩) ps.length cap] ∧ Mem w9 (w.heap.size + 3 + 1) Ti64 [.int .i64 8] ∧ Mem w9 w3.heap.size Tob (obC 2 xi tt) ∧ Mem w9 W.heap.size Tnd [.int .i64 (lv : Int), .slice (some ⟨g, mo, none⟩) grp1.length grp1.length] from
          ⟨HQ8.out.1.grown hg9 (hno _ _ _ (by decide) HQ8.out.1), HQ8.out.2.1.grown hg9 (hno _ _ _ (by decide) HQ8.out.2.1), hr9, HQ8.out.2.2.2.1.grown hg9 (hno _ _ _ (by decide) HQ8.out.2.2.2.1), HQ8.out.2.2.2.2.1.of_block (fun b hb => by
            obtain ⟨cs, hcs⟩ := HQ8.out.2.2.2.2.1.tag b hb
            exact hg9.block b (HQ8.out.2.2.2.2.1.lt b hb).1 (hno b cs.toList Tob (by decide) (by simpa [Mem] using hcs))),
           ⟨hg9.os.trans HQ8.out.2.2.2.2.2.1.os, hg9.tape.trans HQ8.out.2.2.2.2.2.1.tape, hg9.output.trans HQ8.out.2.2.2.2.2.1.output, Nat.le_trans HQ8.out.2.2.2.2.2.1.size hg9.size, fun b hb => (hg9.block b (Nat.lt_of_lt_of_le hb HQ8.out.2.2.2.2.2.1.size) (fun e => by have := (hlt8 b e.symm).2; omega)).trans (HQ8.out.2.2.2.2.2.1.block b hb)⟩,
           HQ8.out.2.2.2.2.2.2.1.grown hg9 (hno _ _ _ (by decide) HQ8.out.2.2.2.2.2.2.1), HQ8.out.2.2.2.2.2.2.2.1.grown hg9 (hno _ _ _ (by decide) HQ8.out.2.2.2.2.2.2.2.1), HQ8.out.2.2.2.2.2.2.2.2.1.grown hg9 (hno _ _ _ (by decide) HQ8.out.2.2.2.2.2.2.2.2.1), HQ8.out.2.2.2.2.2.2.2.2.2.grown hg9 (hno _ _ _ (by decide) HQ8.out.2.2.2.2.2.2.2.2.2)⟩)
        have HK9 := Lib.hid (HK7.out.trans ((Kx.below (belowSelf w7 (.cells (ptC (xi, sm)).toArray Tpt))).trans (Kx.grown hg9 (fun r hr => by
          obtain ⟨cs, hcs⟩ := htg8 r hr
          exact .inr (.inr ⟨_, _, .inl hcs⟩)))))
        have c9 : w9.cell? ⟨w.heap.size + 1, 0, none⟩ = some (.slice pa pm pp) := HQ9.out.2.1.cell 0
        have f9 : w9.frozen? ⟨w.heap.size + 1, 0, none⟩ = false := HQ9.out.2.1.frozen 0
        refine hK.out _ _ HQ9.out.2.2.2.2.2.2.2.2 (fun hH7 => ?_)
        clear hK K hr9 hg9 hat9 htg8 hlt8 hno c68 c67
        refine wpAnyH_ready (rs := [8]) (by kernel_rfl) (by simp) (AllReadyH.cons rfl (fun K hK => ?_) AllReadyH.nil)
        go_simp
        refine hK.out _ _ ⟨HQ9.out.2.2.2.2.2.2.2.2.1.other (p := ⟨w.heap.size + 1, 0, none⟩) (by simp; omega) _, HQ9.out.2.2.2.2.2.2.2.2.2.other (p := ⟨w.heap.size + 1, 0, none⟩) (by simp; omega) _⟩ (fun hH8 => ?_)
        clear hK K hH8
        refine wpAnyH_done (by kernel_rfl) ?_ _
        have HKE := Lib.hid (HK9.out.trans (Kx.grown (grownCell w9 (w.heap.size + 1) 0 (.slice a9 m9 p9)) (fun r hr => .inl (by injection hr with hr; exact hr.symm))))
        refine ⟨HKE.out.keeps HQI.out.2.1 HQI.out.2.2.2.1, HKE.out.chunk HQI.out.2.2.2.2.2.2.1 HQI.out.2.2.2.2.2.2.2 (by omega) (by omega), ⟨HQ9.out.1.other (p := ⟨w.heap.size + 1, 0, none⟩) (by simp) _, ⟨_, HQ9.out.2.1.set 0 (.slice a9 m9 p9), ?_⟩, ⟨_, HQ9.out.2.2.2.1.other (p := ⟨w.heap.size + 1, 0, none⟩) (by simp) _, ?_⟩, rfl, HQ9.out.2.2.2.2.2.1.setCell (by simp) _⟩, HQ9.out.2.2.2.2.2.2.1.other (p := ⟨w.heap.size + 1, 0, none⟩) (by simp) _, HQ9.out.2.2.2.2.2.2.2.1.other (p := ⟨w.heap.size + 1, 0, none⟩) (by simp) _⟩
        · rw [List.map_append, List.map_singleton, HNP.out]
          exact HQ9.out.2.2.1.of_block (fun b hb => heap_set_ne (by have := (HQ9.out.2.2.1.lt b hb).2; simp; omega))
        · rw [List.map_append, List.map_singleton, HNO.out]
          exact HQ9.out.2.2.2.2.1.of_block (fun b hb => heap_set_ne (by have := (HQ9.out.2.2.2.2.1.lt b hb).2; simp; omega))
      · refine step_build2 (HBP.out _) rfl rfl rfl rfl ?_
        refine hK.out _ _ hH4 (fun hH5 => ?_)
        clear hK K
        refine wpAnyH_ready (rs := [0, 6]) (by kernel_rfl) (by simp) (AllReadyH.cons rfl (fun K hK => ?_) (AllReadyH.cons rfl (fun K hK => ?_) AllReadyH.nil))
        · go_simp
          refine hK.out _ _ hH4 (fun hH0 => ?_)
          clear hK K
          refine wpAnyH_ready (rs := [6]) (by kernel_rfl) (by simp) (AllReadyH.cons rfl (fun K hK => ?_) AllReadyH.nil)
          refine step_bslice1 (HBS.out _) rfl rfl rfl ?_
          have HQ8 := Lib.hid (show Mem (w7.alloc (.cells (ptC (xi, sm)).toArray Tpt)) w.heap.size Ti64 [.int .i64 (lv : Int)] ∧ Mem (w7.alloc (.cells (ptC (xi, sm)).toArray Tpt)) (w.heap.size + 1) Tsp [.slice pa pm pp] ∧ Rw (w7.alloc (.cells (ptC (xi, sm)).toArray Tpt)) (w.heap.size + 3) Tpt 33 (.slice pa pm pp) (pre.map fun x => ptC (nodePt lv x.2)) ∧ Mem (w7.alloc (.cells (ptC (xi, sm)).toArray Tpt)) (w.heap.size + 1 + 1) Tso [.slice oa' om' op'] ∧ Rw (w7.alloc (.cells (ptC (xi, sm)).toArray Tpt)) (w.heap.size + 3) Tob 34 (.slice oa' om' op') ((pre.map fun x => obCs (mkOb 2 (txtN lv x.2))) ++ [obC 2 xi tt]) ∧ Below w.heap.size w (w7.alloc (.cells (ptC (xi, sm)).toArray Tpt)) ∧ Mem (w7.alloc (.cells (ptC (xi, sm)).toArray Tpt)) (w.heap.size + 3) Tsp [.slice (some ⟨g, off, none⟩) ps.length cap] ∧ Mem (w7.alloc (.cells (ptC (xi, sm)).toArray Tpt)) (w.heap.size + 3 + 1) Ti64 [.int .i64 8] ∧ Mem (w7.alloc (.cells (ptC (xi, sm)).toArray Tpt)) w3.heap.size Tob (obC 2 xi tt) ∧ Mem (w7.alloc (.cells (ptC (xi, sm)).toArray Tpt)) W.heap.size Tnd [.int .i64 (lv : Int), .slice (some ⟨g, mo, none⟩) grp1.length grp1.length] from ⟨HQ7.out.1.below (belowSelf w7 (.cells (ptC (xi, sm)).toArray Tpt)) HQ7.out.1.lt, HQ7.out.2.1.below (belowSelf w7 (.cells (ptC (xi, sm)).toArray Tpt)) HQ7.out.2.1.lt, HQ7.out.2.2.1.below (belowSelf w7 (.cells (ptC (xi, sm)).toArray Tpt)), HQ7.out.2.2.2.1.below (belowSelf w7 (.cells (ptC (xi, sm)).toArray Tpt)) HQ7.out.2.2.2.1.lt, HQ7.out.2.2.2.2.1.below (belowSelf w7 (.cells (ptC (xi, sm)).toArray Tpt)), belowThen HQ7.out.2.2.2.2.2.1 (belowSelf w7 (.cells (ptC (xi, sm)).toArray Tpt)), HQ7.out.2.2.2.2.2.2.1.below (belowSelf w7 (.cells (ptC (xi, sm)).toArray Tpt)) HQ7.out.2.2.2.2.2.2.1.lt, HQ7.out.2.2.2.2.2.2.2.1.below (belowSelf w7 (.cells (ptC (xi, sm)).toArray Tpt)) HQ7.out.2.2.2.2.2.2.2.1.lt, HQ7.out.2.2.2.2.2.2.2.2.1.below (belowSelf w7 (.cells (ptC (xi, sm)).toArray Tpt)) HQ7.out.2.2.2.2.2.2.2.2.1.lt, HQ7.out.2.2.2.2.2.2.2.2.2.below (belowSelf w7 (.cells (ptC (xi, sm)).toArray Tpt)) HQ7.out.2.2.2.2.2.2.2.2.2.lt⟩)
          have HF8 := Lib.hid (Mem.new w7 Tpt (ptC (xi, sm)))
          have c68 : (w7.alloc (.cells (ptC (xi, sm)).toArray Tpt)).cell? ⟨w.heap.size + 1, 0, none⟩ = some (.slice pa pm pp) := HQ8.out.2.1.cell 0
          refine hK.out _ _ HQ8.out.2.2.2.2.2.2.2.2 (fun hH6 => ?_)
          clear hK K
          refine wpAnyH_ready (rs := [7]) (by kernel_rfl) (by simp) (AllReadyH.cons rfl (fun K hK => ?_) AllReadyH.nil)
          refine step_append_row HQ8.out.2.2.1 (ptC (xi, sm)) (by decide) HN33.out HONE.out (.tmp 24) (.tmp 30) Tsp ip _ 40 rfl rfl Tryd.underlying23 HJO.out HJZ.out HJSZ.out HJBY.out rfl (by decide) rfl rfl (fun j u hu => (HF8.out.cell j).trans hu) HLKP.out (by have := HQ8.out.2.2.2.2.2.2.2.1.lt; omega) ?_
          intro v9 w9 hr9 hg9 hat9
          obtain ⟨a9, m9, p9, rfl⟩ := hr9.shape
          have htg8 := HQ8.out.2.2.1.tag
          have hlt8 := HQ8.out.2.2.1.lt
          have hno : ∀ b (cs : List Value) (t : TypeId), t ≠ Tpt → Mem (w7.alloc (.cells (ptC (xi, sm)).toArray Tpt)) b t cs → some b ≠ (Value.slice pa pm pp).ownBlock := fun b cs t ht hm e => by
            obtain ⟨cs', h'⟩ := htg8 b e.symm
            rw [show (w7.alloc (.cells (ptC (xi, sm)).toArray Tpt)).heap[b]? = some (Obj.cells cs.toArray t (0, 0)) from hm] at h'
            injection h' with h'
            injection h' with _ h'
            exact ht h'
          have HQ9 := Lib.hid (show Mem w9 w.heap.size Ti64 [.int .i64 (lv : Int)] ∧ Mem w9 (w.heap.size + 1) Tsp [.slice pa pm pp] ∧ Rw w9 (w.heap.size + 3) Tpt 33 (.slice a9 m9 p9) ((pre.map fun x => ptC (nodePt lv x.2)) ++ [ptC (xi, sm)]) ∧ Mem w9 (w.heap.size + 1 + 1) Tso [.slice oa' om' op'] ∧ Rw w9 (w.heap.size + 3) Tob 34 (.slice oa' om' op') ((pre.map fun x => obCs (mkOb 2 (txtN lv x.2))) ++ [obC 2 xi tt]) ∧ Below w.heap.size w w9 ∧ Mem w9 (w.heap.size + 3) Tsp [.slice (some ⟨g, off, none⟩) ps.length cap] ∧ Mem w9 (w.heap.size + 3 + 1) Ti64 [.int .i64 8] ∧ Mem w9 w3.heap.size Tob (obC 2 xi tt) ∧ Mem w9 W.heap.size Tnd [.int .i64 (lv : Int), .slice (some ⟨g, mo, none⟩) grp1.length grp1.length] from
            ⟨HQ8.out.1.grown hg9 (hno _ _ _ (by decide) HQ8.out.1), HQ8.out.2.1.grown hg9 (hno _ _ _ (by decide) HQ8.out.2.1), hr9, HQ8.out.2.2.2.1.grown hg9 (hno _ _ _ (by decide) HQ8.out.2.2.2.1), HQ8.out.2.2.2.2.1.of_block (fun b hb => by
              obtain ⟨cs, hcs⟩ := HQ8.out.2.2.2.2.1.tag b hb
              exact hg9.block b (HQ8.out.2.2.2.2.1.lt b hb).1 (hno b cs.toList Tob (by decide) (by simpa [Mem] using hcs))),
             ⟨hg9.os.trans HQ8.out.2.2.2.2.2.1.os, hg9.tape.trans HQ8.out.2.2.2.2.2.1.tape, hg9.output.trans HQ8.out.2.2.2.2.2.1.output, Nat.le_trans HQ8.out.2.2.2.2.2.1.size hg9.size, fun b hb => (hg9.block b (Nat.lt_of_lt_of_le hb HQ8.out.2.2.2.2.2.1.size) (fun e => by have := (hlt8 b e.symm).2; omega)).trans (HQ8.out.2.2.2.2.2.1.block b hb)⟩,
             HQ8.out.2.2.2.2.2.2.1.grown hg9 (hno _ _ _ (by decide) HQ8.out.2.2.2.2.2.2.1), HQ8.out.2.2.2.2.2.2.2.1.grown hg9 (hno _ _ _ (by decide) HQ8.out.2.2.2.2.2.2.2.1), HQ8.out.2.2.2.2.2.2.2.2.1.grown hg9 (hno _ _ _ (by decide) HQ8.out.2.2.2.2.2.2.2.2.1), HQ8.out.2.2.2.2.2.2.2.2.2.grown hg9 (hno _ _ _ (by decide) HQ8.out.2.2.2.2.2.2.2.2.2)⟩)
          have HK9 := Lib.hid (HK7.out.trans ((Kx.below (belowSelf w7 (.cells (ptC (xi, sm)).toArray Tpt))).trans (Kx.grown hg9 (fun r hr => by
            obtain ⟨cs, hcs⟩ := htg8 r hr
            exact .inr (.inr ⟨_, _, .inl hcs⟩)))))
          have c9 : w9.cell? ⟨w.heap.size + 1, 0, none⟩ = some (.slice pa pm pp) := HQ9.out.2.1.cell 0
          have f9 : w9.frozen? ⟨w.heap.size + 1, 0, none⟩ = false := HQ9.out.2.1.frozen 0
          refine hK.out _ _ HQ9.out.2.2.2.2.2.2.2.2 (fun hH7 => ?_)
          clear hK K hr9 hg9 hat9 htg8 hlt8 hno c68 c67
          refine wpAnyH_ready (rs := [8]) (by kernel_rfl) (by simp) (AllReadyH.cons rfl (fun K hK => ?_) AllReadyH.nil)
          go_simp
          refine hK.out _ _ ⟨HQ9.out.2.2.2.2.2.2.2.2.1.other (p := ⟨w.heap.size + 1, 0, none⟩) (by simp; omega) _, HQ9.out.2.2.2.2.2.2.2.2.2.other (p := ⟨w.heap.size + 1, 0, none⟩) (by simp; omega) _⟩ (fun hH8 => ?_)
          clear hK K hH8
          refine wpAnyH_done (by kernel_rfl) ?_ _
          have HKE := Lib.hid (HK9.out.trans (Kx.grown (grownCell w9 (w.heap.size + 1) 0 (.slice a9 m9 p9)) (fun r hr => .inl (by injection hr with hr; exact hr.symm))))
          refine ⟨HKE.out.keeps HQI.out.2.1 HQI.out.2.2.2.1, HKE.out.chunk HQI.out.2.2.2.2.2.2.1 HQI.out.2.2.2.2.2.2.2 (by omega) (by omega), ⟨HQ9.out.1.other (p := ⟨w.heap.size + 1, 0, none⟩) (by simp) _, ⟨_, HQ9.out.2.1.set 0 (.slice a9 m9 p9), ?_⟩, ⟨_, HQ9.out.2.2.2.1.other (p := ⟨w.heap.size + 1, 0, none⟩) (by simp) _, ?_⟩, rfl, HQ9.out.2.2.2.2.2.1.setCell (by simp) _⟩, HQ9.out.2.2.2.2.2.2.1.other (p := ⟨w.heap.size + 1, 0, none⟩) (by simp) _, HQ9.out.2.2.2.2.2.2.2.1.other (p := ⟨w.heap.size + 1, 0, none⟩) (by simp) _⟩
          · rw [List.map_append, List.map_singleton, HNP.out]
            exact HQ9.out.2.2.1.of_block (fun b hb => heap_set_ne (by have := (HQ9.out.2.2.1.lt b hb).2; simp; omega))
          · rw [List.map_append, List.map_singleton, HNO.out]
            exact HQ9.out.2.2.2.2.1.of_block (fun b hb => heap_set_ne (by have := (HQ9.out.2.2.2.2.1.lt b hb).2; simp; omega))
        · refine step_bslice1 (HBS.out _) rfl rfl rfl ?_
          have HQ8 := Lib.hid (show Mem (w7.alloc (.cells (ptC (xi, sm)).toArray Tpt)) w.heap.size Ti64 [.int .i64 (lv : Int)] ∧ Mem (w7.alloc (.cells (ptC (xi, sm)).toArray Tpt)) (w.heap.size + 1) Tsp [.slice pa pm pp] ∧ Rw (w7.alloc (.cells (ptC (xi, sm)).toArray Tpt)) (w.heap.size + 3) Tpt 33 (.slice pa pm pp) (pre.map fun x => ptC (nodePt lv x.2)) ∧ Mem (w7.alloc (.cells (ptC (xi, sm)).toArray Tpt)) (w.heap.size + 1 + 1) Tso [.slice oa' om' op'] ∧ Rw (w7.alloc (.cells (ptC (xi, sm)).toArray Tpt)) (w.heap.size + 3) Tob 34 (.slice oa' om' op') ((pre.map fun x => obCs (mkOb 2 (txtN lv x.2))) ++ [obC 2 xi tt]) ∧ Below w.heap.size w (w7.alloc (.cells (ptC (xi, sm)).toArray Tpt)) ∧ Mem (w7.alloc (.cells (ptC (xi, sm)).toArray Tpt)) (w.heap.size + 3) Tsp [.slice (some ⟨g, off, none⟩) ps.length cap] ∧ Mem (w7.alloc (.cells (ptC (xi, sm)).toArray Tpt)) (w.heap.size + 3 + 1) Ti64 [.int .i64 8] ∧ Mem (w7.alloc (.cells (ptC (xi, sm)).toArray Tpt)) w3.heap.size Tob (obC 2 xi tt) ∧ Mem (w7.alloc (.cells (ptC (xi, sm)).toArray Tpt)) W.heap.size Tnd [.int .i64 (lv : Int), .slice (some ⟨g, mo, none⟩) grp1.length grp1.length] from ⟨HQ7.out.1.below (belowSelf w7 (.cells (ptC (xi, sm)).toArray Tpt)) HQ7.out.1.lt, HQ7.out.2.1.below (belowSelf w7 (.cells (ptC (xi, sm)).toArray Tpt)) HQ7.out.2.1.lt, HQ7.out.2.2.1.below (belowSelf w7 (.cells (ptC (xi, sm)).toArray Tpt)), HQ7.out.2.2.2.1.below (belowSelf w7 (.cells (ptC (xi, sm)).toArray Tpt)) HQ7.out.2.2.2.1.lt, HQ7.out.2.2.2.2.1.below (belowSelf w7 (.cells (ptC (xi, sm)).toArray Tpt)), belowThen HQ7.out.2.2.2.2.2.1 (belowSelf w7 (.cells (ptC (xi, sm)).toArray Tpt)), HQ7.out.2.2.2.2.2.2.1.below (belowSelf w7 (.cells (ptC (xi, sm)).toArray Tpt)) HQ7.out.2.2.2.2.2.2.1.lt, HQ7.out.2.2.2.2.2.2.2.1.below (belowSelf w7 (.cells (ptC (xi, sm)).toArray Tpt)) HQ7.out.2.2.2.2.2.2.2.1.lt, HQ7.out.2.2.2.2.2.2.2.2.1.below (belowSelf w7 (.cells (ptC (xi, sm)).toArray Tpt)) HQ7.out.2.2.2.2.2.2.2.2.1.lt, HQ7.out.2.2.2.2.2.2.2.2.2.below (belowSelf w7 (.cells (ptC (xi, sm)).toArray Tpt)) HQ7.out.2.2.2.2.2.2.2.2.2.lt⟩)
          have HF8 := Lib.hid (Mem.new w7 Tpt (ptC (xi, sm)))
          have c68 : (w7.alloc (.cells (ptC (xi, sm)).toArray Tpt)).cell? ⟨w.heap.size + 1, 0, none⟩ = some (.slice pa pm pp) := HQ8.out.2.1.cell 0
          refine hK.out _ _ HQ8.out.2.2.2.2.2.2.2.2 (fun hH6 => ?_)
          clear hK K
          refine wpAnyH_ready (rs := [0]) (by kernel_rfl) (by simp) (AllReadyH.cons rfl (fun K hK => ?_) AllReadyH.nil)
          go_simp
          refine hK.out _ _ hH6 (fun hH0 => ?_)
          clear hK K
          refine wpAnyH_ready (rs := [7]) (by kernel_rfl) (by simp) (AllReadyH.cons rfl (fun K hK => ?_) AllReadyH.nil)
          refine step_append_row HQ8.out.2.2.1 (ptC (xi, sm)) (by decide) HN33.out HONE.out (.tmp 24) (.tmp 30) Tsp ip _ 40 rfl rfl Tryd.underlying23 HJO.out HJZ.out HJSZ.out HJBY.out rfl (by decide) rfl rfl (fun j u hu => (HF8.out.cell j).trans hu) HLKP.out (by have := HQ8.out.2.2.2.2.2.2.2.1.lt; omega) ?_
          intro v9 w9 hr9 hg9 hat9
          obtain ⟨a9, m9, p9, rfl⟩ := hr9.shape
          have htg8 := HQ8.out.2.2.1.tag
          have hlt8 := HQ8.out.2.2.1.lt
          have hno : ∀ b (cs : List Value) (t : TypeId), t ≠ Tpt → Mem (w7.alloc (.cells (ptC (xi, sm)).toArray Tpt)) b t cs → some b ≠ (Value.slice pa pm pp).ownBlock := fun b cs t ht hm e => by
            obtain ⟨cs', h'⟩ := htg8 b e.symm
            rw [show (w7.alloc (.cells (ptC (xi, sm)).toArray Tpt)).heap[b]? = some (Obj.cells cs.toArray t (0, 0)) from hm] at h'
            injection h' with h'
            injection h' with _ h'
            exact ht h'
          have HQ9 := Lib.hid (show Mem w9 w.heap.size Ti64 [.int .i64 (lv : Int)] ∧ Mem w9 (w.heap.size + 1) Tsp [.slice pa pm pp] ∧ Rw w9 (w.heap.size + 3) Tpt 33 (.slice a9 m9 p9) ((pre.map fun x => ptC (nodePt lv x.2)) ++ [ptC (xi, sm)]) ∧ Mem w9 (w.heap.size + 1 + 1) Tso [.slice oa' om' op'] ∧ Rw w9 (w.heap.size + 3) Tob 34 (.slice oa' om' op') ((pre.map fun x => obCs (mkOb 2 (txtN lv x.2))) ++ [obC 2 xi tt]) ∧ Below w.heap.size w w9 ∧ Mem w9 (w.heap.size + 3) Tsp [.slice (some ⟨g, off, none⟩) ps.length cap] ∧ Mem w9 (w.heap.size + 3 + 1) Ti64 [.int .i64 8] ∧ Mem w9 w3.heap.size Tob (obC 2 xi tt) ∧ Mem w9 W.heap.size Tnd [.int .i64 (lv : Int), .slice (some ⟨g, mo, none⟩) grp1.length grp1.length] from
            ⟨HQ8.out.1.grown hg9 (hno _ _ _ (by decide) HQ8.out.1), HQ8.out.2.1.grown hg9 (hno _ _ _ (by decide) HQ8.out.2.1), hr9, HQ8.out.2.2.2.1.grown hg9 (hno _ _ _ (by decide) HQ8.out.2.2.2.1), HQ8.out.2.2.2.2.1.of_block (fun b hb => by
              obtain ⟨cs, hcs⟩ := HQ8.out.2.2.2.2.1.tag b hb
              exact hg9.block b (HQ8.out.2.2.2.2.1.lt b hb).1 (hno b cs.toList Tob (by decide) (by simpa [Mem] using hcs))),
             ⟨hg9.os.trans HQ8.out.2.2.2.2.2.1.os, hg9.tape.trans HQ8.out.2.2.2.2.2.1.tape, hg9.output.trans HQ8.out.2.2.2.2.2.1.output, Nat.le_trans HQ8.out.2.2.2.2.2.1.size hg9.size, fun b hb => (hg9.block b (Nat.lt_of_lt_of_le hb HQ8.out.2.2.2.2.2.1.size) (fun e => by have := (hlt8 b e.symm).2; omega)).trans (HQ8.out.2.2.2.2.2.1.block b hb)⟩,
             HQ8.out.2.2.2.2.2.2.1.grown hg9 (hno _ _ _ (by decide) HQ8.out.2.2.2.2.2.2.1), HQ8.out.2.2.2.2.2.2.2.1.grown hg9 (hno _ _ _ (by decide) HQ8.out.2.2.2.2.2.2.2.1), HQ8.out.2.2.2.2.2.2.2.2.1.grown hg9 (hno _ _ _ (by decide) HQ8.out.2.2.2.2.2.2.2.2.1), HQ8.out.2.2.2.2.2.2.2.2.2.grown hg9 (hno _ _ _ (by decide) HQ8.out.2.2.2.2.2.2.2.2.2)⟩)
          have HK9 := Lib.hid (HK7.out.trans ((Kx.below (belowSelf w7 (.cells (ptC (xi, sm)).toArray Tpt))).trans (Kx.grown hg9 (fun r hr => by
            obtain ⟨cs, hcs⟩ := htg8 r hr
            exact .inr (.inr ⟨_, _, .inl hcs⟩)))))
          have c9 : w9.cell? ⟨w.heap.size + 1, 0, none⟩ = some (.slice pa pm pp) := HQ9.out.2.1.cell 0
          have f9 : w9.frozen? ⟨w.heap.size + 1, 0, none⟩ = false := HQ9.out.2.1.frozen 0
          refine hK.out _ _ HQ9.out.2.2.2.2.2.2.2.2 (fun hH7 => ?_)
          clear hK K hr9 hg9 hat9 htg8 hlt8 hno c68 c67
          refine wpAnyH_ready (rs := [8]) (by kernel_rfl) (by simp) (AllReadyH.cons rfl (fun K hK => ?_) AllReadyH.nil)
          go_simp
          refine hK.out _ _ ⟨HQ9.out.2.2.2.2.2.2.2.2.1.other (p := ⟨w.heap.size + 1, 0, none⟩) (by simp; omega) _, HQ9.out.2.2.2.2.2.2.2.2.2.other (p := ⟨w.heap.size + 1, 0, none⟩) (by simp; omega) _⟩ (fun hH8 => ?_)
          clear hK K hH8
          refine wpAnyH_done (by kernel_rfl) ?_ _
          have HKE := Lib.hid (HK9.out.trans (Kx.grown (grownCell w9 (w.heap.size + 1) 0 (.slice a9 m9 p9)) (fun r hr => .inl (by injection hr with hr; exact hr.symm))))
          refine ⟨HKE.out.keeps HQI.out.2.1 HQI.out.2.2.2.1, HKE.out.chunk HQI.out.2.2.2.2.2.2.1 HQI.out.2.2.2.2.2.2.2 (by omega) (by omega), ⟨HQ9.out.1.other (p := ⟨w.heap.size + 1, 0, none⟩) (by simp) _, ⟨_, HQ9.out.2.1.set 0 (.slice a9 m9 p9), ?_⟩, ⟨_, HQ9.out.2.2.2.1.other (p := ⟨w.heap.size + 1, 0, none⟩) (by simp) _, ?_⟩, rfl, HQ9.out.2.2.2.2.2.1.setCell (by simp) _⟩, HQ9.out.2.2.2.2.2.2.1.other (p := ⟨w.heap.size + 1, 0, none⟩) (by simp) _, HQ9.out.2.2.2.2.2.2.2.1.other (p := ⟨w.heap.size + 1, 0, none⟩) (by simp) _⟩
          · rw [List.map_append, List.map_singleton, HNP.out]
            exact HQ9.out.2.2.1.of_block (fun b hb => heap_set_ne (by have := (HQ9.out.2.2.1.lt b hb).2; simp; omega))
          · rw [List.map_append, List.map_singleton, HNO.out]
            exact HQ9.out.2.2.2.2.1.of_block (fun b hb => heap_set_ne (by have := (HQ9.out.2.2.2.2.1.lt b hb).2; simp; omega))
-- END
  case done =>
    rintro D W hD ⟨⟨h1, ⟨va, h2, h3⟩, ⟨vo, h4, h5⟩, -, h6⟩, -, -⟩ hK
    obtain ⟨oa, om, op, rfl⟩ := h5.shape
    obtain ⟨pa, pm, pp, rfl⟩ := h3.shape
    have c6 : W.cell? ⟨w.heap.size + 1, 0, none⟩ = some (.slice pa pm pp) := h2.cell 0
    have c7 : W.cell? ⟨w.heap.size + 1 + 1, 0, none⟩ = some (.slice oa om op) := h4.cell 0
    have hmx : Tryd.prog.follows .mixedOrders = true := by kernel_rfl
    have HH := Lib.hid (show Rw W (w.heap.size + 3) Tpt 33 (.slice pa pm pp) ((gvs g off ps).map fun x => ptC (nodePt lv x.2)) ∧ Rw W (w.heap.size + 3) Tob 34 (.slice oa om op) ((gvs g off ps).map fun x => obCs (mkOb 2 (txtN lv x.2))) ∧ Below w.heap.size w W from ⟨h3, h5, h6⟩)
    clear h1 h2 h3 h4 h5 h6
    gi_wp2
    rename_i K9 hK9
    refine wpIn_mono (Q := Exit.then K9 (fun _ _ _ => False)) ?_ (fun e a W h => by cases e <;> first | exact h | exact h.elim)
    gi_region_o
    all_goals
      refine hK9 _ _ ?_
      gi_wp2
      refine ⟨by simp, .inl ⟨_, _, rfl, run_takeDeferred hK, ?_⟩⟩
      refine ⟨_, results_tmp2 rfl _ _ _, .slice pa pm pp, .slice oa om op, rfl, ?_, ?_, ?_⟩
      · have e : (upP lv ps).map ptC = (gvs g off ps).map fun x => ptC (nodePt lv x.2) := by
          unfold upP
          rw [← gvs_snd g off ps, List.map_map, List.map_map]
          rfl
        rw [e]
        exact ((HH.out.1.mono (by omega)).kept (fun k cs t fr hk => put_kept hK rfl hk))
      · have e : (upO lv ps).map obCs = (gvs g off ps).map fun x => obCs (mkOb 2 (txtN lv x.2)) := by
          unfold upO
          rw [← gvs_snd g off ps, List.map_map, List.map_map]
          rfl
        rw [e]
        exact ((HH.out.2.1.mono (by omega)).kept (fun k cs t fr hk => put_kept hK rfl hk))
      · exact (below_drewN HH.out.2.2 1).trans (belowK_b (w := w) (Nat.le_refl _) W.drew D _ _ (by omega) hK rfl rfl)
  case stop =>
    rintro D c pre W _ _ h _
    exact h.elim
end Go.Proofs.YtjdhcanblpifcaaDoor

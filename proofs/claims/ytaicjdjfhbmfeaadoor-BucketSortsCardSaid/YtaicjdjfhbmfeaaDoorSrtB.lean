/-
  Several texts in one: their sentences stand at their heads.
-/
import Derived.Test.YtaicjdjfhbmfeaaDoorSrtA
import Derived.Test.YtaicjdjfhbmfeaaDoorOid13
import Derived.Test.YtaicjdjfhbmfeaaDoorSf
import Derived.Test.YtaicjdjfhbmfeaaDoorLst
/-
  Places, and how they are ordered (mathematics).
-/
namespace Go.Proofs.YtaicjdjfhbmfeaaDoor
open Go.RowKit Go.Sort Crv

/-- A place: an address, a distance. -/
abbrev PL : Type := { p : Int × List UInt8 // p.2.length = 32 }
instance : Inhabited PL := ⟨⟨(0, List.replicate 32 0), rfl⟩⟩
def encP (p : PL) : List Value := plC p.1.1 p.1.2
theorem length_encP (p : PL) : (encP p).length = 33 := by unfold encP plC; rw [List.length_cons, List.length_map, p.2]
theorem one_encP (p : PL) : ∀ u ∈ encP p, u.oneCell' = true := by
  intro u hu
  rcases List.mem_cons.1 hu with rfl | hu
  · rfl
  · exact oneBytes _ u hu
def cfP (x y : PL) : Int := if cmpOf x.1.2 y.1.2 ≠ 0 then cmpOf x.1.2 y.1.2 else cmpI x.1.1 y.1.1
theorem less_trans {x y z : List UInt8} (hx : x.length = 32) (hy : y.length = 32) (hz : z.length = 32) (h1 : cmpOf x y < 0) (h2 : cmpOf y z < 0) : cmpOf x z < 0 := by
  have e1 := cmpOf_less x y hx hy
  have e2 := cmpOf_less y z hy hz
  have e3 := cmpOf_less x z hx hz
  rw [decide_eq_true h1] at e1
  rw [decide_eq_true h2] at e2
  obtain ⟨k, hk, hlt, hb⟩ := (less_iff x y (by omega)).1 e1.symm
  obtain ⟨l, hl, hlt2, hb2⟩ := (less_iff y z (by omega)).1 e2.symm
  have h3 : Op.bytesLess x z = true := by
    refine (less_iff x z (by omega)).2 ?_
    by_cases h : k < l
    · exact ⟨k, hk, by rw [← hb2 k h]; exact hlt, fun j hj => (hb j hj).trans (hb2 j (by omega))⟩
    · by_cases h' : l < k
      · exact ⟨l, by omega, by rw [hb l h']; exact hlt2, fun j hj => (hb j (by omega)).trans (hb2 j hj)⟩
      · have : k = l := by omega
        subst this
        exact ⟨k, hk, UInt8.lt_trans hlt hlt2, fun j hj => (hb j hj).trans (hb2 j hj)⟩
  rw [h3] at e3
  simpa using e3
/-- x comes ahead of y. -/
def ltP (x y : PL) : Prop := cmpOf x.1.2 y.1.2 < 0 ∨ (x.1.2 = y.1.2 ∧ x.1.1 < y.1.1)
theorem cfP_neg (x y : PL) : cfP x y < 0 ↔ ltP x y := by
  unfold cfP ltP
  have hz := cmpOf_zero x.1.2 y.1.2 x.2 y.2
  by_cases h : cmpOf x.1.2 y.1.2 = 0
  · rw [if_neg (fun e => e h)]
    have he := hz.1 h
    unfold cmpI
    constructor
    · intro h1
      refine .inr ⟨he, ?_⟩
      split at h1
      · assumption
      · split at h1 <;> omega
    · rintro (h1 | ⟨_, h1⟩)
      · omega
      · rw [if_pos h1]; omega
  · rw [if_pos h]
    exact ⟨.inl, fun h1 => h1.elim id fun h2 => absurd (hz.2 h2.1) h⟩
theorem ltP_irrefl (x : PL) : ¬ ltP x x := by
  rintro (h | ⟨_, h⟩)
  · have := (cmpOf_zero x.1.2 x.1.2 x.2 x.2).2 rfl
    omega
  · omega
theorem ltP_trans {x y z : PL} (h1 : ltP x y) (h2 : ltP y z) : ltP x z := by
  rcases h1 with h1 | ⟨e1, h1⟩ <;> rcases h2 with h2 | ⟨e2, h2⟩
  · exact .inl (less_trans x.2 y.2 z.2 h1 h2)
  · exact .inl (e2 ▸ h1)
  · exact .inl (by rw [e1]; exact h2)
  · exact .inr ⟨e1.trans e2, by omega⟩
theorem ltP_or (x y : PL) : ltP x y ∨ x = y ∨ ltP y x := by
  have hs := cmpOf_swap x.1.2 y.1.2 x.2 y.2
  by_cases h : cmpOf x.1.2 y.1.2 = 0
  · have he := (cmpOf_zero x.1.2 y.1.2 x.2 y.2).1 h
    by_cases h1 : x.1.1 < y.1.1
    · exact .inl (.inr ⟨he, h1⟩)
    · by_cases h2 : y.1.1 < x.1.1
      · exact .inr (.inr (.inr ⟨he.symm, h2⟩))
      · exact .inr (.inl (Subtype.ext (Prod.ext (by omega) he)))
  · by_cases h1 : cmpOf x.1.2 y.1.2 < 0
    · exact .inl (.inl h1)
    · exact .inr (.inr (.inl (by omega)))
theorem ltOf_cfP (x y : PL) : Go.Proofs.ltOf cfP x y = true ↔ ltP x y := by
  unfold Go.Proofs.ltOf
  rw [decide_eq_true_iff]
  exact cfP_neg x y
theorem swoP : SWO (Go.Proofs.ltOf cfP) := by
  have hf : ∀ x y, Go.Proofs.ltOf cfP x y = false ↔ ¬ ltP x y := fun x y => by rw [← ltOf_cfP]; simp
  refine ⟨fun x => (hf x x).2 (ltP_irrefl x), fun x y z h1 h2 => (ltOf_cfP x z).2 (ltP_trans ((ltOf_cfP x y).1 h1) ((ltOf_cfP y z).1 h2)), fun x y z h1 h2 => ?_⟩
  rw [hf] at h1 h2 ⊢
  intro h3
  rcases ltP_or x y with h | h | h
  · exact h1 h
  · exact h2 (h ▸ h3)
  · exact h2 (ltP_trans h h3)
/-- Where nothing is behind what comes ahead of it. -/
def SrtP (l : List PL) : Prop := l.Pairwise fun x y => ¬ ltP y x
/-- One order alone. -/
theorem srt_one : ∀ {l l' : List PL}, l.Perm l' → SrtP l → SrtP l' → l = l'
  | [], l', hp, _, _ => by rw [List.nil_perm] at hp; exact hp.symm
  | x :: l, [], hp, _, _ => by rw [List.perm_nil] at hp; exact hp
  | x :: l, y :: l', hp, h1, h2 => by
    have h1' := List.pairwise_cons.1 h1
    have h2' := List.pairwise_cons.1 h2
    have e : x = y := by
      rcases ltP_or x y with h | h | h
      · have hx : x ∈ y :: l' := hp.mem_iff.1 (by simp)
        rcases List.mem_cons.1 hx with e | hx
        · exact e
        · exact absurd h (h2'.1 x hx)
      · exact h
      · have hy : y ∈ x :: l := hp.mem_iff.2 (by simp)
        rcases List.mem_cons.1 hy with e | hy
        · exact e.symm
        · exact absurd h (h1'.1 y hy)
    subst e
    rw [srt_one ((List.perm_cons x).1 hp) h1'.2 h2'.2]
/-- An address as a place, seen from a goal. -/
def plOf (g : List UInt8) (hg : g.length = 32) (n : Int) : PL := ⟨(n, xorOf g (idN n)), length_xorOf g (idN n) hg (length_idN n)⟩
end Go.Proofs.YtaicjdjfhbmfeaaDoor

/-
  slices.SortFunc over places in memory.
-/
namespace Go.Proofs.YtaicjdjfhbmfeaaDoor
open Go.RowKit Go.Sort Go.Shelf Crv

/-- A row of cells reads as these places. -/
def Plc (C : List Value) (ps : List PL) : Prop := ∀ j (hj : j < ps.length) c, c < 33 → C[j * 33 + c]? = (encP ps[j])[c]?
theorem holds_plc {w : World} {R : Nat} {C : List Value} {ps : List PL} (hm : Mem w R Tpl C) (hp : Plc C ps) : HoldsK encP 33 w R 0 ps.toArray := by
  intro t ht
  rw [size_flatK, List.size_toArray] at ht
  have hj : t / 33 < ps.length := by omega
  have hc : t % 33 < 33 := by omega
  refine ⟨?_, hm.frozen _⟩
  rw [hm.cell, Nat.zero_add, get_flatK _ _ _ _ (by simpa using ht)]
  have h := hp (t / 33) hj (t % 33) hc
  rw [show t / 33 * 33 + t % 33 = t by omega] at h
  rw [h]
  have e : ps.toArray[t / 33]! = ps[t / 33] := by simp [hj]
  rw [e, List.getElem?_eq_getElem (by rw [length_encP]; exact hc)]
  simp [length_encP, hc]
set_option maxRecDepth 100000 in
theorem sortPlaces {w : World} {R cap : Nat} {C : List Value} {ps : List PL} (hm : Mem w R Tpl C) (hC : C.length = ps.length * 33) (hp : Plc C ps) (hl : ps.length ≤ 1000000) :
    Calls Tryd.prog 49 #[.slice (some ⟨R, 0, none⟩) ps.length cap, .func (.func 50) #[] #[]] w fun e w' =>
      e = .returned (.tuple #[]) ∧ ∃ ps' C', ps'.Perm ps ∧ SrtP ps' ∧ Mem w' R Tpl C' ∧ C'.length = ps'.length * 33 ∧ Plc C' ps' ∧ w.grownBy w' (some R) := by
  have hH := holds_plc hm hp
  have hcm : CmpLays Tryd.prog 50 #[] encP 33 cfP R 0 ps.toArray.size w := fun m os dk _ x y => by
    have h := sort1_any x.1.1 y.1.1 x.1.2 y.1.2 x.2 y.2 (sortWorldK encP 33 w R 0 m dk os)
    exact h
  have h := AnyQ.slices_SortFunc Tryd.sfA 33 (fun w => by kernel_rfl) (fun w => by kernel_rfl) encP length_encP one_encP cfP swoP 50 #[] R 0 cap ps.toArray w (enters_of Tryd.func50 (by kernel_rfl) rfl) hcm hH hm.lt (by rw [List.size_toArray]; omega)
  rw [List.size_toArray] at h
  refine Calls.mono (P := Tryd.prog) (f := 49) h ?_
  rintro e w' ⟨rfl, d', n, os, hperm, hsort, rfl⟩
  have hs : d'.size = ps.length := by rw [hperm.1, List.size_toArray]
  have hpm : d'.toList.Perm ps := by
    have h3 := hperm.2.2
    rw [← hs] at h3
    have e1 : d'.extract 0 d'.size = d' := by simp
    have e2 : ps.toArray.extract 0 d'.size = ps.toArray := by rw [hs]; simp
    rw [e1, e2] at h3
    exact h3
  have hgm : (sortWorldK encP 33 w R 0 n d' os).heap[R]? = some (.cells (putCells id 0 (flatK encP 33 d') C.toArray) Tpl (0, 0)) := by
    show (_ ++ os)[R]? = _
    rw [Array.getElem?_append_left (by
      show R < (putRowK encP 33 (Sort.ahead w n) R 0 d').heap.size
      rw [size_putRowK]
      exact hm.lt)]
    show (w.heap.modify R _)[R]? = _
    rw [Array.getElem?_modify, if_pos rfl, show w.heap[R]? = _ from hm]
    rfl
  have hM : Mem (sortWorldK encP 33 w R 0 n d' os) R Tpl (putCells id 0 (flatK encP 33 d') C.toArray).toList := by
    show _ = _
    rw [hgm]
  refine ⟨rfl, d'.toList, _, hpm, ?_, hM, ?_, ?_, ?_⟩
  · refine List.pairwise_iff_getElem.2 fun i j hi hj hij => ?_
    rw [Array.length_toList] at hi hj
    have h4 := hsort i j (Nat.zero_le _) hij (by rw [← hs]; exact hj)
    have e1 : d'[j]! = d'[j] := by simp [hj]
    have e2 : d'[i]! = d'[i] := by simp [hi]
    rw [e1, e2] at h4
    rw [← ltOf_cfP]
    simp only [Array.getElem_toList, h4]
    simp
  · rw [Array.length_toList, Array.length_toList, hs, ← hC]
    simp [putCells]
  · have hK := holdsK_sortWorldK_c encP 33 w R 0 ps.toArray d' n os hH hm.lt (by rw [hs, List.size_toArray])
    intro j hj c hc
    rw [Array.length_toList] at hj
    have e1 : d'[j]! = d'[j] := by simp [hj]
    have hcell := HoldsK.cells hK length_encP hj c ((encP d'[j])[c]'(by rw [length_encP]; exact hc)) (by rw [e1]; exact List.getElem?_eq_getElem _)
    have hin : (encP d'[j])[c]? = some ((encP d'[j])[c]'(by rw [length_encP]; exact hc)) := List.getElem?_eq_getElem _
    rw [Array.getElem_toList, hin, ← hcell, ← hM.cell, Addr.add_lit, Nat.zero_add]
  · refine ⟨rfl, rfl, rfl, ?_, fun k hk hne => ?_⟩
    · show _ ≤ (_ ++ os).size
      rw [Array.size_append]
      have : (putRowK encP 33 (Sort.ahead w n) R 0 d').heap.size = w.heap.size := by rw [size_putRowK]; rfl
      omega
    · show (_ ++ os)[k]? = _
      rw [Array.getElem?_append_left (by
        show k < (putRowK encP 33 (Sort.ahead w n) R 0 d').heap.size
        rw [size_putRowK]
        exact hk)]
      show (w.heap.modify R _)[k]? = _
      have hne' : R ≠ k := fun e => hne (by rw [e])
      rw [Array.getElem?_modify, if_neg hne']
set_option maxRecDepth 100000 in
theorem make_places (n : Nat) (hn : n ≤ 1000000) (W : World) : ∃ C : List Value, C.length = n * 33 ∧ (Instr.makeSlice 85 (.int .i64 (n : Int)) (.int .i64 (n : Int))).run Tryd.prog W = .ok (.slice (some ⟨W.heap.size, 0, none⟩) n n) (W.alloc (.cells C.toArray Tpl)) := by
  obtain ⟨i, hi, hz, hs, hb⟩ : ∃ i, Tryd.prog.info? Tpl = some i ∧ i.zero = some (.agg (plC 0 (List.replicate 32 0)).toArray) ∧ i.size = 33 ∧ i.bytes = 40 := info_of (by kernel_rfl)
  have hr := run_make (P := Tryd.prog) W 85 Tpl i (.agg (plC 0 (List.replicate 32 0)).toArray) Tryd.underlying85 hi hz .i64 .i64 n n (by omega) (by omega) (by rw [hb]; omega) (by omega)
  simp only [Int.toNat_natCast, hs] at hr
  refine ⟨(madeCells (Value.agg (plC 0 (List.replicate 32 0)).toArray).cells (n * 33)).toList, ?_, hr⟩
  simp [madeCells]
theorem make_nums (n : Nat) (hn : n ≤ 1000000) (W : World) : (Instr.makeSlice Tis (.int .i64 (n : Int)) (.int .i64 (n : Int))).run Tryd.prog W = .ok (.slice (some ⟨W.heap.size, 0, none⟩) n n) (W.alloc (.cells (List.replicate n (iv 0)).toArray Tin)) := by
  obtain ⟨i, hi, hz, hs, hb⟩ := int_inf
  have hr := run_make (P := Tryd.prog) W Tis Tin i (iv 0) Tryd.underlying31 hi hz .i64 .i64 n n (by omega) (by omega) (by rw [hb]; omega) (by omega)
  simp only [Int.toNat_natCast, hs] at hr
  rw [hr, Nat.mul_one]
  have e : madeCells (iv 0).cells n = (List.replicate n (iv 0)).toArray := by
    apply Array.ext
    · simp [size_madeCells]
    · intro i h1 h2
      have e1 : (iv 0).cells = #[iv 0] := rfl
      simp [madeCells, e1, Nat.mod_one]
  rw [e]
end Go.Proofs.YtaicjdjfhbmfeaaDoor

/-
  Package bucket: Sort.
-/
namespace Go.Proofs.YtaicjdjfhbmfeaaDoor
open Go.RowKit Go.Sort Crv

theorem Zs.ats {W : World} {a : Option Addr} {n cap : Nat} {ks : List Int} (h : Zs W (.slice a n cap) ks) : ∀ i, i < ks.length → ∃ b off, a = some ⟨b, off, none⟩ ∧ ∀ wr, Below W.heap.size W wr → wr.cell? ⟨b, off + i, none⟩ = some (.int .i64 (ks.getD i 0)) := by
  obtain ⟨a', cap', e, h⟩ := h
  injection e with e1 e2 e3
  subst e1
  intro i hi
  obtain ⟨b, off, hb, hc⟩ := h i hi
  exact ⟨b, off, hb, fun wr hw => (World.cell?_of_block (w := W) (w' := wr) (a := ⟨b, off + i, none⟩) (hw.block _ (World.block_lt_of_cell? W _ hc))).trans hc⟩
section
variable {P : Program} {ops : Array Oper} {o : Oper} {a : Act} {w : World} {Q : Exit → Act → World → Prop} {K : Act → World → Prop} {E : Prop}
theorem step_store_rng {g off : Nat} {t : TypeId} {old : List Value} (hm : Mem w g t old) (cs : List Value) (ty : TypeId) (x y : Operand)
    (hgd : o.guard = none) (ho : o.op = .store ty x y) (hx : a.eval x = .pointer (some ⟨g, off, none⟩)) (hy : a.eval y = .agg cs.toArray) (hi : (P.info? ty).map (·.size) = some cs.length) (hl : off + cs.length ≤ old.length) (h1 : ∀ v ∈ cs, v.oneCell' = true)
    (h : ∀ W, Mem W g t (old.take off ++ (cs ++ old.drop (off + cs.length))) → w.grownBy W (some g) → K (a.put o.dst undef) W) : if Region.wanted o (yielded ops a.tmps) = true then Oper.wp P o a w K Q else E := by
  have hw : Region.wanted o (yielded ops a.tmps) = true := by simp [Region.wanted, hgd]
  rw [if_pos hw]
  have hr := run_store_rowOf (P := P) (n := cs.length) hi w g off cs rfl h1 (hm.hasRow off cs.length hl)
  unfold Oper.wp execOp
  simp only [ho, hx, hy, hr, Sem.run_bind, Sem.run_pure, Result.andThen_ok]
  exact h _ (setCells_row cs off w old hm hl) (grown_cells cs off w (grownRefl _ _))
theorem step_buildB {ty : TypeId} {x y : Operand} {u v r : Value} (hr : (Instr.build ty #[(0, u), (1, v)]).run P w = .ok r w) (hgd : o.guard = none) (ho : o.op = .build ty #[(0, x), (1, y)]) (hx : a.eval x = u) (hy : a.eval y = v)
    (h : K (a.put o.dst r) w) : if Region.wanted o (yielded ops a.tmps) = true then Oper.wp P o a w K Q else E := by
  have hw : Region.wanted o (yielded ops a.tmps) = true := by simp [Region.wanted, hgd]
  rw [if_pos hw]
  unfold Oper.wp execOp
  simp only [ho, List.map_toArray, List.map_cons, List.map_nil, hx, hy, hr, Sem.run_bind, Sem.run_pure, Result.andThen_ok]
  exact h
end
theorem length_plC (n : Int) (d : List UInt8) (hd : d.length = 32) : (plC n d).length = 33 := by unfold plC; rw [List.length_cons, List.length_map, hd]
theorem sz_pl (n : Int) (d : List UInt8) (hd : d.length = 32) : (Tryd.prog.info? Tpl).map (·.size) = some (plC n d).length := by rw [length_plC n d hd]; kernel_rfl
theorem one_plC (n : Int) (d : List UInt8) : ∀ u ∈ plC n d, u.oneCell' = true := by
  intro u hu
  rcases List.mem_cons.1 hu with rfl | hu
  · rfl
  · exact oneBytes _ u hu
theorem zero_pl (W : World) : (zeroValue Tpl).run Tryd.prog W = .ok (.agg (plC 0 (List.replicate 32 0)).toArray) W := by kernel_rfl
set_option maxRecDepth 100000 in
theorem run_build_pl (n : Int) (d : List UInt8) (hd : d.length = 32) (W : World) : (Instr.build Tpl #[(0, iv n), (1, .agg (d.map byteV).toArray)]).run Tryd.prog W = .ok (.agg (plC n d).toArray) W := by
  have hz := zero_pl W
  have h1 : (plC 0 (List.replicate 32 0)).set 0 (iv n) = plC n (List.replicate 32 0) := rfl
  have l1 : (plC 0 (List.replicate 32 0)).length = 33 := length_plC _ _ rfl
  have l2 : (plC n (List.replicate 32 0)).length = 33 := length_plC _ _ rfl
  have h2 : List.foldl (fun (cs : Array Value) (x : Value × Nat) => cs.setIfInBounds (1 + x.snd) x.fst) (plC n (List.replicate 32 0)).toArray ((d.map byteV).zipIdx 0) = (plC n d).toArray := by
    have h := foldB 1 (d.map byteV) 0 (plC n (List.replicate 32 0)).toArray (by rw [List.size_toArray, l2, List.length_map, hd]; omega)
    rw [h, List.length_map, hd]
    congr 1
    show (plC n (List.replicate 32 0)).take 1 ++ d.map byteV ++ (plC n (List.replicate 32 0)).drop 33 = plC n d
    unfold plC
    simp
  obtain ⟨Z, hZ⟩ : ∃ Z, Z = plC 0 (List.replicate 32 0) := ⟨_, rfl⟩
  obtain ⟨Y, hY⟩ : ∃ Y, Y = plC n (List.replicate 32 0) := ⟨_, rfl⟩
  rw [← hZ] at hz h1 l1
  rw [← hY] at h1 h2 l2
  clear hZ hY
  obtain ⟨X, hX⟩ : ∃ X, X = plC n d := ⟨_, rfl⟩
  rw [← hX] at h2 ⊢
  clear hX
  unfold Instr.build
  simp only [Sem.run_bind, hz, Result.andThen_ok]
  simp [go_sem, Instr.fill, l1, l2, h1, hd]
  exact h2
/-- One place more is there. -/
theorem Plc.put {C : List Value} {ps : List PL} {n : Nat} (hC : C.length = n * 33) (hp : Plc C ps) (hlt : ps.length < n) (p : PL) : Plc (C.take (ps.length * 33) ++ (encP p ++ C.drop (ps.length * 33 + (encP p).length))) (ps ++ [p]) := by
  have hl := length_encP p
  have hmul : (ps.length + 1) * 33 ≤ n * 33 := Nat.mul_le_mul_right 33 hlt
  have ht : (C.take (ps.length * 33)).length = ps.length * 33 := by rw [List.length_take]; omega
  intro j hj c hc
  rw [List.length_append, List.length_singleton] at hj
  by_cases e : j < ps.length
  · have hjm : (j + 1) * 33 ≤ ps.length * 33 := Nat.mul_le_mul_right 33 e
    rw [List.getElem?_append_left (by omega), List.getElem?_take_of_lt (by omega), hp j e c hc, List.getElem_append_left e]
  · have ej : j = ps.length := by omega
    subst ej
    rw [List.getElem?_append_right (by omega), ht, Nat.add_sub_cancel_left, List.getElem?_append_left (by omega), List.getElem_append_right (by omega)]
    simp
theorem ld_pl (p : Value) : Instr.loadAt Tpl p = ldRow Tpl p := rfl
theorem ld_pl_at {w : World} {R : Nat} {C : List Value} {ps : List PL} (hm : Mem w R Tpl C) (hp : Plc C ps) (j : Nat) (hj : j < ps.length) : (ldRow Tpl (.pointer (some ⟨R, j * 33, none⟩))).run Tryd.prog w = .ok (.agg (plC ps[j].1.1 ps[j].1.2).toArray) w :=
  run_loadAt_mid w R (j * 33) Tpl (encP ps[j]) _ (fun c u hu => by
    have hc : c < 33 := by have := (List.getElem?_eq_some_iff.1 hu).1; rw [length_encP] at this; exact this
    rw [hm.cell, hp j hj c hc]
    exact hu) Tryd.underlying88 rfl (by rw [length_encP]; kernel_rfl)
/-- What Sort's first loop keeps. -/
def SoW (W0 : World) (g : List UInt8) (hg : g.length = 32) (xs : List Int) (k : Nat) (w : World) : Prop :=
  (∃ C, Mem w (W0.heap.size + 1) Tpl C ∧ C.length = xs.length * 33 ∧ Plc C ((xs.take k).map (plOf g hg))) ∧ Mem w W0.heap.size TI (g.map byteV) ∧ Below W0.heap.size W0 w
/-- What its second loop keeps. -/
def SoV (W0 : World) (n : Nat) (ps : List PL) (C : List Value) (u k : Nat) (w : World) : Prop :=
  Mem w u Tin ((((ps.map fun p => p.1.1).take k).map iv) ++ List.replicate (n - k) (iv 0)) ∧ Mem w (W0.heap.size + 1) Tpl C ∧ Below W0.heap.size W0 w ∧ W0.heap.size + 1 < u
theorem nums_set (ys : List Int) (k : Nat) (hk : k < ys.length) : (((ys.take k).map iv) ++ List.replicate (ys.length - k) (iv 0)).set k (iv (ys.getD k 0)) = ((ys.take (k + 1)).map iv) ++ List.replicate (ys.length - (k + 1)) (iv 0) := by
  have h1 : ((ys.take k).map iv).length = k := by rw [List.length_map, List.length_take]; omega
  rw [List.set_append_right _ _ (by omega), h1, Nat.sub_self, show ys.length - k = (ys.length - (k + 1)) + 1 by omega, List.replicate_succ, List.set_cons_zero, List.take_succ_eq_append_getElem hk, List.map_append, List.append_assoc, List.getD_eq_getElem?_getD, List.getElem?_eq_getElem hk]
  rfl
attribute [local go_sem ↓] ld_pl
set_option maxHeartbeats 4000000 in
set_option maxRecDepth 100000 in
theorem bsort_any (g : List UInt8) (hg : g.length = 32) (v : Value) (xs : List Int) (W : World) (hv : Zs W v xs) (hl : xs.length ≤ 100000) (hc : Consts W) :
    Calls Tryd.prog 24 #[.agg (g.map byteV).toArray, v] W fun e w' => ∃ u, e = .returned u ∧ ∃ ps : List PL, ps.Perm (xs.map (plOf g hg)) ∧ SrtP ps ∧ Owns w' W.heap.size Tin u ((ps.map fun p => p.1.1).map iv) ∧ Below W.heap.size W w' := by
  obtain ⟨a, cap, rfl, hk0⟩ := hv
  have HKS := Lib.hid (show Zs W (.slice a xs.length cap) xs from ⟨a, cap, rfl, hk0⟩)
  have HC := Lib.hid hc
  obtain ⟨C0, hC0, hmk⟩ := make_places xs.length (by omega) (W.alloc (.cells (g.map byteV).toArray TI))
  have HS0 : Hid (SoW W g hg xs 0 ((W.alloc (.cells (g.map byteV).toArray TI)).alloc (.cells C0.toArray Tpl))) := Lib.hid ⟨⟨C0, Mem.newAt _ Tpl C0 (by simp), hC0, fun j hj => by simp at hj⟩, (Mem.newAt W TI (g.map byteV) rfl).alloc _, (belowSelf W _).alloc (by simp) _⟩
  clear hk0 hc hC0
  go_enter Tryd.func24, Tryd.ntmps24
  go_wp2_with fail
  clear hmk
  go_loopw [16] (fun i wr => ∃ k : Nat, k ≤ xs.length ∧ i = .int .i64 k ∧ Hid (SoW W g hg xs k wr)) (fun i _ => xs.length - (intOf i).toNat)
  case atStart => exact ⟨0, by omega, rfl, HS0⟩
  case round =>
    obtain ⟨k, hk, rfl, HSO⟩ := hrel
    clear HS0
    by_cases hlt : k < xs.length
    · obtain ⟨b, off, rfl, hkW⟩ := HKS.out.ats k hlt
      have hl1 : (k : Int) < (xs.length : Int) := by omega
      obtain ⟨n0, hn0⟩ : ∃ n0, n0 = xs.getD k 0 := ⟨_, rfl⟩
      rw [← hn0] at hkW
      have HN0 := Lib.hid hn0
      have hkc := hkW wr HSO.out.2.2
      clear hkW hn0
      go_wp2_with fail
      obtain ⟨⟨C, hmC, hlC, hpC⟩, hm0, hbW⟩ := HSO.out
      have HMC := Lib.hid (show Mem wr.drew (W.heap.size + 1) Tpl C from hmC)
      have HLC := Lib.hid hlC
      have HPC := Lib.hid hpC
      have HM0 := Lib.hid (show Mem wr.drew W.heap.size TI (g.map byteV) from hm0)
      have HBW := Lib.hid (show Below W.heap.size W wr.drew from below_drewN hbW 1)
      have HID := Lib.hid (fun (w : World) (hc : Consts w) => id_any n0 w hc)
      have HXO := Lib.hid (fun (w : World) => xor_any g (idN n0) w hg (length_idN n0))
      have SZG := Lib.hid (sz_id g hg)
      have HBD := Lib.hid (fun (w : World) => run_build_pl n0 (xorOf g (idN n0)) (length_xorOf g (idN n0) hg (length_idN n0)) w)
      have HSP := Lib.hid (sz_pl n0 (xorOf g (idN n0)) (length_xorOf g (idN n0) hg (length_idN n0)))
      have HEP := Lib.hid (show encP (plOf g hg n0) = plC n0 (xorOf g (idN n0)) from rfl)
      obtain ⟨d6, hd6⟩ : ∃ d6, d6 = xorOf g (idN n0) := ⟨_, rfl⟩
      obtain ⟨d5, hd5⟩ : ∃ d5, d5 = idN n0 := ⟨_, rfl⟩
      rw [← hd6] at HXO HBD HSP HEP
      simp only [← hd5] at HID HXO
      clear hd5 hd6 hmC hlC hpC hm0 hbW HSO
      refine wp_region_held_drew (S := fun w' => Mem w' W.heap.size TI (g.map byteV)) (by kernel_rfl) HM0.out (fun hHeld => ?_)
      refine wpAnyH_take (i := 0) (oi := { dst := some 21, op := Op.move (Operand.tmp 5), type := 85, pos := "bucket.go:122", after := #[], guard := none }) (v := .slice (some ⟨W.heap.size + 1, 0, none⟩) xs.length xs.length) rfl (by kernel_rfl) (by kernel_rfl) (by kernel_rfl) (fun _ _ _ h => h) (Or.inl ⟨by rfl, ?_⟩) hHeld ?_
      · intro w' hSw
        clear hSw
        go_simp
      simp only [Act.put, List.setIfInBounds_toArray, List.set_cons_zero, List.set_cons_succ]
      refine wpAnyH_take (i := 1) (oi := { dst := some 22, op := Op.move (Operand.tmp 6), type := 3, pos := "bucket.go:122", after := #[], guard := none }) (v := .int .i64 (k : Int)) rfl (by kernel_rfl) (by kernel_rfl) (by kernel_rfl) (fun _ _ _ h => h) (Or.inl ⟨by rfl, ?_⟩) hHeld ?_
      · intro w' hSw
        clear hSw
        go_simp
      simp only [Act.put, List.setIfInBounds_toArray, List.set_cons_zero, List.set_cons_succ]
      refine wpAnyH_take (i := 2) (oi := { dst := some 23, op := Op.move (Operand.tmp 7), type := 3, pos := "bucket.go:122", after := #[], guard := none }) (v := iv n0) rfl (by kernel_rfl) (by kernel_rfl) (by kernel_rfl) (fun _ _ _ h => h) (Or.inl ⟨by rfl, ?_⟩) hHeld ?_
      · intro w' hSw
        clear hSw
        go_simp
      simp only [Act.put, List.setIfInBounds_toArray, List.set_cons_zero, List.set_cons_succ]
      refine wpAnyH_take (i := 3) (oi := { dst := some 24, op := Op.load 36 (Operand.tmp 2), type := 36, pos := "bucket.go:122", after := #[], guard := none }) (v := _) rfl (by kernel_rfl) (by kernel_rfl) (by kernel_rfl) (fun _ _ _ h => h) (yieldsIf_load_mid (by rfl) TI (.tmp 2) rfl W.heap.size (0) rfl (g.map byteV) (.array 32 5) (fun w hS => fun j u hu => by rw [hS.cell, Nat.zero_add]; exact hu) Tryd.underlying36 rfl SZG.out) hHeld ?_
      simp only [Act.put, List.setIfInBounds_toArray, List.set_cons_zero, List.set_cons_succ]
      refine wpAnyH_take (i := 4) (oi := { dst := some 25, op := Op.move (Operand.tmp 7), type := 3, pos := "bucket.go:122", after := #[], guard := none }) (v := iv n0) rfl (by kernel_rfl) (by kernel_rfl) (by kernel_rfl) (fun _ _ _ h => h) (Or.inl ⟨by rfl, ?_⟩) hHeld ?_
      · intro w' hSw
        clear hSw
        go_simp
      simp only [Act.put, List.setIfInBounds_toArray, List.set_cons_zero, List.set_cons_succ]
      refine wpAnyH_ready (rs := [5]) (by kernel_rfl) (by simp) (AllReadyH.cons rfl (fun K hK => ?_) AllReadyH.nil)
      go_simp
      refine (HID.out _ (HC.out.below HBW.out)).mono ?_
      rintro e w5 ⟨rfl, hb5⟩
      dsimp only
      have HB5 := Lib.hid hb5
      refine hK.out _ _ (hHeld.below hb5 hHeld.lt) (fun hH1 => ?_)
      clear hK K hb5
      refine wpAnyH_ready (rs := [6]) (by kernel_rfl) (by simp) (AllReadyH.cons rfl (fun K hK => ?_) AllReadyH.nil)
      go_simp
      refine (HXO.out w5).mono ?_
      rintro e w6 ⟨rfl, hb6⟩
      dsimp only
      have HB6 := Lib.hid (belowThen HB5.out hb6)
      refine hK.out _ _ (hH1.below hb6 hH1.lt) (fun hH2 => ?_)
      clear hK K hb6
      refine wpAnyH_ready (rs := [7]) (by kernel_rfl) (by simp) (AllReadyH.cons rfl (fun K hK => ?_) AllReadyH.nil)
      refine step_buildB (HBD.out w6) rfl rfl rfl rfl ?_
      simp only [List.getElem_toArray, List.getElem_cons_succ, List.getElem_cons_zero, Act.put]
      refine hK.out _ _ hH2 (fun hH7 => ?_)
      clear hK K
      refine wpAnyH_take (i := 8) (oi := { dst := some 29, op := Op.indexAddr 85 (Operand.tmp 21) (Operand.tmp 22), type := 0, pos := "bucket.go:122", after := #[{ on := 0, ground := Ground.data }, { on := 1, ground := Ground.data }, { on := 0, ground := Ground.phase }, { on := 1, ground := Ground.phase }, { on := 2, ground := Ground.phase }, { on := 3, ground := Ground.phase }, { on := 4, ground := Ground.phase }, { on := 5, ground := Ground.phase }, { on := 6, ground := Ground.phase }, { on := 7, ground := Ground.phase }], guard := none }) (v := .pointer (some ⟨W.heap.size + 1, k * 33, none⟩)) rfl (by kernel_rfl) (by kernel_rfl) (by kernel_rfl) (fun _ _ _ h => h) (Or.inl ⟨by rfl, ?_⟩) hH7 ?_
      · intro w' hSw
        clear hSw
        simp [go_sem, hlt] <;> omega
      simp only [Act.put, List.setIfInBounds_toArray, List.set_cons_zero, List.set_cons_succ]
      refine wpAnyH_ready (rs := [9]) (by kernel_rfl) (by simp) (AllReadyH.cons rfl (fun K hK => ?_) AllReadyH.nil)
      have HMC6 := Lib.hid (show Mem w6 (W.heap.size + 1) Tpl C from HMC.out.below HB6.out HMC.out.lt)
      have HLP := Lib.hid (show (plC n0 d6).length = 33 by rw [← HEP.out]; exact length_encP _)
      refine step_store_rng HMC6.out (plC n0 d6) Tpl (.tmp 29) (.tmp 28) rfl rfl rfl rfl HSP.out (by rw [HLP.out, HLC.out]; omega) (one_plC n0 d6) ?_
      intro W7 hm7 hg7
      simp only [List.getElem_toArray, List.getElem_cons_succ, List.getElem_cons_zero, Act.put]
      have HM7 := Lib.hid (show Mem W7 W.heap.size TI (g.map byteV) from hH7.grown hg7 (fun e => by injection e with e; omega))
      have HS7 : Hid (SoW W g hg xs (k + 1) W7) := Lib.hid (by
        have hk2 : ((xs.take k).map (plOf g hg)).length = k := by rw [List.length_map, List.length_take]; omega
        have hp := Plc.put (n := xs.length) HLC.out HPC.out (by rw [hk2]; exact hlt) (plOf g hg n0)
        rw [hk2, HEP.out] at hp
        refine ⟨⟨_, hm7, ?_, ?_⟩, HM7.out, belowNew (belowThen HBW.out HB6.out) hg7 (by omega)⟩
        · rw [List.length_append, List.length_append, List.length_take, List.length_drop, HLC.out, HLP.out]
          have : (k + 1) * 33 ≤ xs.length * 33 := Nat.mul_le_mul_right 33 hlt
          omega
        · have e : (xs.take (k + 1)).map (plOf g hg) = (xs.take k).map (plOf g hg) ++ [plOf g hg n0] := by
            rw [List.take_succ_eq_append_getElem hlt, List.map_append, HN0.out, List.getD_eq_getElem?_getD, List.getElem?_eq_getElem hlt]
            rfl
          rw [e]
          exact hp)
      refine hK.out _ _ HM7.out (fun hH9 => ?_)
      clear hK K hm7 hg7 HM7
      refine wpAnyH_done (by kernel_rfl) ?_ _
      rename_i Kz hKz
      refine hKz _ _ ?_
      clear hHeld hH7 hH9
      go_wp2_with fail
      go_round
      case rel => exact ⟨k + 1, by omega, by go_num, HS7⟩
      case measure => simp [intOf]; omega
    · have hl1 : ¬ (k : Int) < (xs.length : Int) := by omega
      have hkn : k = xs.length := by omega
      subst hkn
      obtain ⟨⟨C, hmC, hlC, hpC⟩, hm0, hbW⟩ := HSO.out
      rw [List.take_length] at hpC
      have HSF := Lib.hid (sortPlaces (cap := xs.length) hmC (by rw [List.length_map]; exact hlC) hpC (by rw [List.length_map]; omega))
      rw [List.length_map] at HSF
      have HBW := Lib.hid hbW
      clear hmC hlC hpC hm0 hbW HSO
      go_wp2_with fail
      refine HSF.out.mono ?_
      rintro e w5 ⟨rfl, ps, C5, hperm, hsrt, hm5, hl5, hp5, hg5⟩
      have HPM := Lib.hid hperm
      have HSR := Lib.hid hsrt
      have HM5 := Lib.hid hm5
      have HP5 := Lib.hid hp5
      have HB5 := Lib.hid (show Below W.heap.size W w5 from belowNew HBW.out hg5 (by omega))
      have hln : ps.length = xs.length := by rw [hperm.length_eq, List.length_map]
      have HLN := Lib.hid hln
      have hmk2 := make_nums xs.length (by omega) w5
      have HS6 : Hid (SoV W xs.length ps C5 w5.heap.size 0 (w5.alloc (.cells (List.replicate xs.length (iv 0)).toArray Tin))) := Lib.hid (by
        exact ⟨Mem.new w5 Tin _, hm5.alloc _, belowThen HB5.out (belowSelf w5 _), hm5.lt⟩)
      have HU := Lib.hid (show W.heap.size ≤ w5.heap.size from HB5.out.size)
      clear hperm hsrt hm5 hl5 hp5 hg5 hln HSF
      go_wp2_with fail
      clear hmk2
      go_loopw [38] (fun i w6 => ∃ k : Nat, k ≤ xs.length ∧ i = .int .i64 k ∧ Hid (SoV W xs.length ps C5 w5.heap.size k w6)) (fun i _ => xs.length - (intOf i).toNat)
      case atStart => exact ⟨0, by omega, rfl, HS6⟩
      case round =>
        obtain ⟨k, hk, rfl, HV⟩ := hrel
        clear HS6
        by_cases hlt2 : k < xs.length
        · have hl2 : (k : Int) < (xs.length : Int) := by omega
          have hkp : k < ps.length := by rw [HLN.out]; exact hlt2
          have hldp := ld_pl_at HV.out.2.1 HP5.out k hkp
          have hdl := (ps[k]).2
          have HYG := Lib.hid (show (ps.map fun p => p.1.1).getD k 0 = ps[k].1.1 by rw [List.getD_eq_getElem?_getD, List.getElem?_map, List.getElem?_eq_getElem hkp]; rfl)
          obtain ⟨d2, hd2⟩ : ∃ d2, d2 = ps[k].1.2 := ⟨_, rfl⟩
          obtain ⟨n2, hn2⟩ : ∃ n2, n2 = ps[k].1.1 := ⟨_, rfl⟩
          rw [← hd2] at hldp hdl
          rw [← hn2] at hldp HYG
          clear hd2 hn2 hkp
          have SZP := Lib.hid (sz_pl n2 d2 hdl)
          have HZP := Lib.hid (show (plC 0 (List.replicate 32 0)).length = (plC n2 d2).length by rw [length_plC _ _ hdl]; rfl)
          have ONP := Lib.hid (one_plC n2 d2)
          clear hdl
          go_wp2_with (first
            | (refine wp_store_gen (B := wr.heap.size) (w0 := wr) (belowSelf wr _) (Nat.le_refl _) (Mem.newAt wr Tpl (plC 0 (List.replicate 32 0)) rfl) (plC n2 d2) Tpl (.tmp 10) (.tmp 42) rfl rfl rfl rfl SZP.out HZP.out ONP.out ?_
               intro W2 hm2 hb2 hz2 hk2
               have hc0 : W2.cell? ⟨wr.heap.size, 0, none⟩ = some (iv n2) := hm2.cell 0
               have HV2 := Lib.hid (show SoV W xs.length ps C5 w5.heap.size k W2 from ⟨HV.out.1.below hb2 HV.out.1.lt, HV.out.2.1.below hb2 HV.out.2.1.lt, belowThen HV.out.2.2.1 hb2, HV.out.2.2.2⟩)
               obtain ⟨⟨hc1, hz1⟩⟩ : Nonempty (PProd (W2.cell? ⟨w5.heap.size, k, none⟩ = some (iv 0)) (W2.frozen? ⟨w5.heap.size, k, none⟩ = false)) := by
                 refine ⟨⟨?_, HV2.out.1.frozen _⟩⟩
                 have hlk : (((ps.map fun p => p.1.1).take k).map iv).length = k := by rw [List.length_map, List.length_take, List.length_map, HLN.out]; omega
                 rw [HV2.out.1.cell, List.getElem?_append_right (by omega), hlk, Nat.sub_self, List.getElem?_replicate, if_pos (by omega)]
               clear hm2 hb2 hz2 hk2)
            | fail)
          have HV3 : Hid (SoV W xs.length ps C5 w5.heap.size (k + 1) (W2.setCell ⟨w5.heap.size, k, none⟩ (.int .i64 n2))) := Lib.hid (by
            have hyl : (ps.map fun p => p.1.1).length = xs.length := by rw [List.length_map, HLN.out]
            have hs := nums_set (ps.map fun p => p.1.1) k (by rw [hyl]; exact hlt2)
            rw [HYG.out, hyl] at hs
            have h1 := HV2.out.1.set k (iv n2)
            rw [hs] at h1
            exact ⟨h1, HV2.out.2.1.other (by have := HV2.out.2.2.2; simp only; omega) _, belowNew HV2.out.2.2.1 (grown_cell (grownRefl W2 (some w5.heap.size)) k (iv n2)) HU.out, HV2.out.2.2.2⟩)
          exact ⟨⟨k + 1, by omega, by go_num, HV3⟩, by simp [intOf]; omega⟩
        · have hl2 : ¬ (k : Int) < (xs.length : Int) := by omega
          have hk2 : k = xs.length := by omega
          subst hk2
          obtain ⟨hm6, -, hb6, -⟩ := HV.out
          rw [Nat.sub_self, List.replicate_zero, List.append_nil, List.take_of_length_le (by rw [List.length_map, HLN.out]; exact Nat.le_refl _)] at hm6
          have HO := Lib.hid (Owns.of_mem (base := W.heap.size) hm6 HU.out xs.length xs.length (Nat.le_refl _) (by rw [List.length_map, List.length_map, HLN.out]) (by simp only [maxLen]; omega) (xs := (ps.map fun p => p.1.1).map iv) (List.take_of_length_le (by rw [List.length_map, List.length_map, HLN.out]; exact Nat.le_refl _)))
          have HB6 := Lib.hid hb6
          clear hm6 hb6 HV
          go_wp2_with fail
          go_ret
          exact ⟨.slice (some ⟨w5.heap.size, 0, none⟩) xs.length xs.length, rfl, ps, HPM.out, HSR.out, by have h := HO.out; rw [List.map_map] at h; exact h, HB6.out⟩
end Go.Proofs.YtaicjdjfhbmfeaaDoor

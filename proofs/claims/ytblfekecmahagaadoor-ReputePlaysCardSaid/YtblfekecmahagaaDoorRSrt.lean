/-
  Repute: the order of addresses; slices.SortFunc of numbers; Sort.
-/
import Derived.Test.YtblfekecmahagaaDoorRep6
import Derived.Test.YtblfekecmahagaaDoorSf
import Derived.Shelf.SlSortCmp.NoneTotal
import Derived.Sort.Grow
namespace Go.Proofs.YtblfekecmahagaaDoor
open Go.RowKit Go.Sort Go.Shelf Go.Maps Crv

/-- Some draws, some blocks laid behind. -/
def Gw (w w' : World) : Prop := ∃ q os, w' = grow (w.drewN q) os
theorem Gw.refl (w : World) : Gw w w := ⟨0, #[], by rw [grow_empty]; rfl⟩
theorem Gw.trans {a b c : World} (h : Gw a b) (k : Gw b c) : Gw a c := by
  obtain ⟨q, os, rfl⟩ := h
  obtain ⟨q', os', rfl⟩ := k
  exact ⟨q + q', os ++ os', by simp [grow, World.drewN, Nat.add_assoc, Array.append_assoc]⟩
theorem Gw.alloc (w : World) (o : Obj) : Gw w (w.alloc o) := ⟨0, #[o], by rw [alloc_eq_grow]; rfl⟩
theorem Gw.drew (w : World) : Gw w w.drew := ⟨1, #[], by rw [grow_empty]; rfl⟩
theorem Gw.below {w w' : World} (h : Gw w w') : Below w.heap.size w w' := by
  obtain ⟨q, os, rfl⟩ := h
  refine ⟨rfl, rfl, rfl, by simp [grow], fun k hk => ?_⟩
  show (w.heap ++ os)[k]? = _
  rw [Array.getElem?_append_left hk]
/-- How two numbers compare. -/
def cmpI (a b : Int) : Int := if a < b then -1 else if b < a then 1 else 0
set_option maxRecDepth 100000 in
theorem isNaN_any (a : Int) (w : World) : Calls Tryd.prog 44 #[iv a] w fun e w' => e = .returned (.bool false) ∧ w = w' := by
  go_enter Tryd.func44, Tryd.ntmps44
  go_wp2_with fail
  go_ret
  exact ⟨by simp, rfl⟩
set_option maxRecDepth 100000 in
theorem cmpCompare_any (a b : Int) (w : World) : Calls Tryd.prog 36 #[iv a, iv b] w fun e w' => e = .returned (iv (cmpI a b)) ∧ w = w' := by
  by_cases h1 : a < b
  · have e : cmpI a b = -1 := by unfold cmpI; rw [if_pos h1]
    rw [e]
    go_enter Tryd.func36, Tryd.ntmps36
    go_wp2_with fail
    refine (isNaN_any a _).mono ?_
    rintro e w' ⟨rfl, rfl⟩
    go_wp2_with fail
    refine (isNaN_any b _).mono ?_
    rintro e w' ⟨rfl, rfl⟩
    go_wp2_with fail
    go_ret
    exact ⟨rfl, rfl⟩
  · by_cases h2 : b < a
    · have e : cmpI a b = 1 := by unfold cmpI; rw [if_neg h1, if_pos h2]
      rw [e]
      go_enter Tryd.func36, Tryd.ntmps36
      go_wp2_with fail
      refine (isNaN_any a _).mono ?_
      rintro e w' ⟨rfl, rfl⟩
      go_wp2_with fail
      refine (isNaN_any b _).mono ?_
      rintro e w' ⟨rfl, rfl⟩
      go_wp2_with fail
      go_ret
      exact ⟨rfl, rfl⟩
    · have e : cmpI a b = 0 := by unfold cmpI; rw [if_neg h1, if_neg h2]
      rw [e]
      go_enter Tryd.func36, Tryd.ntmps36
      go_wp2_with fail
      refine (isNaN_any a _).mono ?_
      rintro e w' ⟨rfl, rfl⟩
      go_wp2_with fail
      refine (isNaN_any b _).mono ?_
      rintro e w' ⟨rfl, rfl⟩
      go_wp2_with fail
      go_ret
      exact ⟨rfl, rfl⟩
set_option maxRecDepth 100000 in
theorem or_any (a b : Int) (g : Nat) (w : World) (h0 : w.cell? ⟨g, 0, none⟩ = some (iv a)) (h1 : w.cell? ⟨g, 1, none⟩ = some (iv b)) : Calls Tryd.prog 35 #[.slice (some ⟨g, 0, none⟩) 2 2] w fun e w' =>
    e = .returned (iv (if a ≠ 0 then a else b)) ∧ w = w' := by
  have H0 := Lib.hid h0
  have H1 := Lib.hid h1
  clear h0 h1
  go_enter Tryd.func35, Tryd.ntmps35
  go_wp2_with fail
  go_loop [8] (fun k => ∃ i : Nat, i ≤ 2 ∧ k = .int .i64 i ∧ (0 < i → a = 0) ∧ (1 < i → b = 0)) (fun k => 2 - (intOf k).toNat)
  case atStart => exact ⟨0, by omega, rfl, by omega, by omega⟩
  case round =>
    obtain ⟨i, hi, rfl, ha, hb⟩ := hrel
    have hcase : i = 0 ∨ i = 1 ∨ i = 2 := by omega
    rcases hcase with rfl | rfl | rfl
    · have h0 := H0.out
      clear ha hb
      by_cases e : a = 0
      · subst e
        go_wp2_with fail
        go_round
        case rel => exact ⟨1, by omega, by go_num, by simp, by simp⟩
        case measure => simp [intOf]
      · have hne : (a != 0) = true := by simpa using e
        go_wp2_with fail
        go_ret
        exact ⟨by simp, rfl⟩
    · have h1 := H1.out
      have ha0 := ha (by omega)
      subst ha0
      clear ha hb
      by_cases e : b = 0
      · subst e
        go_wp2_with fail
        go_round
        case rel => exact ⟨2, by omega, by go_num, by simp, by simp⟩
        case measure => simp [intOf]
      · have hne : (b != 0) = true := by simpa using e
        go_wp2_with fail
        go_ret
        exact ⟨by simp, rfl⟩
    · have ha0 := ha (by omega)
      have hb0 := hb (by omega)
      subst ha0
      subst hb0
      clear ha hb
      go_wp2_with fail
      go_ret
      exact ⟨by simp, rfl⟩
abbrev Tbp : TypeId := 25
abbrev bpV (k : Nat) : Value := .pointer (some ⟨k, 0, none⟩)
def scoreK (M : MKt) (n : Int) : Int := (mkOf M n).1
abbrev IN : Type := { n : Int // In64 n }
instance : Inhabited IN := ⟨⟨0, in64_of (by omega)⟩⟩
def cfS (M : MKt) (x y : IN) : Int := if cmpI (scoreK M y.1) (scoreK M x.1) ≠ 0 then cmpI (scoreK M y.1) (scoreK M x.1) else cmpI x.1 y.1
/-- x comes ahead of y. -/
def ltS (M : MKt) (x y : Int) : Prop := scoreK M y < scoreK M x ∨ (scoreK M x = scoreK M y ∧ x < y)
theorem cmpI_neg (a b : Int) : cmpI a b < 0 ↔ a < b := by
  unfold cmpI
  constructor
  · intro h
    split at h
    · assumption
    · split at h <;> omega
  · intro h
    rw [if_pos h]
    omega
theorem cmpI_zero (a b : Int) : cmpI a b = 0 ↔ a = b := by
  unfold cmpI
  constructor
  · intro h
    split at h
    · omega
    · split at h <;> omega
  · rintro rfl
    simp
theorem cfS_neg (M : MKt) (x y : IN) : cfS M x y < 0 ↔ ltS M x.1 y.1 := by
  unfold cfS ltS
  have hz := cmpI_zero (scoreK M y.1) (scoreK M x.1)
  have hn := cmpI_neg (scoreK M y.1) (scoreK M x.1)
  by_cases h : cmpI (scoreK M y.1) (scoreK M x.1) = 0
  · rw [if_neg (fun e => e h), cmpI_neg]
    have := hz.1 h
    omega
  · rw [if_pos h, hn]
    have : ¬ scoreK M y.1 = scoreK M x.1 := fun e => h (hz.2 e)
    omega
theorem ltOf_cfS (M : MKt) (x y : IN) : Go.Proofs.ltOf (cfS M) x y = true ↔ ltS M x.1 y.1 := by
  unfold Go.Proofs.ltOf
  rw [decide_eq_true_iff]
  exact cfS_neg M x y
theorem ltS_irrefl (M : MKt) (x : Int) : ¬ ltS M x x := by unfold ltS; omega
theorem ltS_trans {M : MKt} {x y z : Int} (h1 : ltS M x y) (h2 : ltS M y z) : ltS M x z := by unfold ltS at *; omega
theorem ltS_or (M : MKt) (x y : Int) : ltS M x y ∨ x = y ∨ ltS M y x := by unfold ltS; omega
theorem swoS (M : MKt) : SWO (Go.Proofs.ltOf (cfS M)) := by
  have hf : ∀ x y, Go.Proofs.ltOf (cfS M) x y = false ↔ ¬ ltS M x.1 y.1 := fun x y => by rw [← ltOf_cfS]; simp
  refine ⟨fun x => (hf x x).2 (ltS_irrefl M x.1), fun x y z h1 h2 => (ltOf_cfS M x z).2 (ltS_trans ((ltOf_cfS M x y).1 h1) ((ltOf_cfS M y z).1 h2)), fun x y z h1 h2 => ?_⟩
  rw [hf] at h1 h2 ⊢
  intro h3
  unfold ltS at *
  omega
/-- Where nothing is behind what comes ahead of it. -/
def SrtS (M : MKt) (l : List Int) : Prop := l.Pairwise fun x y => ¬ ltS M y x
/-- One order alone. -/
theorem srtS_one {M : MKt} : ∀ {l l' : List Int}, l.Perm l' → SrtS M l → SrtS M l' → l = l'
  | [], l', hp, _, _ => by rw [List.nil_perm] at hp; exact hp.symm
  | x :: l, [], hp, _, _ => by rw [List.perm_nil] at hp; exact hp
  | x :: l, y :: l', hp, h1, h2 => by
    have h1' := List.pairwise_cons.1 h1
    have h2' := List.pairwise_cons.1 h2
    have e : x = y := by
      rcases ltS_or M x y with h | h | h
      · have hx : x ∈ y :: l' := hp.mem_iff.1 (by simp)
        rcases List.mem_cons.1 hx with e | hx
        · exact e
        · exact absurd h (h2'.1 x hx)
      · exact h
      · have hy : y ∈ x :: l := hp.mem_iff.2 (by simp)
        rcases List.mem_cons.1 hy with e | hy
        · exact e.symm
        · exact absurd h (h1'.1 y hy)
    subst e
    rw [srtS_one ((List.perm_cons x).1 hp) h1'.2 h2'.2]
section
variable {w : World} {k mb bb bx : Nat} {M : MKt} {B : BNt}
set_option maxHeartbeats 2000000 in
set_option maxRecDepth 100000 in
theorem rsort1_any (hv : Bv w k mb bb M B) (hbx : w.cell? ⟨bx, 0, none⟩ = some (bpV k)) (hlt : bx < w.heap.size) {x y : Int} (hx : In64 x) (hy : In64 y) : Calls Tryd.prog 34 #[iv x, iv y, .pointer (some ⟨bx, 0, none⟩)] w fun e w' =>
    e = .returned (iv (if cmpI (scoreK M y) (scoreK M x) ≠ 0 then cmpI (scoreK M y) (scoreK M x) else cmpI x y)) ∧ Gw w w' := by
  have HSY := Lib.hid (show Calls Tryd.prog 21 #[.pointer (some ⟨k, 0, none⟩), iv y] w.drew fun e w' => e = .returned (iv (scoreK M y)) ∧ Gw w w' from
    (score_any (hv.of (w' := w.drew) rfl rfl rfl) hy).mono fun _ _ q => ⟨q.1, q.2 ▸ Gw.drew w⟩)
  have HSX := Lib.hid (fun w2 (hg : Gw w w2) => show Calls Tryd.prog 21 #[.pointer (some ⟨k, 0, none⟩), iv x] w2 fun e w' => e = .returned (iv (scoreK M x)) ∧ w2 = w' from
    (score_any (hv.below hg.below) hx).mono fun _ _ q => ⟨q.1, q.2.symm⟩)
  have HC1 := Lib.hid (fun w2 => cmpCompare_any (scoreK M y) (scoreK M x) w2)
  have HC2 := Lib.hid (fun w2 => cmpCompare_any x y w2)
  obtain ⟨sy, hsy⟩ : ∃ s, s = scoreK M y := ⟨_, rfl⟩
  obtain ⟨sx, hsx⟩ : ∃ s, s = scoreK M x := ⟨_, rfl⟩
  simp only [← hsy, ← hsx] at HSY HSX HC1 ⊢
  obtain ⟨c, hc⟩ : ∃ c, c = cmpI sy sx := ⟨_, rfl⟩
  obtain ⟨i, hi⟩ : ∃ i, i = cmpI x y := ⟨_, rfl⟩
  simp only [← hc] at HC1 ⊢
  simp only [← hi] at HC2 ⊢
  obtain ⟨r, hr⟩ : ∃ r, r = if c ≠ 0 then c else i := ⟨_, rfl⟩
  have HR := Lib.hid hr.symm
  rw [← hr]
  have HBX := Lib.hid (show w.drew.cell? ⟨bx, 0, none⟩ = some (bpV k) from hbx)
  have HKB := Lib.hid (fun w2 (hg : Gw w w2) => show w2.cell? ⟨bx, 0, none⟩ = some (bpV k) from (hg.below.cell (p := ⟨bx, 0, none⟩) hlt).trans hbx)
  clear hc hi hr hsy hsx hv hbx hlt hx hy
  go_enter Tryd.func34, Tryd.ntmps34
  go_wp2_with fail
  refine wp_region_held_drew (S := fun w' => w'.cell? ⟨bx, 0, none⟩ = some (bpV k)) (by kernel_rfl) HBX.out (fun hHeld => ?_)
  refine wpAnyH_take (i := 0) (oi := { dst := some 6, op := Op.load 25 (Operand.tmp 2), type := 25, pos := "repute.go:101", after := #[], guard := none }) (v := .pointer (some ⟨k, 0, none⟩)) rfl (by kernel_rfl) (by kernel_rfl) (by kernel_rfl) (fun _ _ _ h => h) (Or.inl ⟨by rfl, ?_⟩) hHeld ?_
  · intro w' hSw
    go_simp
  simp only [Act.put, List.setIfInBounds_toArray, List.set_cons_zero, List.set_cons_succ]
  refine wpAnyH_take (i := 1) (oi := { dst := some 7, op := Op.move (Operand.tmp 1), type := 3, pos := "repute.go:101", after := #[], guard := none }) (v := iv y) rfl (by kernel_rfl) (by kernel_rfl) (by kernel_rfl) (fun _ _ _ h => h) (Or.inl ⟨by rfl, ?_⟩) hHeld ?_
  · intro w' hSw
    go_simp
  simp only [Act.put, List.setIfInBounds_toArray, List.set_cons_zero, List.set_cons_succ]
  refine wpAnyH_take (i := 3) (oi := { dst := some 9, op := Op.load 25 (Operand.tmp 2), type := 25, pos := "repute.go:101", after := #[], guard := none }) (v := .pointer (some ⟨k, 0, none⟩)) rfl (by kernel_rfl) (by kernel_rfl) (by kernel_rfl) (fun _ _ _ h => h) (Or.inl ⟨by rfl, ?_⟩) hHeld ?_
  · intro w' hSw
    go_simp
  simp only [Act.put, List.setIfInBounds_toArray, List.set_cons_zero, List.set_cons_succ]
  refine wpAnyH_take (i := 4) (oi := { dst := some 10, op := Op.move (Operand.tmp 0), type := 3, pos := "repute.go:101", after := #[], guard := none }) (v := iv x) rfl (by kernel_rfl) (by kernel_rfl) (by kernel_rfl) (fun _ _ _ h => h) (Or.inl ⟨by rfl, ?_⟩) hHeld ?_
  · intro w' hSw
    go_simp
  simp only [Act.put, List.setIfInBounds_toArray, List.set_cons_zero, List.set_cons_succ]
  refine wpAnyH_take (i := 7) (oi := { dst := some 13, op := Op.move (Operand.tmp 0), type := 3, pos := "repute.go:101", after := #[], guard := none }) (v := iv x) rfl (by kernel_rfl) (by kernel_rfl) (by kernel_rfl) (fun _ _ _ h => h) (Or.inl ⟨by rfl, ?_⟩) hHeld ?_
  · intro w' hSw
    go_simp
  simp only [Act.put, List.setIfInBounds_toArray, List.set_cons_zero, List.set_cons_succ]
  refine wpAnyH_take (i := 8) (oi := { dst := some 14, op := Op.move (Operand.tmp 1), type := 3, pos := "repute.go:101", after := #[], guard := none }) (v := iv y) rfl (by kernel_rfl) (by kernel_rfl) (by kernel_rfl) (fun _ _ _ h => h) (Or.inl ⟨by rfl, ?_⟩) hHeld ?_
  · intro w' hSw
    go_simp
  simp only [Act.put, List.setIfInBounds_toArray, List.set_cons_zero, List.set_cons_succ]
  refine wpAnyH_ready (rs := [2]) (by kernel_rfl) (by simp) (AllReadyH.cons rfl (fun K hK => ?_) AllReadyH.nil)
  go_simp
  refine HSY.out.mono ?_
  rintro e w2 ⟨rfl, hgw⟩
  dsimp only
  have HG2 := Lib.hid hgw
  have HS2 := Lib.hid (HKB.out w2 hgw)
  clear hgw
  refine hK.out _ _ HS2.out (fun hH1 => ?_)
  clear hK K
  refine wpAnyH_ready (rs := [5]) (by kernel_rfl) (by simp) (AllReadyH.cons rfl (fun K hK => ?_) AllReadyH.nil)
  go_simp
  refine (HSX.out _ HG2.out).mono ?_
  rintro e w3 ⟨rfl, rfl⟩
  dsimp only
  refine hK.out _ _ HS2.out (fun hH2 => ?_)
  clear hK K
  refine wpAnyH_ready (rs := [6]) (by kernel_rfl) (by simp) (AllReadyH.cons rfl (fun K hK => ?_) AllReadyH.nil)
  go_simp
  refine (HC1.out _).mono ?_
  rintro e w3 ⟨rfl, rfl⟩
  dsimp only
  refine hK.out _ _ HS2.out (fun hH3 => ?_)
  clear hK K
  refine wpAnyH_ready (rs := [9]) (by kernel_rfl) (by simp) (AllReadyH.cons rfl (fun K hK => ?_) AllReadyH.nil)
  go_simp
  refine (HC2.out _).mono ?_
  rintro e w3 ⟨rfl, rfl⟩
  dsimp only
  refine hK.out _ _ HS2.out (fun hH4 => ?_)
  clear hK K
  have HSA := Lib.hid (show (w2.alloc (.cells #[iv c, iv i] Tin)).cell? ⟨bx, 0, none⟩ = some (bpV k) from HKB.out _ (HG2.out.trans (Gw.alloc _ _)))
  refine wpAnyH_ready (rs := [10]) (by kernel_rfl) (by simp) (AllReadyH.cons rfl (fun K hK => ?_) AllReadyH.nil)
  go_simp
  refine hK.out _ _ HSA.out (fun hH5 => ?_)
  clear hK K
  refine wpAnyH_ready (rs := [11]) (by kernel_rfl) (by simp) (AllReadyH.cons rfl (fun K hK => ?_) AllReadyH.nil)
  go_simp
  refine (or_any c i w2.heap.size _ ((Mem.new w2 Tin [iv c, iv i]).cell 0) ((Mem.new w2 Tin [iv c, iv i]).cell 1)).mono ?_
  rintro e w4 ⟨rfl, rfl⟩
  dsimp only
  rw [HR.out]
  refine hK.out _ _ HSA.out (fun hH6 => ?_)
  clear hK K
  refine wpAnyH_take (i := 12) (oi := { dst := some 5, op := Op.assign (Operand.tmp 17), type := 3, pos := "repute.go:101", after := #[{ on := 11, ground := Ground.data }, { on := 11, ground := Ground.chain }, { on := 0, ground := Ground.phase }, { on := 1, ground := Ground.phase }, { on := 2, ground := Ground.phase }, { on := 3, ground := Ground.phase }, { on := 4, ground := Ground.phase }, { on := 5, ground := Ground.phase }, { on := 6, ground := Ground.phase }, { on := 7, ground := Ground.phase }, { on := 8, ground := Ground.phase }, { on := 9, ground := Ground.phase }, { on := 10, ground := Ground.phase }, { on := 11, ground := Ground.phase }], guard := none }) (v := iv r) rfl (by kernel_rfl) (by kernel_rfl) (by kernel_rfl) (fun _ _ _ h => h) (Or.inl ⟨by rfl, ?_⟩) hH6 ?_
  · intro w' hSw
    go_simp
  simp only [Act.put, List.setIfInBounds_toArray, List.set_cons_zero, List.set_cons_succ]
  refine wpAnyH_done (by kernel_rfl) ?_ _
  rename_i Kz hKz
  refine hKz _ _ ?_
  go_wp2_with fail
  go_ret
  exact ⟨rfl, HG2.out.trans (Gw.alloc _ _)⟩
end
def encI (x : IN) : Value := iv x.1
theorem one_encI : OneCell encI := fun _ => rfl
theorem grown_sortWorld {w : World} {R : Nat} (n : Nat) (d : Array IN) (os : Array Obj) : w.grownBy (sortWorld encI w R 0 n d os) (some R) := by
  have hs : (putRow encI (Sort.ahead w n) R 0 d).heap.size = w.heap.size := by simp [putRow, mapBlock, Sort.ahead]
  refine ⟨rfl, rfl, rfl, ?_, fun k hk hne => ?_⟩
  · show _ ≤ (_ ++ os).size
    rw [Array.size_append]
    omega
  · show (_ ++ os)[k]? = _
    rw [Array.getElem?_append_left (by
      show k < (putRow encI (Sort.ahead w n) R 0 d).heap.size
      omega)]
    show (w.heap.modify R _)[k]? = _
    have hne' : R ≠ k := fun e => hne (by rw [e])
    rw [Array.getElem?_modify, if_neg hne']
section
variable {w : World} {k mb bb bx base : Nat} {M : MKt} {B : BNt} {v : Value} {xs : List Int}
set_option maxRecDepth 100000 in
theorem sortInts (h : Owns w base Tin v (xs.map iv)) (hin : ∀ x ∈ xs, In64 x) (hl : xs.length ≤ 1000000) (hv : Bv w k mb bb M B) (hbx : Mem w bx Tbp [bpV k]) :
    Calls Tryd.prog 33 #[v, .func (.func 34) #[] #[.pointer (some ⟨bx, 0, none⟩)]] w fun e w' =>
      e = .returned (.tuple #[]) ∧ ∃ ys : List Int, ys.Perm xs ∧ SrtS M ys ∧ Owns w' base Tin v (ys.map iv) ∧ w.grownBy w' v.ownBlock := by
  obtain ⟨L, rfl⟩ : ∃ L : List IN, L.map (·.1) = xs := ⟨xs.pmap Subtype.mk hin, by simp [List.map_pmap]⟩
  rw [List.length_map] at hl
  rw [List.map_map] at h
  have hlen := h.1
  rcases h.2 with ⟨rfl, h0⟩ | ⟨R, cap, cur, rfl, hbase, hg, hn, hmx, hsz, ht⟩
  · have e : L = [] := by
      rw [List.length_map] at h0
      exact List.length_eq_zero_iff.1 h0
    subst e
    have h1 := AnyF.slices_SortFunc_none (P := Tryd.prog) { Tryd.sfA with } none 0 (.func (.func 34) #[] #[.pointer (some ⟨bx, 0, none⟩)]) w
    refine Calls.mono (P := Tryd.prog) (f := 33) h1 ?_
    rintro e w' ⟨rfl, rfl⟩
    exact ⟨rfl, [], .refl _, List.Pairwise.nil, h, grownRefl _ _⟩
  rw [List.length_map] at hn ht hlen ⊢
  rw [Nat.mul_one] at ht hsz
  have hRl := (Array.getElem?_eq_some_iff.1 hg).1
  have hM : Mem w R Tin cur.toList := by unfold Mem; rw [hg]
  have hH : Go.Sort.Holds encI w R 0 L.toArray := by
    intro j hj
    rw [List.size_toArray] at hj
    refine ⟨?_, hM.frozen _⟩
    rw [hM.cell, Nat.zero_add]
    have h1 : cur.toList[j]? = (L.map (iv ∘ (·.1)))[j]? := by rw [← ht, List.getElem?_take_of_lt hj]
    rw [h1, List.getElem?_map, List.getElem?_eq_getElem hj]
    simp [encI, hj]
  have n1 : k ≠ R := by
    intro e
    have h1 := hv.m
    rw [e] at h1
    unfold Mem at h1 hM
    rw [hM] at h1
    simp only [Option.some.injEq, Obj.cells.injEq] at h1
    exact absurd h1.2.1 (by decide)
  have n2 : bx ≠ R := by
    intro e
    have h1 := hbx
    rw [e] at h1
    unfold Mem at h1 hM
    rw [hM] at h1
    simp only [Option.some.injEq, Obj.cells.injEq] at h1
    exact absurd h1.2.1 (by decide)
  have n3 : R ≠ mb := mem_ne_map hM (MpS.block hv.t)
  have n4 : R ≠ bb := mem_ne_map hM (MpS.block hv.u)
  have hcm : CmpLays1 Tryd.prog 34 #[.pointer (some ⟨bx, 0, none⟩)] encI (cfS M) R 0 L.toArray.size w := fun m os dk _ x y => by
    have hgr : w.grownBy (sortWorld encI w R 0 m dk os) (some R) := grown_sortWorld m dk os
    have hv2 : Bv (sortWorld encI w R 0 m dk os) k mb bb M B := hv.of (hgr.block k hv.m.lt (fun e => n1 (Option.some.inj e))) (hgr.block mb (MpS.lt hv.t) (fun e => n3 (Option.some.inj e).symm)) (hgr.block bb (MpS.lt hv.u) (fun e => n4 (Option.some.inj e).symm))
    have hb2 : Mem (sortWorld encI w R 0 m dk os) bx Tbp [bpV k] := (hgr.block bx hbx.lt (fun e => n2 (Option.some.inj e))).trans hbx
    exact rsort1_any hv2 (hb2.cell 0) hb2.lt x.2 y.2
  have hk := Any.slices_SortFunc Tryd.sfA encI one_encI (cfS M) (swoS M) 34 #[.pointer (some ⟨bx, 0, none⟩)] R 0 cap L.toArray w (enters_of Tryd.func34 (by kernel_rfl) rfl) hcm hH hRl (by rw [List.size_toArray]; omega)
  rw [List.size_toArray] at hk
  refine Calls.mono (P := Tryd.prog) (f := 33) hk ?_
  rintro e w' ⟨rfl, d', n, os, hperm, hsort, rfl⟩
  have hs : d'.size = L.length := by rw [hperm.1, List.size_toArray]
  have hpm : d'.toList.Perm L := by
    have h3 := hperm.2.2
    rw [← hs] at h3
    have e1 : d'.extract 0 d'.size = d' := by simp
    have e2 : L.toArray.extract 0 d'.size = L.toArray := by rw [hs]; simp
    rw [e1, e2] at h3
    exact h3
  have hgm : (sortWorld encI w R 0 n d' os).heap[R]? = some (.cells (putCells encI 0 d' cur) Tin (0, 0)) := by
    show (_ ++ os)[R]? = _
    rw [Array.getElem?_append_left (by
      show R < (putRow encI (Sort.ahead w n) R 0 d').heap.size
      have hs : (putRow encI (Sort.ahead w n) R 0 d').heap.size = w.heap.size := by simp [putRow, mapBlock, Sort.ahead]
      omega)]
    show (w.heap.modify R _)[R]? = _
    rw [Array.getElem?_modify, if_pos rfl, hg]
    rfl
  refine ⟨rfl, d'.toList.map (·.1), hpm.map _, ?_, ⟨?_, ?_⟩, grown_sortWorld n d' os⟩
  · refine List.pairwise_map.2 (List.pairwise_iff_getElem.2 fun i j hi hj hij => ?_)
    rw [Array.length_toList] at hi hj
    have h4 := hsort i j (Nat.zero_le _) hij (by rw [← hs]; exact hj)
    have e1 : d'[j]! = d'[j] := by simp [hj]
    have e2 : d'[i]! = d'[i] := by simp [hi]
    rw [e1, e2] at h4
    rw [← ltOf_cfS]
    simp only [Array.getElem_toList, h4]
    simp
  · simp [hs]
  · have hll : ((d'.toList.map (·.1)).map iv).length = L.length := by rw [List.length_map, List.length_map, Array.length_toList, hs]
    refine .inr ⟨R, cap, putCells encI 0 d' cur, by rw [hll], hbase, hgm, by rw [hll]; exact hn, hmx, by simp [putCells, hsz], ?_⟩
    rw [hll, Nat.mul_one]
    apply List.ext_getElem?
    intro i
    by_cases hi : i < L.length
    · rw [List.getElem?_take_of_lt hi, Array.getElem?_toList]
      have hj : i < d'.size := by omega
      simp only [putCells, Array.getElem?_mapIdx]
      rw [Array.getElem?_eq_getElem (by omega), Option.map_some, if_pos ⟨Nat.zero_le _, by simpa using hj⟩, Nat.sub_zero]
      have e1 : d'[i]! = d'[i] := by simp [hj]
      rw [e1]
      simp [encI, hj]
    · rw [List.getElem?_eq_none (by rw [List.length_take]; omega), List.getElem?_eq_none (by omega)]
end
end Go.Proofs.YtblfekecmahagaaDoor

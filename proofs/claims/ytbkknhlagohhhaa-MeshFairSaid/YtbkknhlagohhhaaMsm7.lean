/-
  Mesh: Take.
-/
import Derived.Test.YtbkknhlagohhhaaMsm6
namespace Go.Proofs.Ytbkknhlagohhhaa
open Go.RowKit Crv

abbrev Tpk : TypeId := 65
theorem resultsCellTmpM {P : Program} {fn : Func} {p u : Tmp} {ty : TypeId} {w : World} {g : Nat} {t : TypeId} {cs : List Value} (hm : Mem w g t cs) (h : fn.results = #[.cell p ty, .tmp u]) (tmps : Array Value) (d : TypeDesc)
    (hp : tmps.getD p undef = .pointer (some ⟨g, 0, none⟩)) (hu : P.underlying ty = some d) (hd : (match d with | .struct _ | .array _ _ => true | _ => false) = true) (hi : (P.info? ty).map (·.size) = some cs.length) :
    (results fn tmps).run P w = .ok (.tuple #[.agg cs.toArray, tmps.getD u undef]) w := by
  rw [results_cell_tmp h tmps P w, hp]
  simp [asAddr, run_loadVar_row w g t ty cs.toArray (0, 0) d hm hu hd (by simpa using hi)]
/-- What Take answers, as a packet's two cells. -/
def pkL (o : Option (Nat × List UInt8)) : List Value := [.int .i64 ((o.map Prod.fst).getD 0 : Nat), tx ((o.map Prod.snd).getD [])]
theorem sz_pk : (Try.prog.info? Tpk).map (·.size) = some 2 := by kernel_rfl
def takeI (x : MS) (to : Int) : MS × Option (Nat × List UInt8) := if isAdr x.n to = true then takeM x to.toNat else (x, none)
section
variable {W W' : World} {mb bb : Nat} {qb : Nat → Nat} {sv : Nat → Nat → Value} {x : MS} {F : Nat → Prop}
theorem Msh.setServedZ (h : Msh W mb bb qb sv x) (t0 f : Nat) (ht0 : t0 < x.n) (hf : f < x.n) : Msh (W.setCell ⟨bb, t0 * 2 + 1, none⟩ (.int .i64 (f : Int))) mb bb qb sv (serveM x t0 f) := by
  have := h.setServed t0 (f + 1) ht0 (by omega)
  rw [show (((f + 1 : Nat) : Int) - 1) = (f : Int) by omega] at this
  exact this
/-- What is new may turn: the mesh lies elsewhere. -/
theorem Mx.newRow {p : Nat} {cs : Array Value} (h : Mx W F mb x) (hp : ¬ F p) : Mx (W.setRow p cs) F mb x := h.of fun b _ hb => heap_setRow_other W p b cs (fun e => hp (e ▸ hb))
set_option maxHeartbeats 2000000 in
set_option maxRecDepth 100000 in
theorem take_any (hX : Mx W F mb x) (to : Int) : Calls Try.prog 36 #[.pointer (some ⟨mb, 0, none⟩), .int .i64 to] W fun e w' =>
    e = .returned (.tuple #[.agg (pkL (takeI x to).2).toArray, .bool (takeI x to).2.isSome]) ∧ Mx w' (And_new F W) mb (takeI x to).1 ∧ Fr F W w' := by
  obtain ⟨bb, qb, sv, h, hF⟩ := hX
  have hM0 := Mem.new W Tpk [.int .i64 0, tx []]
  have hB0 := belowSelf W (.cells #[.int .i64 0, tx []] Tpk)
  have h1 := h.below hB0
  have HA := Lib.hid (isAddress_any h1 to)
  have SZ := Lib.hid sz_pk
  have HM0 := Lib.hid hM0
  have HB0 := Lib.hid hB0
  have HE0 : Hid (Mx ((W.alloc (.cells #[.int .i64 0, tx []] Tpk)).setRow W.heap.size #[.int .i64 0, tx []]) (And_new F W) mb x ∧ Fr F W ((W.alloc (.cells #[.int .i64 0, tx []] Tpk)).setRow W.heap.size #[.int .i64 0, tx []])) := Lib.hid (by
    refine ⟨⟨bb, qb, sv, h1.of fun b hb => heap_setRow_other _ _ b _ (fun e => ?_), fun b hb => .inl (hF b hb)⟩, Fr.of_below (below_row hB0 (Nat.le_refl _) _)⟩
    have := h.lt hb
    omega)
  by_cases ha : isAdr x.n to = true
  · rw [ha] at HA
    obtain ⟨t, rfl, ht⟩ := isAdr_true ha
    have hc0 := h1.boxes
    have hti : (t : Int) < (x.n : Int) := by omega
    have HN := Lib.hid (next_any h1 t ht)
    cases hnx : nextM x t with
    | none =>
      have e : takeI x t = (x, none) := by simp [takeI, ha, takeM, hnx]
      rw [e]
      rw [hnx] at HN
      clear h h1 hF hB0 hM0 e ha hnx
      go_enter Try.func36, Try.ntmps36
      go_wp2_with fail
      refine HA.out.mono ?_
      rintro e w1 ⟨rfl, rfl⟩
      go_wp2_with fail
      refine HN.out.mono ?_
      rintro e w1 ⟨rfl, rfl⟩
      go_wp2_with (first
        | (refine wp_store_mem HM0.out [.int .i64 0, tx []] Tpk (.tmp 4) (.tmp 29) rfl rfl rfl rfl SZ.out rfl (by intro u hu; simp at hu; rcases hu with rfl | rfl <;> rfl) ?_)
        | fail)
      exact bodyPost_ret (resultsCellTmpM (HM0.out.setRow _) rfl _ _ rfl Try.underlying65 rfl SZ.out) rfl ⟨rfl, HE0.out⟩
    | some f =>
      obtain ⟨hf, hne⟩ := nextM_spec hnx
      have e : takeI x t = (dropM (serveM x t f) t f 0, some (f, (x.q t f).getD 0 [])) := by simp [takeI, ha, takeM, hnx]
      rw [e]
      rw [hnx] at HN
      have h2 := h1.setServedZ t f ht hf
      have HR := Lib.hid (remove_any (F := Foot mb bb qb sv x.n) ⟨bb, qb, sv, h2, fun b hb => hb⟩ t f 0)
      have hrm : removeM (serveM x t f) t f 0 = (dropM (serveM x t f) t f 0, (x.q t f).getD 0 [], true) := by
        have hl : 0 < (x.q t f).length := by
          cases hq : x.q t f with
          | nil => exact absurd hq hne
          | cons a r => simp
        have : hasM (serveM x t f) t f 0 = true := by
          unfold hasM waitsM
          simp [serveM, isAdr_nat ht, isAdr_nat hf, hl]
        unfold removeM
        rw [if_pos this]
        rfl
      rw [hrm] at HR
      have hs0 := h1.served t ht
      have hz0 := h1.tbb.frozen (t * 2 + 1)
      have HNF : Hid (¬ Foot mb bb qb sv x.n W.heap.size) := Lib.hid (fun hb => by have := h.lt hb; omega)
      have HFF := Lib.hid hF
      have HBB := Lib.hid (show bb < W.heap.size from h.tbb.lt)
      have HFB := Lib.hid (hF bb (.inr (.inl rfl)))
      obtain ⟨y, hy⟩ : ∃ y, y = (x.q t f).getD 0 [] := ⟨_, rfl⟩
      rw [← hy] at HR ⊢
      obtain ⟨z, hz⟩ : ∃ z, z = dropM (serveM x t f) t f 0 := ⟨_, rfl⟩
      rw [← hz] at HR ⊢
      clear h h1 h2 hF hB0 hM0 e ha hnx hrm hy hz
      go_enter Try.func36, Try.ntmps36
      go_wp2_with fail
      refine HA.out.mono ?_
      rintro e w1 ⟨rfl, rfl⟩
      go_wp2_with fail
      refine HN.out.mono ?_
      rintro e w1 ⟨rfl, rfl⟩
      go_wp2_with fail
      refine HR.out.mono ?_
      rintro e w3 ⟨rfl, hx3, hf3⟩
      have hlt3 : W.heap.size < ((W.alloc (.cells #[.int .i64 0, tx []] Tpk)).setCell ⟨bb, t * 2 + 1, none⟩ (.int .i64 (f : Int))).heap.size := by
        simp [World.setCell]
      have hm3 : Mem w3 W.heap.size Tpk [.int .i64 0, tx []] := (hf3.block W.heap.size hlt3 HNF.out).trans (HM0.out.other (p := ⟨bb, t * 2 + 1, none⟩) (by have := HBB.out; simp only; omega) _)
      have HM3 := Lib.hid hm3
      have HX3 := Lib.hid hx3
      have HF3 := Lib.hid hf3
      have HLT := Lib.hid hlt3
      clear hm3 hx3 hf3 hlt3
      go_wp2_with (first
        | (refine wp_store_mem HM3.out [.int .i64 (f : Int), tx y] Tpk (.tmp 4) (.tmp 43) rfl rfl rfl rfl SZ.out rfl (by intro u hu; simp at hu; rcases hu with rfl | rfl <;> rfl) ?_)
        | fail)
      refine bodyPost_ret (resultsCellTmpM (HM3.out.setRow _) rfl _ _ rfl Try.underlying65 rfl SZ.out) rfl ⟨rfl, ?_, ?_⟩
      · refine (HX3.out.newRow (fun hb => ?_)).mono (fun b _ hb => ?_)
        · rcases hb with hb | hb
          · exact HNF.out hb
          · have := HLT.out
            omega
        · rcases hb with hb | hb
          · exact .inl (HFF.out b hb)
          · have := HLT.out
            exact .inr (by omega)
      · have f1 : Fr F W ((W.alloc (.cells #[.int .i64 0, tx []] Tpk)).setCell ⟨bb, t * 2 + 1, none⟩ (.int .i64 (f : Int))) := (Fr.of_below HB0.out).trans (Fr.set (F := F) ⟨bb, t * 2 + 1, none⟩ _ HFB.out) (fun i hi => .inl hi)
        have f2 := f1.trans HF3.out (fun i hi => .inl (HFF.out i hi))
        refine f2.trans (F' := fun b => b = W.heap.size) ⟨rfl, rfl, rfl, by simp [World.setRow], fun k _ hk => heap_setRow_other w3 _ k _ hk⟩ (fun i hi => .inr (by omega))
  · have ha' : isAdr x.n to = false := by simpa using ha
    have e : takeI x to = (x, none) := by simp [takeI, ha']
    rw [e]
    rw [ha'] at HA
    clear h h1 hF hB0 hM0 e ha ha'
    go_enter Try.func36, Try.ntmps36
    go_wp2_with fail
    refine HA.out.mono ?_
    rintro e w1 ⟨rfl, rfl⟩
    go_wp2_with (first
      | (refine wp_store_mem HM0.out [.int .i64 0, tx []] Tpk (.tmp 4) (.tmp 15) rfl rfl rfl rfl SZ.out rfl (by intro u hu; simp at hu; rcases hu with rfl | rfl <;> rfl) ?_)
      | fail)
    exact bodyPost_ret (resultsCellTmpM (HM0.out.setRow _) rfl _ _ rfl Try.underlying65 rfl SZ.out) rfl ⟨rfl, HE0.out⟩
end
end Go.Proofs.Ytbkknhlagohhhaa

/-
  Several texts in one: their sentences stand at their heads.
-/
import Derived.Test.YtjdhcanblpifcaaDoorRng
import Derived.Test.YtjdhcanblpifcaaDoorBrg
/-
  A range over a function whose iterator keeps state in cells of its own, and whose loop variables lie in memory: each round begins with a block of its own.
-/
namespace Crv
open Go Go.RowKit

section
variable {F : Fence} {n : Nat} {P : Program} {α : Type}
theorem range_by2 {g : Operand} {ps : Array Tmp} {assign body : Code} {Q : Exit → Act → World → Prop} {a : Act} {w : World}
    (hro : F.round = none) (h1 : 1 ≤ n) {gf : Nat} {lb : Array Value} (hg : a.eval g = .func (.func gf) #[] lb) (hFg : F.fn gf) (eg : ∀ args w, (callFunc gf args).run P w = .ok (.enter gf args) w)
    {encs : α → Array Value} {St Kp : World → World → Prop} {full : List α} (hseq : SeqBy F (n - 1) P gf lb encs St Kp full w)
    (hSt : ∀ A B, St A B → KeepsFrom w.heap.size A B)
    (hKt : ∀ A B C, Kp A B → Kp B C → Kp A C) (hKb : ∀ (W : World) (l : Nat) (o o' : Obj), w.heap.size ≤ l → W.heap[l]? = some o → o.isCells = false → Kp W (W.putObj l o')) (hps : ∀ x, (encs x).size = ps.size)
    (I : List α → World → Prop) (Ix : Code → List α → World → Prop) (hI : OwnFrom w.heap.size I) (hIS : ∀ s A B, I s A → St A B → I s B) (hIx : ∀ c, OwnFrom w.heap.size (Ix c)) (h0 : I [] w) (a1 : α → Nat → Act) (I2 : List α → α → Nat → World → Prop) (hI2 : ∀ pre x b, OwnFrom w.heap.size (fun (_ : List α) W => I2 pre x b W)) (hKa : ∀ pre A B, I pre A → Below A.heap.size A B → Kp A B)
    (hassign : ∀ (l : Nat) (pre : List α) (x : α) (W : World) (K : Act → World → Prop), I pre W → pre ++ [x] <+: full → (∀ W', Below W.heap.size W W' → I2 pre x W.heap.size W' → K (a1 x W.heap.size) W') →
      assign.wpIn (F.inRound l) (n - 1 - 1) P (Exit.then K (fun _ _ _ => False)) { tmps := (ps.zip (encs x)).foldl (fun t (p, v) => t.setIfInBounds p v) a.tmps, defers := [] } W)
    (hbody : ∀ (l : Nat) (pre : List α) (x : α) (b : Nat) (W : World), I2 pre x b W → pre ++ [x] <+: full → body.wpIn (F.inRound l) (n - 1 - 1) P (ownPostG w.heap.size Kp I Ix (pre ++ [x]) W) (a1 x b) W)
    (hdone : ∀ (D : Nat) (W : World), w.heap.size ≤ D → I full W → W.heap[D]? = some (.deferred (some [])) → Q .normal { a with defers := { target := .collected D, args := #[] } :: a.defers } W)
    (hstop : ∀ (D : Nat) (c : Code) (pre : List α) (W : World), w.heap.size ≤ D → pre <+: full → Ix c pre W → W.heap[D]? = some (.deferred (some [])) → c.wpIn F n P Q { a with defers := { target := .collected D, args := #[] } :: a.defers } W) :
    (Code.rangeFunc g ps assign body).wpIn F n P Q a w := by
  refine wpIn_rangeFunc fun fn hfn => ?_
  obtain ⟨D, hD⟩ : ∃ D, D = w.heap.size := ⟨_, rfl⟩
  obtain ⟨rc, hrc⟩ : ∃ rc, rc = recOf fn a.tmps ps assign body D := ⟨_, rfl⟩
  have hbook : Book D (rc .ready none) ((w.alloc (.deferred (some []))).alloc (.loop (rc .ready none))) := by
    subst hD
    refine ⟨?_, (Below.heap_alloc _ _ _ (by simp)).trans (World.alloc_heap_new w _)⟩
    have h := World.alloc_heap_new (w.alloc (.deferred (some []))) (.loop (rc .ready none))
    rwa [World.size_alloc] at h
  have hin : I [] ((w.alloc (.deferred (some []))).alloc (.loop (rc .ready none))) := hI.alloc _ (hI.alloc _ h0)
  have hbel : Below w.heap.size w ((w.alloc (.deferred (some []))).alloc (.loop (rc .ready none))) := ((Below.refl _ w).alloc (Nat.le_refl _) _).alloc (by simp) _
  have henter : (Instr.enterLoop fn a.tmps ps assign body F.round).run P w = .ok (D + 1, [{ target := .collected D, args := #[] }]) ((w.alloc (.deferred (some []))).alloc (.loop (rc .ready none))) := by
    rw [hro, hrc, hD]
    exact run_enterLoop_outer _ _ _ _ _
  obtain ⟨W1, hW1⟩ : ∃ W, W = (w.alloc (.deferred (some []))).alloc (.loop (rc .ready none)) := ⟨_, rfl⟩
  rw [← hW1] at hbook hin hbel henter
  clear hW1
  refine ⟨D + 1, [{ target := .collected D, args := #[] }], W1, { target := .fn (.func gf) lb, args := #[.func (.yield (D + 1)) #[] #[]] }, W1, gf, #[.func (.yield (D + 1)) #[] #[]] ++ lb, W1, henter, ?_, ?_, ?_, fun _ => h1, ?_⟩
  · simp only [resolve, hg]
    simp [go_sem]
  · intro f' hf'
    simp [Target.leads] at hf'
    subst hf'
    exact hFg
  · simp [invoke, go_sem, eg]
  have hround : ∀ (pre : List α) (x : α) (W : World), I pre W → Book D (rc .ready none) W → pre ++ [x] <+: full → YieldAt F (n - 1 - 1) P (D + 1) (encs x) W fun e W' =>
      (e = .returned (.bool true) ∧ (I (pre ++ [x]) W' ∧ Book D (rc .ready none) W') ∧ Kp W W') ∨ (e = .returned (.bool false) ∧ ∃ c, Ix c (pre ++ [x]) W' ∧ Book D (rc .done (some c)) W') := by
    intro pre x W hi hb hpre
    have hy := run_yield (P := P) (args := encs x) hb.1 (by rw [hrc]; exact hps x)
    rw [hrc] at hy
    refine ⟨fn, _, assign, body, hy, roundIn_of_wpIn hfn (hassign _ pre x W _ hi hpre (fun W' hbl hi' => ?_))⟩
    have hbk : Book D (rc .ready none) W' := hb.keep ⟨hbl.size, fun k o _ hk _ => (hbl.block k (Array.getElem?_eq_some_iff.1 hk).1).trans hk⟩
    have hka := hKa pre W W' hi hbl
    refine ⟨_, run_beginRound hbk.1 (by rw [hrc]; rfl), ?_⟩
    have hi2 := (hI2 pre x W.heap.size).putObj (s := []) (.loop { rc .ready none with state := .busy }) hi' (by omega) hbk.1 rfl
    have hk2 := hKt _ _ _ hka (hKb W' (D + 1) _ (.loop { rc .ready none with state := .busy }) (by omega) hbk.1 rfl)
    have hb2 := hbk.put (r' := { rc .ready none with state := .busy })
    refine wpIn_mono (hbody _ pre x _ _ hi2 hpre) ?_
    have hend : ∀ (jump : Option Code) (W3 : World), KeepsFrom w.heap.size (W'.putObj (D + 1) (.loop { rc .ready none with state := .busy })) W3 →
        (Instr.endRound (D + 1) jump).run P W3 = .ok (.bool jump.isNone) (W3.putObj (D + 1) (.loop (rc (if jump.isNone then .ready else .done) jump))) ∧ Book D { rc .ready none with state := .busy } W3 := fun jump W3 hk => by
      have hb3 := hb2.keep ⟨hk.size, fun k o hB h1 h2 => hk.same k o (by omega) h1 h2⟩
      refine ⟨?_, hb3⟩
      have h := run_endRound (P := P) jump hb3.1
      rw [hrc] at h ⊢
      exact h
    intro e a3 W3 hp
    cases e with
    | normal =>
      obtain ⟨hk3, hkp, hi3⟩ := hp
      obtain ⟨hr, hb3⟩ := hend none W3 hk3
      exact ⟨_, _, hr, .inl ⟨rfl, ⟨hI.putObj _ hi3 (by omega) hb3.1 rfl, hb3.put⟩, hKt _ _ _ (hKt _ _ _ hk2 hkp) (hKb _ _ _ _ (by omega) hb3.1 rfl)⟩⟩
    | ret =>
      obtain ⟨hr, hb3⟩ := hend (some .ret) W3 hp.1
      exact ⟨_, _, hr, .inr ⟨rfl, .ret, (hIx _).putObj _ hp.2 (by omega) hb3.1 rfl, hb3.put⟩⟩
    | exit id =>
      obtain ⟨hr, hb3⟩ := hend (some (.exit id)) W3 hp.1
      exact ⟨_, _, hr, .inr ⟨rfl, .exit id, (hIx _).putObj _ hp.2 (by omega) hb3.1 rfl, hb3.put⟩⟩
    | goto t =>
      obtain ⟨hr, hb3⟩ := hend (some (.goto t)) W3 hp.1
      exact ⟨_, _, hr, .inr ⟨rfl, .goto t, (hIx _).putObj _ hp.2 (by omega) hb3.1 rfl, hb3.put⟩⟩
    | panic _ => exact hp.elim
    | outgrown => exact hp.elim
  refine (hseq (D + 1) (fun pre W => I pre W ∧ Book D (rc .ready none) W) (fun pre W => ∃ c, Ix c pre W ∧ Book D (rc .done (some c)) W) W1 hbel
    (fun s A B hs hst => ⟨hIS s A B hs.1 hst, hs.2.keep (by rw [hD]; exact hSt A B hst)⟩) (fun pre x W hs hp => hround pre x W hs.1 hs.2 hp) ⟨hin, hbook⟩).mono ?_
  rintro e W2 ⟨⟨v, rfl⟩, ⟨hi, hb⟩ | ⟨pre, hpre, c, hi, hb⟩⟩
  · refine ⟨none, _, ?_, hdone D _ (by omega) (hI.putObj (.loop { rc .ready none with state := .exhausted }) hi (by omega) hb.1 rfl) (hb.put (r' := { rc .ready none with state := .exhausted })).2⟩
    have h := run_endLoop (P := P) hb.1 (by rw [hrc]; simp [recOf])
    rw [hrc] at h ⊢
    exact h
  · refine ⟨some c, _, ?_, hstop D c pre _ (by omega) hpre ((hIx c).putObj (.loop { rc .done (some c) with state := .exhausted }) hi (by omega) hb.1 rfl) (hb.put (r' := { rc .done (some c) with state := .exhausted })).2⟩
    have h := run_endLoop (P := P) hb.1 (by rw [hrc]; simp [recOf])
    rw [hrc] at h ⊢
    exact h
end
end Crv

/-
  In the wide fence a region goes as it does without one.
-/
namespace Crv
open Go Go.RowKit

section
variable {P : Program} {Q : Exit → Act → World → Prop} {ops : Array Oper} {a : Act} {w : World} {n : Nat}
theorem op_ofW {o : Oper} {K K' : Act → World → Prop} (hK : ∀ a w, K a w → K' a w) (hd : ∀ c, o.op ≠ .defer c) (h : o.wp P a w K Q) : o.wpIn Fence.wide n P a w K' Q := by
  refine ⟨fun f _ => trivial, ?_⟩
  rw [Oper.semAt_eq _ _ _ hd]
  unfold Oper.wp at h
  generalize (execOp a.eval o).run P w = r at *
  cases r with
  | ok nx w' =>
    cases nx with
    | value v => exact hK _ _ h
    | skip => exact hK _ _ h
    | defer d => exact hK _ _ h
    | enter f args =>
      refine ⟨fun hx => by simp [Fence.wide] at hx, ?_⟩
      refine CallsIn.mono (callsIn_wide.2 h) (fun e w'' hh => ?_)
      cases e with
      | returned v => exact hK _ _ hh
      | panicked c => exact hh
      | outgrown => exact hh
    | row row args =>
      refine ⟨fun hx => by simp [Fence.wide] at hx, ?_⟩
      intro c cs _
      obtain ⟨v, w'', hr, hs⟩ := h c cs
      exact ⟨v, w'', hK _ _ hr, stepsIn_wide.2 hs⟩
    | _ => exact h.elim
  | halt x w' => cases x <;> exact h
theorem list_ofW (hQ : ¬ LetsOut Q) : ∀ (rest : List Oper) (a : Act) (w : World), (∀ o ∈ rest, ∀ c, o.op ≠ .defer c) → wpList P ops Q rest a w → wpListIn Fence.wide n P ops Q rest a w
  | [], _, _, _, h => h
  | o :: rest, a, w, hd, h => by
    have ih := list_ofW hQ rest
    unfold wpList at h
    unfold wpListIn
    split at h
    · rename_i hw
      rw [if_pos hw]
      rcases h with h | h
      · exact op_ofW (fun a w hh => ih a w (fun o ho => hd o (by simp [ho])) hh) (hd o (by simp)) h
      · exact absurd h.2 hQ
    · rename_i hw
      rw [if_neg hw]
      exact ⟨fun _ _ => trivial, ih _ _ (fun o ho => hd o (by simp [ho])) h⟩
/-- A region inside a round, in the text's order. -/
theorem region_ofW {id : Nat} (hd : noDefer ops = true) (hQ : ¬ LetsOut Q) (h : wpList P ops Q ops.toList a w) : (Code.region id ops false).wpIn Fence.wide n P Q a w := by
  refine wpIn_region ?_
  have e := wpOpsIn_eq_wpListIn (F := Fence.wide) (n := n) (P := P) (ops := ops) (Q := Q) ops.toList 0 (fun j => by simp)
  rw [show List.range ops.size = List.range' 0 ops.toList.length from by rw [List.range_eq_range']; simp, e]
  exact list_ofW hQ _ _ _ (noDefer_spec hd) h
theorem regionL_ofW {id : Nat} {c : List Oper} (hd : noDefer c.toArray = true) (hQ : ¬ LetsOut Q) (h : wpList P c.toArray Q c a w) : (Code.region id c.toArray false).wpIn Fence.wide n P Q a w :=
  region_ofW hd hQ h
theorem any_ofW {md : Region.Mode} (hd : noDefer ops = true) (hQ : ¬ LetsOut Q) : ∀ (fuel : Nat) (listed : Array Bool) (a : Act) (w : World), wpAny P md ops Q fuel listed a w → wpAnyIn Fence.wide n P md ops Q fuel listed a w
  | 0, _, _, _, h => h
  | fuel + 1, listed, a, w, h => by
    refine ⟨h.1, fun i hi => ?_⟩
    have h2 := h.2 i hi
    have ih := any_ofW (md := md) hd hQ fuel (listed.setIfInBounds i true)
    unfold wpOp at h2
    unfold wpOpIn
    cases ho : ops[i]? with
    | none =>
      rw [ho] at h2
      exact ih _ _ h2
    | some o =>
      rw [ho] at h2
      simp only at h2 ⊢
      split at h2
      · rename_i hw
        rw [if_pos hw]
        rcases h2 with h2 | h2
        · exact op_ofW (fun a w hh => ih a w hh) (noDefer_spec hd o (by simpa using Array.mem_of_getElem? ho)) h2
        · exact absurd h2.2 hQ
      · rename_i hw
        rw [if_neg hw]
        exact ⟨fun _ _ => trivial, ih _ _ h2⟩
/-- A region inside a round that draws its order. -/
theorem region_held_ofW {id : Nat} {S : World → Prop} (hd : noDefer ops = true) (hQ : ¬ LetsOut Q) (hm : P.follows .mixedOrders = true) (hS : S w.drew)
    (h : S w.drew → wpAnyH P .any ops Q S ops.size (Array.replicate ops.size false) a w.drew) : (Code.region id ops true).wpIn Fence.wide n P Q a w :=
  wpIn_region_any hm (any_ofW hd hQ _ _ _ _ (wpAny_of_held _ _ _ _ (h hS)))
end
end Crv

/-
  Package provider: clean, Drop (a range over a map of maps by names, that deletes).
-/
import Derived.Test.YtilmidddhkofaaaPm4
namespace Go.Proofs.Ytilmidddhkofaaa
open Go.RowKit Go.Maps Crv

/-- Where a map answers the same, whatever is asked to stand in: the entry is there. -/
theorem atKey_all {κ ν : Type} [DecidableEq κ] {e : Enc κ ν} {l : List (κ × ν)} {kl : Lit} {d : DataW Unit} (h : ∀ zd, (DataW.map (e.enc l)).atKey kl zd = d) : ∃ p ∈ l, e.ek p.1 = kl ∧ e.ev p.2 = d := by
  cases hf : (e.enc l).find? (fun p => p.1.sameKey kl) with
  | none =>
    have h1 : ∀ zd, zd = d := fun zd => by
      have := h zd
      unfold DataW.atKey at this
      simp only [hf] at this
      exact this
    have h2 : (DataW.nil : DataW Unit) = .lit (.bool true) := (h1 _).trans (h1 _).symm
    cases h2
  | some q =>
    have h1 := h .nil
    unfold DataW.atKey at h1
    simp only [hf] at h1
    have hm := List.mem_of_find?_eq_some hf
    have hs := List.find?_some hf
    obtain ⟨p, hp, rfl⟩ := List.mem_map.1 hm
    exact ⟨p, hp, WideAt.sameKey_eq hs, h1⟩
/-- A range over a map of maps by names under way. -/
abbrev RgN (W : World) (g r n : Nat) (l : List (List UInt8 × Nat)) (left : Lit → Bool) (cnt : Nat) : Prop := W.ranges Try.prog TI mapElem g r n (.map (eN.enc l)) left cnt
section
variable {W W' : World} {g r n cnt : Nat} {l : List (List UInt8 × Nat)} {left : Lit → Bool}
theorem RgN.next (h : RgN W g r n l left cnt) (hl : ∀ p ∈ l, p.1.length = 32) (ty : TypeId) :
    ((∀ kl, left kl = false) ∧ (Instr.next (.pointer (some ⟨r, 0, none⟩)) false ty).run Try.prog W = .ok (.tuple #[.bool false]) W) ∨
    ∃ x b w' cnt', (x, b) ∈ l ∧ left (eN.ek x) = true ∧ (Instr.next (.pointer (some ⟨r, 0, none⟩)) false ty).run Try.prog W = .ok (.tuple #[.bool true, nmV x, .map (some b)]) w' ∧
      RgN w' g r n l (fun z => left z && !z.sameKey (eN.ek x)) cnt' ∧ cnt' < cnt ∧ W.grownBy w' (some r) ∧ w'.heap.size = W.heap.size ∧ (Instr.entry (.pointer (some ⟨r, 0, none⟩))).run Try.prog w' = .ok (.tuple #[nmV x, .map (some b)]) w' := by
  rcases World.ranges.next h keyedN ty with ⟨_, h1, h2⟩ | ⟨key, v, kl, y, w', cnt', hkey, hlk, hv, hat, hrun, hrg, hlt, hgr, hsz, hen⟩
  · exact .inl ⟨h1, h2⟩
  · obtain ⟨⟨x, b⟩, hp, he, hd⟩ := atKey_all hat
    have hx := hl _ hp
    have hk : key = nmV x := keyedN.inj (l := kl) hkey (by rw [keyN_of x hx, ← he]; rfl)
    have hvb : v = .map (some b) := mapElem_inv (o := some b) (ps := y.2) (by rw [hv]; simp only [Option.map_some, Option.getD_some, Option.some.injEq]; rw [hd])
    subst hk hvb he
    exact .inr ⟨x, b, w', cnt', hp, hlk, hrun, hrg, hlt, hgr, hsz, hen⟩
theorem wp_next_n {ops : Array Oper} {rest : List Oper} {o : Oper} {a : Act} {Q : Exit → Act → World → Prop} (h : RgN W g r n l left cnt) (hl : ∀ p ∈ l, p.1.length = 32) (it : Operand) (hg : o.guard = none) (hop : o.op = Op.next it false) (hit : a.eval it = .pointer (some ⟨r, 0, none⟩))
    (hDone : (∀ kl, left kl = false) → wpList Try.prog ops Q rest (a.put o.dst (.tuple #[.bool false])) W)
    (hMore : ∀ (x : List UInt8) (b : Nat) (w' : World) (cnt' : Nat), (x, b) ∈ l → left (eN.ek x) = true → RgN w' g r n l (fun z => left z && !z.sameKey (eN.ek x)) cnt' → cnt' < cnt → W.grownBy w' (some r) → w'.heap.size = W.heap.size →
      (Instr.entry (.pointer (some ⟨r, 0, none⟩))).run Try.prog w' = .ok (.tuple #[nmV x, .map (some b)]) w' → wpList Try.prog ops Q rest (a.put o.dst (.tuple #[.bool true, nmV x, .map (some b)])) w') : wpList Try.prog ops Q (o :: rest) a W := by
  refine wpList_plain hg fun K' hK' => ?_
  unfold Oper.wp
  rcases h.next hl o.type with ⟨h1, hrun⟩ | ⟨x, b, w', cnt', hp, hlk, hrun, hrg, hlt, hgr, hsz, hen⟩
  · simp [execOp, hop, hit, hrun, Result.andThen]
    exact hK' _ _ (hDone h1)
  · simp [execOp, hop, hit, hrun, Result.andThen]
    exact hK' _ _ (hMore x b w' cnt' hp hlk hrg hlt hgr hsz hen)
end
/-- A whole row stored, what follows said of any world that is as the store leaves it. -/
theorem wp_store_gen {P : Program} {ops : Array Oper} {rest : List Oper} {o : Oper} {a : Act} {w : World} {Q : Exit → Act → World → Prop} {g : Nat} {t : TypeId} {old : List Value} (hm : Mem w g t old) (cs : List Value) (ty : TypeId) (x y : Operand)
    (hgd : o.guard = none) (ho : o.op = .store ty x y) (hx : a.eval x = .pointer (some ⟨g, 0, none⟩)) (hy : a.eval y = .agg cs.toArray)
    (hi : (P.info? ty).map (·.size) = some cs.length) (hl : old.length = cs.length) (h1 : ∀ v ∈ cs, v.oneCell' = true)
    (h : ∀ W, Mem W g t cs → w.grownBy W (some g) → W.heap.size = w.heap.size → wpList P ops Q rest (a.put o.dst undef) W) : wpList P ops Q (o :: rest) a w :=
  wp_store_mem hm cs ty x y hgd ho hx hy hi hl h1 (h _ (hm.setRow cs) (grown_row (grownRefl w _) cs.toArray) (by simp [World.setRow]))
/-- The rows that are not yet passed, or have an address. -/
def keepT (T : PT) (left : Lit → Bool) : PT := T.filter fun p => left (eN.ek p.1) || !p.2.2.isEmpty
theorem keepT_start (T : PT) : keepT T (Maps.has (.map (eN.enc (nb T)))) = T := by
  unfold keepT
  rw [List.filter_eq_self]
  intro p hp
  have : Maps.has (DataW.map (eN.enc (nb T))) (eN.ek p.1) = true := by
    rw [Enc.has]
    cases hg : getK p.1 (nb T) with
    | none => exact absurd rfl ((getK_none p.1).1 hg (p.1, p.2.1) (List.mem_map.2 ⟨p, hp, rfl⟩))
    | some v => rfl
  rw [this]
  rfl
theorem keepT_end {T : PT} {left : Lit → Bool} (h : ∀ k, left k = false) : keepT T left = T.filter fun p => !p.2.2.isEmpty := by
  unfold keepT
  refine List.filter_congr fun p _ => ?_
  rw [h]
  rfl
theorem keepT_mem {T : PT} {left : Lit → Bool} {x : List UInt8} {b : Nat} (h : (x, b) ∈ nb (keepT T left)) : ∃ l, (x, b, l) ∈ T := by
  obtain ⟨p, hp, e⟩ := List.mem_map.1 h
  injection e with e1 e2
  subst e1 e2
  exact ⟨p.2.2, (List.mem_filter.1 hp).1⟩
theorem keepT_stays {T : PT} (hu : Uniq T) {left : Lit → Bool} {x : List UInt8} {b : Nat} {l : List (Int × Int)} (hm : (x, b, l) ∈ T) (hl : l.isEmpty = false) : keepT T left = keepT T fun z => left z && !z.sameKey (eN.ek x) := by
  unfold keepT
  refine List.filter_congr fun p hp => ?_
  by_cases he : p.1 = x
  · have h1 := (mem_getK hu x (b, l)).2 hm
    have h2 := (mem_getK hu x p.2).2 (by rw [← he]; exact hp)
    rw [h1] at h2
    injection h2 with h2
    rw [← h2, hl]
    simp
  · simp [Enc.same, he]
theorem keepT_goes {T : PT} (hu : Uniq T) {left : Lit → Bool} {x : List UInt8} {b : Nat} {l : List (Int × Int)} (hm : (x, b, l) ∈ T) (hl : l.isEmpty = true) : delK x (keepT T left) = keepT T fun z => left z && !z.sameKey (eN.ek x) := by
  unfold keepT delK
  rw [List.filter_filter]
  refine List.filter_congr fun p hp => ?_
  by_cases he : p.1 = x
  · have h1 := (mem_getK hu x (b, l)).2 hm
    have h2 := (mem_getK hu x p.2).2 (by rw [← he]; exact hp)
    rw [h1] at h2
    injection h2 with h2
    rw [← h2, hl]
    simp [Enc.same, he]
  · simp [Enc.same, he]
section
variable {W W' : World} {t g : Nat} {T : PT}
/-- Some rows are gone. -/
theorem Ptb.filt (h : Ptb W t g T) (p : List UInt8 × Nat × List (Int × Int) → Bool) (hg : W.grownBy W' (some g)) (ho : MpN W' g (nb (T.filter p))) : Ptb W' t g (T.filter p) :=
  ⟨h.tag.grown hg (fun e => h.tg (by injection e)), ho, fun r hr => (h.inn r (List.mem_filter.1 hr).1).grown hg (fun e => h.ne r (List.mem_filter.1 hr).1 (by injection e)),
    fun r hr => h.len r (List.mem_filter.1 hr).1, fun r hr => h.ne r (List.mem_filter.1 hr).1, h.one.filter _, Nat.le_trans (List.length_filter_le _ _) h.few, fun r hr => h.few8 r (List.mem_filter.1 hr).1, fun r hr => h.val r (List.mem_filter.1 hr).1⟩
set_option maxRecDepth 100000 in
theorem clean1_any {b : Nat} {l : List (Int × Int)} (x : List UInt8) (h : MpI W b l) : Calls Try.prog 31 #[nmV x, .map (some b)] W fun e w' => e = .returned (.bool l.isEmpty) ∧ Below W.heap.size W w' := by
  have hln := MpI.len (h.grown (grownOfBelow (row := none) (belowSelf W (.cells (x.map byteV).toArray TI))) (by simp))
  obtain ⟨L, hL⟩ : ∃ L, L = l.length := ⟨_, rfl⟩
  have HE := Lib.hid (show ((L : Int) == 0) = l.isEmpty by rw [hL]; cases l <;> simp; omega)
  rw [← hL] at hln
  clear h hL
  go_enter Try.func31, Try.ntmps31
  go_wp2_with fail
  go_ret
  refine ⟨?_, belowSelf W _⟩
  have := HE.out
  simp [this]
set_option maxHeartbeats 2000000 in
set_option maxRecDepth 100000 in
attribute [local go_sem ↓] ld_id in
theorem outDel_any (h : Ptb W t g T) : Calls Try.prog 30 #[.map (some g), .func (.func 31) #[] #[]] W fun e w' =>
    e = .returned (.tuple #[]) ∧ MpN w' g (nb (T.filter fun p => !p.2.2.isEmpty)) ∧ W.grownBy w' (some g) := by
  obtain ⟨W2, hrg, hrs, hgr, hsz⟩ := World.ownsMap.range h.out keyedN Try.underlying55
  have HRS := Lib.hid (show RgN W2 g W.heap.size (nb T).length (nb T) (Maps.has (.map (eN.enc (nb T)))) (Maps.size (DataW.map (eN.enc (nb T)))) from hrs)
  have HG2 := Lib.hid (show W.grownBy W2 (some g) from hgr.but _)
  have HT := Lib.hid h
  have HU := Lib.hid h.uniq
  have HSZ := Lib.hid (show W.heap.size ≤ W2.heap.size from hgr.size)
  clear h hrs hgr hsz
  go_enter Try.func30, Try.ntmps30
  go_wp2_with fail
  clear hrg
  go_loopw [8] (fun _ wr => ∃ (left : Lit → Bool) (cnt : Nat), Hid (RgN wr g W.heap.size (nb T).length (nb (keepT T left)) left cnt) ∧ Hid (W.grownBy wr (some g)) ∧ Hid (W.heap.size < wr.heap.size)) (fun _ wr => wr.rangeLeft g W.heap.size)
  case atStart => exact ⟨_, _, by rw [keepT_start]; exact HRS, HG2, Lib.hid (World.ranges.lt HRS.out)⟩
  case round =>
    obtain ⟨left, cnt, HRG, HG, HLT⟩ := hrel
    clear HRS HG2
    go_wp2_with (first
      | (at_next; refine wp_next_n HRG.out (fun p hp => by obtain ⟨l, hl⟩ := keepT_mem (x := p.1) (b := p.2) hp; exact HT.out.len _ hl) (.tmp 7) rfl rfl rfl ?_ ?_)
      | fail)
    · intro hl0
      have HE := Lib.hid (keepT_end (T := T) hl0)
      clear hl0
      go_wp2_with fail
      go_end0
      exact ⟨rfl, by rw [← HE.out]; exact MpS.tight (World.ranges.owns HRG.out), HG.out⟩
    · intro x b w1 cnt1 hxb hlk hrg1 hlt1 hg1 hs1 hen
      have HRG1 := Lib.hid hrg1
      have HLT1 := Lib.hid hlt1
      have HLK := Lib.hid hlk
      have HNE : g ≠ W.heap.size := fun e => by have := HT.out.out.lt; omega
      have HG1 := Lib.hid (show W.grownBy w1 (some g) from HG.out.andThen hg1 (fun j e => .inl (by injection e with e; omega)))
      have HSZ1 := Lib.hid (show W.heap.size < w1.heap.size by rw [hs1]; exact HLT.out)
      obtain ⟨l, hl⟩ := keepT_mem hxb
      have HX := Lib.hid (show x.length = 32 from HT.out.len _ hl)
      have HML := Lib.hid hl
      clear hrg1 hlt1 hlk hg1 hs1 hxb hl
      have HLI := Lib.hid (show b ≠ g ∧ b < W.heap.size ∧ MpI w1 b l from ⟨HT.out.ne _ HML.out, (HT.out.inn _ HML.out).lt, (HT.out.inn _ HML.out).grown HG1.out (fun e => HT.out.ne _ HML.out (by injection e))⟩)
      have HM2 := Lib.hid (show Mem (w1.alloc (.cells zs32 TI)) w1.heap.size TI (List.replicate 32 (byteV 0)) from Mem.new w1 TI (List.replicate 32 (byteV 0)))
      have SZ := Lib.hid (sz_id x HX.out)
      have HZ := Lib.hid (show (List.replicate 32 (byteV 0)).length = (x.map byteV).length by rw [List.length_map, HX.out]; rfl)
      have ONE := Lib.hid (oneBytes x)
      go_wp2_with (first
        | (refine wp_store_gen HM2.out (x.map byteV) TI (.tmp 4) (.tmp 11) rfl rfl rfl rfl SZ.out HZ.out ONE.out ?_
           intro w3 hm3 hg3 hs3
           have hld := ld_id_at hm3 HX.out
           have HM3 := Lib.hid hm3
           have HB3 := Lib.hid (show Below w1.heap.size w1 w3 from belowNew (belowSelf w1 _) hg3 (Nat.le_refl _))
           clear hm3 hg3 hs3)
        | fail)
      have HC := Lib.hid (clean1_any x (HLI.out.2.2.grown (grownOfBelow (row := none) HB3.out) (by simp)))
      clear hld
      refine HC.out.mono ?_
      rintro e w4 ⟨rfl, hb4⟩
      have HB4 := Lib.hid (belowThen HB3.out hb4)
      have HM4 := Lib.hid (HM3.out.below hb4 HM3.out.lt)
      have HG4 := Lib.hid (HG1.out.andThen (grownOfBelow (row := none) HB4.out) (fun j e => by cases e))
      have HRG4 := Lib.hid (World.ranges.kept HRG1.out (grownOfBelow (row := none) HB4.out) (by simp) (by simp))
      have HSZ4 := Lib.hid (show W.heap.size < w4.heap.size from Nat.lt_of_lt_of_le HSZ1.out HB4.out.size)
      clear hb4 hen
      cases hE : l.isEmpty with
      | true =>
        have HGO := Lib.hid (keepT_goes HU.out HML.out hE (left := left))
        have HKE := Lib.hid (keyN_of x HX.out)
        clear hE
        have hld4 := ld_id_at HM4.out HX.out
        go_wp2_with (first
          | (at_delete; refine wpList_delete_ranges _ rfl (.tmp 17) (.tmp 18) Tmim TI rfl Tmii keyedN Try.underlying55 mapElem g W.heap.size (nb T).length _ _ _ rfl HRG4.out (nmV x) (.string x) rfl HKE.out ?_
             intro w5 cnt5 hrg5 hle5 hturn5
             have HRG5 := Lib.hid hrg5
             have HLE5 := Lib.hid hle5
             have HG5 := Lib.hid (show W.grownBy w5 (some g) from HG4.out.andThen hturn5.grown (fun j e => .inr (by rw [e])))
             have HSZ5 := Lib.hid (show W.heap.size < w5.heap.size from Nat.lt_of_lt_of_le HSZ4.out hturn5.grown.size)
             clear hrg5 hle5 hturn5)
          | fail)
        simp only [Act.put]
        go_roundw
        case rel =>
          refine ⟨fun z => left z && !z.sameKey (eN.ek x), cnt5, Lib.hid ?_, HG5, HSZ5⟩
          have h5 := HRG5.out
          rw [show (Lit.string x) = eN.ek x from rfl, Enc.del, strike_twice] at h5
          rw [← HGO.out]
          have e1 : nb (delK x (keepT T left)) = delK x (nb (keepT T left)) := delK_map (fun q : Nat × List (Int × Int) => q.1) x (keepT T left)
          rw [e1]
          exact h5
        case measure => rw [HRG5.out.left_eq, HRG.out.left_eq]; have h1 := HLE5.out; have h2 := HLT1.out; omega
      | false =>
        have HST := Lib.hid (keepT_stays HU.out HML.out hE (left := left))
        clear hE
        go_wp2_with fail
        go_roundw
        case rel => exact ⟨_, cnt1, by rw [← HST.out]; exact HRG4, HG4, HSZ4⟩
        case measure => rw [HRG4.out.left_eq, HRG.out.left_eq]; exact HLT1.out
theorem cell0 (h : Ptb W t g T) : W.cell? ⟨t, 0, none⟩ = some (.map (some g)) := h.tag.cell 0
def cleanP (T : PT) : PT := T.filter fun p => !p.2.2.isEmpty
set_option maxRecDepth 100000 in
theorem clean_any (h : Ptb W t g T) : Calls Try.prog 23 #[.pointer (some ⟨t, 0, none⟩)] W fun e w' => e = .returned (.tuple #[]) ∧ Ptb w' t g (cleanP T) ∧ W.grownBy w' (some g) := by
  have hc := cell0 h
  have HD := Lib.hid (outDel_any h)
  have HT := Lib.hid h
  clear h
  go_enter Try.func23, Try.ntmps23
  go_wp2_with fail
  refine HD.out.mono ?_
  rintro e w1 ⟨rfl, ho, hg⟩
  have HE := Lib.hid (HT.out.filt _ hg ho)
  have HG := Lib.hid hg
  clear ho hg hc
  go_wp2_with fail
  go_end0
  exact ⟨rfl, HE.out, HG.out⟩
end
end Go.Proofs.Ytilmidddhkofaaa

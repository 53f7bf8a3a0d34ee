/-
  Package provider: Expire.
-/
import Derived.Test.YtilmidddhkofaaaPm6
namespace Go.Proofs.Ytilmidddhkofaaa
open Go.RowKit Go.Maps Go.Shelf Crv

/-- The addresses that are left behind a tick. -/
def aftA (now : Int) (l : List (Int × Int)) : List (Int × Int) := l.filter fun p => decide (now < p.2)
def pdE (now : Int) (_ : Lit) (d : DataW Unit) : Bool := match d with | .lit (.int _ u) => decide (u ≤ now) | _ => false
theorem aftA_data (now : Int) (l : List (Int × Int)) : Lib.deleteFuncD (pdE now) (.map (eI.enc l)) = .map (eI.enc (aftA now l)) := by
  unfold Lib.deleteFuncD Enc.enc aftA
  simp only
  rw [List.filter_map]
  congr 2
  refine List.filter_congr fun p _ => ?_
  simp only [Function.comp, pdE, eI]
  by_cases h : p.2 ≤ now
  · have h' : ¬ now < p.2 := by omega
    simp [h, h']
  · have h' : now < p.2 := by omega
    simp [h, h']
section
variable {W : World} {b nb0 : Nat} {l : List (Int × Int)} {now : Int}
set_option maxRecDepth 100000 in
theorem expire1_any (a u : Int) (hm : Mem W nb0 Tin [iv now]) : Calls Try.prog 25 #[iv a, iv u, .pointer (some ⟨nb0, 0, none⟩)] W fun e w' => e = .returned (.bool (decide (u ≤ now))) ∧ w' = W := by
  have hc : W.cell? ⟨nb0, 0, none⟩ = some (iv now) := hm.cell 0
  clear hm
  go_enter Try.func25, Try.ntmps25
  go_wp2_with fail
  go_ret
  exact ⟨rfl, rfl⟩
theorem inDel_any (h : MpI W b l) (hm : Mem W nb0 Tin [iv now]) : Calls Try.prog 24 #[.map (some b), .func (.func 25) #[] #[.pointer (some ⟨nb0, 0, none⟩)]] W fun e w' =>
    e = .returned (.tuple #[]) ∧ MpI w' b (aftA now l) ∧ W.grownBy w' (some b) := by
  have hne : nb0 ≠ b := by
    rintro rfl
    obtain ⟨es, c, hb⟩ := MpS.block h
    unfold Mem at hm
    rw [hm] at hb
    simp at hb
  have key := AnyDf.maps_DeleteFunc Try.dfA keyedI (plainElem Try.prog Tin) (pdE now) 25 #[.pointer (some ⟨nb0, 0, none⟩)] b l.length (.map (eI.enc l)) W (enters_of Try.func25 (by kernel_rfl) rfl) h
    (by
      intro W' key val kl yd yp hg hk hv
      obtain ⟨a, rfl, rfl, _⟩ := keyOf_int_inv Try.underlying3 hk
      obtain ⟨u, rfl, hz, _⟩ := plainElem_int_inv Try.underlying3 hv
      injection hz with hz1 hz2
      subst hz1
      refine (expire1_any a u (hm.grown hg (fun e => hne (by injection e)))).mono fun e w' q => ?_
      obtain ⟨rfl, rfl⟩ := q
      exact ⟨rfl, grownRefl _ _⟩)
  refine Calls.mono (P := Try.prog) (f := 24) key ?_
  rintro e w' ⟨rfl, ho, hg⟩
  rw [aftA_data] at ho
  exact ⟨rfl, MpS.tight ho, hg⟩
end
/-- The rows that are passed are expired, the others as they were. -/
def expT (now : Int) (T : PT) (left : Lit → Bool) : PT := T.map fun p => (p.1, p.2.1, bif left (eN.ek p.1) then p.2.2 else aftA now p.2.2)
theorem expT_start (now : Int) (T : PT) : expT now T (Maps.has (.map (eN.enc (nb T)))) = T := by
  unfold expT
  conv => rhs; rw [← List.map_id T]
  refine List.map_congr_left fun p hp => ?_
  have : Maps.has (DataW.map (eN.enc (nb T))) (eN.ek p.1) = true := by
    rw [Enc.has]
    cases hg : getK p.1 (nb T) with
    | none => exact absurd rfl ((getK_none p.1).1 hg (p.1, p.2.1) (List.mem_map.2 ⟨p, hp, rfl⟩))
    | some v => rfl
  rw [this]
  rfl
theorem expT_end {now : Int} {T : PT} {left : Lit → Bool} (h : ∀ k, left k = false) : expT now T left = T.map fun p => (p.1, p.2.1, aftA now p.2.2) := by
  unfold expT
  refine List.map_congr_left fun p _ => ?_
  rw [h]
  rfl
theorem nb_expT (now : Int) (T : PT) (left : Lit → Bool) : nb (expT now T left) = nb T := by
  unfold nb expT
  rw [List.map_map]
  rfl
theorem expT_step {now : Int} {T : PT} (hu : Uniq T) {left : Lit → Bool} {x : List UInt8} {b : Nat} {l : List (Int × Int)} (hm : (x, b, l) ∈ T) : updK x (b, aftA now l) (expT now T left) = expT now T fun z => left z && !z.sameKey (eN.ek x) := by
  unfold updK expT
  rw [List.map_map]
  refine List.map_congr_left fun p hp => ?_
  simp only [Function.comp]
  by_cases he : p.1 = x
  · have h1 := (mem_getK hu x (b, l)).2 hm
    have h2 := (mem_getK hu x p.2).2 (by rw [← he]; exact hp)
    rw [h1] at h2
    injection h2 with h2
    rw [if_pos he, ← h2, he]
    simp [Enc.same]
  · rw [if_neg he]
    simp [Enc.same, he]
theorem expT_get {now : Int} {T : PT} {left : Lit → Bool} {x : List UInt8} {b : Nat} {l : List (Int × Int)} (hm : (x, b, l) ∈ T) (hl : left (eN.ek x) = true) : (x, b, l) ∈ expT now T left :=
  List.mem_map.2 ⟨_, hm, by rw [hl]; rfl⟩
theorem rngN_ne {W : World} {g r n cnt b : Nat} {l : List (List UInt8 × Nat)} {left : Lit → Bool} {li : List (Int × Int)} (h : RgN W g r n l left cnt) (hi : MpI W b li) : b ≠ r := by
  rintro rfl
  obtain ⟨es, clock, since, seen, c0, hb, _, _, _, hr, _⟩ := h
  obtain ⟨es', c', hb'⟩ := MpS.block hi
  rw [hr] at hb'
  simp at hb'
section
variable {W : World} {t g : Nat} {T : PT} {now : Int}
set_option maxHeartbeats 2000000 in
set_option maxRecDepth 100000 in
theorem expire_tab (h : Ptb W t g T) : Calls Try.prog 15 #[.pointer (some ⟨t, 0, none⟩), iv now] W fun e w' =>
    e = .returned (.tuple #[]) ∧ Ptb w' t g (cleanP (T.map fun p => (p.1, p.2.1, aftA now p.2.2))) ∧ Fr (Ftp t g T) W w' := by
  have hT1 := h.below (belowSelf W (.cells #[iv now] Tin))
  have hc0 : (W.alloc (.cells #[iv now] Tin)).cell? ⟨t, 0, none⟩ = some (.map (some g)) := hT1.tag.cell 0
  obtain ⟨W2, hrg, hrs, hgr, hsz⟩ := World.ownsMap.range hT1.out keyedN Try.underlying55
  have hrg' : (Instr.range Tmim (.map (some g))).run Try.prog (W.alloc (.cells #[iv now] Tin)) = .ok (.pointer (some ⟨W.heap.size + 1, 0, none⟩)) W2 := by simpa using hrg
  have HRS := Lib.hid (show RgN W2 g (W.heap.size + 1) (nb T).length (nb T) (Maps.has (.map (eN.enc (nb T)))) (Maps.size (DataW.map (eN.enc (nb T)))) by simpa using hrs)
  have HT2 := Lib.hid (show Ptb W2 t g T from hT1.of fun k hk => hgr.block k (hT1.lt hk) (by simp))
  have HM2 := Lib.hid (show Mem W2 W.heap.size Tin [iv now] from (Mem.new W Tin [iv now]).grown hgr (by simp))
  have HF2 := Lib.hid (show Fr (Ftp t g T) W W2 from (Fr.of_below (belowSelf W (.cells #[iv now] Tin))).trans (Fr.of_grown (F := Ftp t g T) hgr (fun k e => by cases e)) (fun i hi => .inl hi))
  have HT := Lib.hid h
  have HU := Lib.hid h.uniq
  clear h hT1 hrs hgr hsz hrg
  go_enter Try.func15, Try.ntmps15
  go_wp2_with fail
  clear hrg' hc0
  go_loopw [11] (fun _ wr => ∃ (left : Lit → Bool) (cnt : Nat), Hid (RgN wr g (W.heap.size + 1) (nb T).length (nb T) left cnt) ∧ Hid (Ptb wr t g (expT now T left)) ∧ Hid (Mem wr W.heap.size Tin [iv now]) ∧ Hid (Fr (Ftp t g T) W wr)) (fun _ wr => wr.rangeLeft g (W.heap.size + 1))
  case atStart => exact ⟨_, _, HRS, by rw [expT_start]; exact HT2, HM2, HF2⟩
  case round =>
    obtain ⟨left, cnt, HRG, HTR, HMR, HFR⟩ := hrel
    clear HRS HT2 HM2 HF2
    go_wp2_with (first
      | (at_next; refine wp_next_n HRG.out (fun p hp => by obtain ⟨q, hq, e⟩ := List.mem_map.1 hp; rw [← e]; exact HT.out.len q hq) (.tmp 10) rfl rfl rfl ?_ ?_)
      | fail)
    · intro hl0
      have HE := Lib.hid (expT_end (now := now) (T := T) hl0)
      have HCL := Lib.hid (clean_any HTR.out)
      clear hl0
      go_wp2_with fail
      refine HCL.out.mono ?_
      rintro e w1 ⟨rfl, ho, hg⟩
      have HEND := Lib.hid ho
      have HG := Lib.hid hg
      clear ho hg
      go_wp2_with fail
      go_end0
      refine ⟨rfl, by rw [← HE.out]; exact HEND.out, HFR.out.trans (Fr.of_grown (F := Ftp t g T) HG.out (fun k e => .inr (.inl (by injection e with e; exact e.symm)))) (fun i hi => .inl hi)⟩
    · intro x b w1 cnt1 hxb hlk hrg1 hlt1 hg1 hs1 hen
      obtain ⟨⟨x', b', l⟩, hml, heq⟩ := List.mem_map.1 hxb
      injection heq with e1 e2
      subst e1 e2
      have HML := Lib.hid hml
      have HLK := Lib.hid hlk
      have HRG1 := Lib.hid hrg1
      have HLT1 := Lib.hid hlt1
      have HRF : ∀ k, Ftp t g T k → k ≠ W.heap.size + 1 := fun k hk e => by have := HT.out.lt hk; omega
      have HTR1 := Lib.hid (show Ptb w1 t g (expT now T left) from HTR.out.of fun k hk => hg1.block k (HTR.out.lt hk) (fun e => HRF k (by
        rcases hk with hk | hk | ⟨q, hq, hk⟩
        · exact .inl hk
        · exact .inr (.inl hk)
        · obtain ⟨p, hp, e⟩ := List.mem_map.1 hq
          exact .inr (.inr ⟨p, hp, by rw [hk, ← e]⟩)) (by injection e)))
      have HMR1 := Lib.hid (show Mem w1 W.heap.size Tin [iv now] from HMR.out.grown hg1 (fun e => by injection e with e; omega))
      have HFR1 := Lib.hid (HFR.out.trans (Fr.of_grown (F := fun k => k = W.heap.size + 1) hg1 (fun k e => by injection e with e; exact e.symm)) (fun i hi => .inr (by rw [hi]; exact Nat.le_succ _)))
      have HIN := Lib.hid (show MpI w1 b' l from HTR1.out.inn _ (expT_get HML.out HLK.out))
      have HD := Lib.hid (inDel_any HIN.out HMR1.out)
      clear hml hlk hrg1 hlt1 hg1 hs1 hxb
      go_wp2_with fail
      refine HD.out.mono ?_
      rintro e w3 ⟨rfl, ho3, hg3⟩
      have HNB := Lib.hid (rngN_ne HRG1.out HIN.out)
      have HGN := Lib.hid (show b' ≠ g from HT.out.ne _ HML.out)
      have HRG3 := Lib.hid (World.ranges.kept HRG1.out hg3 (fun e => HGN.out (by injection e with e; exact e.symm)) (fun e => HNB.out (by injection e with e; exact e.symm)))
      have HGX := Lib.hid ((mem_getK HTR1.out.uniq x' (b', l)).2 (expT_get HML.out HLK.out))
      have HT3 := Lib.hid (show Ptb w3 t g (expT now T fun z => left z && !z.sameKey (eN.ek x')) from by
        rw [← expT_step HU.out HML.out]
        exact HTR1.out.upd HGX.out hg3 ho3 (Nat.le_trans (List.length_filter_le _ _) (HT.out.few8 _ HML.out)) (fun p hp => HT.out.val _ HML.out p (List.mem_filter.1 hp).1))
      have HM3 := Lib.hid (show Mem w3 W.heap.size Tin [iv now] from HMR1.out.grown hg3 (fun e => by
        injection e with e
        have := (HT.out.inn _ HML.out).lt
        simp only at this
        omega))
      have HF3 := Lib.hid (HFR1.out.trans (Fr.of_grown (F := Ftp t g T) hg3 (fun k e => .inr (.inr ⟨_, HML.out, by injection e with e; exact e.symm⟩))) (fun i hi => .inl hi))
      clear ho3 hg3 hen
      go_wp2_with fail
      go_roundw
      case rel => exact ⟨_, _, HRG3, HT3, HM3, HF3⟩
      case measure => rw [HRG3.out.left_eq, HRG.out.left_eq]; exact HLT1.out
/-- What Expire makes of a table. -/
def expireV (now : Int) (V : PV) : PV := cleanV (V.map fun p => (p.1, aftA now p.2))
theorem expire_any {F : Nat → Prop} {V : PV} (h : Pv W F t V) : Calls Try.prog 15 #[.pointer (some ⟨t, 0, none⟩), iv now] W fun e w' =>
    e = .returned (.tuple #[]) ∧ Pv w' F t (expireV now V) ∧ Fr F W w' := by
  obtain ⟨g, T, hT, rfl, hF⟩ := h
  refine (expire_tab hT).mono fun e w' q => ⟨q.1, ⟨g, _, q.2.1, ?_, fun k hk => ?_⟩, q.2.2.mono hF⟩
  · rw [vw_clean]
    unfold expireV vw
    rw [List.map_map, List.map_map]
    rfl
  · rcases hk with hk | hk | ⟨r, hr, rfl⟩
    · exact hF k (.inl hk)
    · exact hF k (.inr (.inl hk))
    · obtain ⟨p, hp, e⟩ := List.mem_map.1 (List.mem_filter.1 hr).1
      exact hF _ (.inr (.inr ⟨p, hp, by rw [← e]⟩))
end
end Go.Proofs.Ytilmidddhkofaaa

/-
  slices.SortFunc of names; Collect, SortedFunc; package provider: Names.
-/
import Derived.Test.YtilmidddhkofaaaPm9
import Derived.Test.YtilmidddhkofaaaSf
import Derived.Shelf.SlSortCmp.NoneTotal
import Derived.Sort.Grow
namespace Go.Proofs.Ytilmidddhkofaaa
open Go.RowKit Go.Sort Go.Shelf Go.Maps Crv

/-- Some draws, some blocks laid behind. -/
def Gw (w w' : World) : Prop := ∃ q os, w' = grow (w.drewN q) os
theorem Gw.refl (w : World) : Gw w w := ⟨0, #[], by rw [grow_empty]; rfl⟩
theorem Gw.trans {a b c : World} (h : Gw a b) (k : Gw b c) : Gw a c := by
  obtain ⟨q, os, rfl⟩ := h
  obtain ⟨q', os', rfl⟩ := k
  exact ⟨q + q', os ++ os', by simp [grow, World.drewN, Nat.add_assoc, Array.append_assoc]⟩
theorem Gw.alloc (w : World) (o : Obj) : Gw w (w.alloc o) := ⟨0, #[o], by rw [alloc_eq_grow]; rfl⟩
theorem Gw.drew (w : World) : Gw w w.drew := ⟨1, #[], by rw [grow_empty]; rfl⟩
theorem Gw.below {w w' : World} (h : Gw w w') : Below w.heap.size w w' := by
  obtain ⟨q, os, rfl⟩ := h
  refine ⟨rfl, rfl, rfl, by simp [grow], fun k hk => ?_⟩
  show (w.heap ++ os)[k]? = _
  rw [Array.getElem?_append_left hk]
set_option maxRecDepth 100000 in
theorem compare_gw (x y : List UInt8) (w : World) (hx : x.length = 32) (hy : y.length = 32) :
    Calls Try.prog 20 #[.agg (x.map byteV).toArray, .agg (y.map byteV).toArray] w fun e w' => e = .returned (.int .i64 (cmpOf x y)) ∧ Gw w w' := by
  have HX := Lib.hid hx
  have HY := Lib.hid hy
  clear hx hy
  have hcm := fun W hW hW' => bytesCompare_any (W := W) (g := w.heap.size) (g' := w.heap.size + 1) (t := 30) (t' := 30) (x := x) (y := y) hW hW' HX.out HY.out
  have HCM := Lib.hid hcm
  have H0 := Lib.hid ((Mem.newAt w 30 (x.map byteV) rfl).alloc (.cells (y.map byteV).toArray 30))
  have H1 := Lib.hid (Mem.newAt (w.alloc (.cells (x.map byteV).toArray 30)) 30 (y.map byteV) (show w.heap.size + 1 = _ by simp))
  clear hcm
  go_enter Try.func20, Try.ntmps20
  go_wp2_with fail
  go_region_held3 (fun w' => Mem w' w.heap.size 30 (x.map byteV) ∧ Mem w' (w.heap.size + 1) 30 (y.map byteV))
    (first
      | (exact ⟨H0.out, H1.out⟩)
      | (assumption))
    (first
      | (go_at_call 29; refine (HCM.out _ ?_ ?_).mono ?_; (exact H0.out); (exact H1.out); rintro e w' ⟨rfl, rfl⟩))
  rename_i K hK hHe
  refine hK _ _ ?_
  go_wp2
  go_ret
  exact ⟨rfl, ((Gw.alloc w _).trans (Gw.alloc _ _)).trans (Gw.drew _)⟩
theorem one_nmC (x : NM) : ∀ u ∈ nmC x, u.oneCell' = true := oneBytes x.1
def cfN (x y : NM) : Int := cmpOf x.1 y.1
theorem ltOf_cfN (x y : NM) : Go.Proofs.ltOf cfN x y = true ↔ cmpOf x.1 y.1 < 0 := by
  unfold Go.Proofs.ltOf
  rw [decide_eq_true_iff]
  exact Iff.rfl
theorem swoN : SWO (Go.Proofs.ltOf cfN) := by
  have hf : ∀ x y, Go.Proofs.ltOf cfN x y = false ↔ ¬ cmpOf x.1 y.1 < 0 := fun x y => by rw [← ltOf_cfN]; simp
  refine ⟨fun x => (hf x x).2 (by rw [(cmpOf_zero x.1 x.1 x.2 x.2).2 rfl]; omega), fun x y z h1 h2 => (ltOf_cfN x z).2 (less_trans x.2 y.2 z.2 ((ltOf_cfN x y).1 h1) ((ltOf_cfN y z).1 h2)), fun x y z h1 h2 => ?_⟩
  rw [hf] at h1 h2 ⊢
  intro h3
  have hs := cmpOf_swap x.1 y.1 x.2 y.2
  by_cases h0 : cmpOf x.1 y.1 = 0
  · have := (cmpOf_zero x.1 y.1 x.2 y.2).1 h0
    rw [this] at h3
    exact h2 h3
  · have h4 : cmpOf y.1 x.1 < 0 := by omega
    exact h2 (less_trans y.2 x.2 z.2 h4 h3)
/-- Rising. -/
def SrtN (l : List NM) : Prop := l.Pairwise fun x y => ¬ cmpOf y.1 x.1 < 0
theorem srtN_one : ∀ {l l' : List NM}, l.Perm l' → SrtN l → SrtN l' → l = l'
  | [], l', hp, _, _ => by rw [List.nil_perm] at hp; exact hp.symm
  | x :: l, [], hp, _, _ => by rw [List.perm_nil] at hp; exact hp
  | x :: l, y :: l', hp, h1, h2 => by
    have h1' := List.pairwise_cons.1 h1
    have h2' := List.pairwise_cons.1 h2
    have e : x = y := by
      have e1 : ¬ cmpOf y.1 x.1 < 0 := by
        rcases List.mem_cons.1 (hp.mem_iff.2 (List.mem_cons_self (a := y) (l := l'))) with e | e
        · rw [e, (cmpOf_zero x.1 x.1 x.2 x.2).2 rfl]; omega
        · exact h1'.1 y e
      have e2 : ¬ cmpOf x.1 y.1 < 0 := by
        rcases List.mem_cons.1 (hp.mem_iff.1 (List.mem_cons_self (a := x) (l := l))) with e | e
        · rw [e, (cmpOf_zero y.1 y.1 y.2 y.2).2 rfl]; omega
        · exact h2'.1 x e
      have hs := cmpOf_swap x.1 y.1 x.2 y.2
      exact Subtype.ext ((cmpOf_zero x.1 y.1 x.2 y.2).1 (by omega))
    subst e
    rw [srtN_one ((List.perm_cons x).1 hp) h1'.2 h2'.2]
theorem holds_nm {w : World} {R : Nat} {ss : List NM} {cur : Array Value} (hm : w.heap[R]? = some (.cells cur TI (0, 0))) (ht : cur.toList.take (ss.length * 32) = (ss.map nmC).flatten) : HoldsK nmC 32 w R 0 ss.toArray := by
  intro t htt
  rw [size_flatK, List.size_toArray] at htt
  have hj : t / 32 < ss.length := by omega
  have hc : t % 32 < 32 := by omega
  refine ⟨?_, by simp [World.frozen?, hm]⟩
  rw [Nat.zero_add, get_flatK _ _ _ _ (by simpa using htt)]
  have e : ss.toArray[t / 32]! = ss[t / 32] := by simp [hj]
  rw [e]
  have h1 : cur.toList[t]? = (ss.map nmC).flatten[t]? := by rw [← ht, List.getElem?_take_of_lt (by omega)]
  have h2 := flat_get (xs := ss.map nmC) (m := 32) (fun x hx => by obtain ⟨y, _, rfl⟩ := List.mem_map.1 hx; exact length_nmC y) (t / 32) (by simpa using hj) (t % 32) hc
  rw [show t / 32 * 32 + t % 32 = t by omega] at h2
  rw [h2] at h1
  simp only [List.getElem_map] at h1
  simp [World.cell?, hm]
  rw [← Array.getElem?_toList, h1, List.getElem?_eq_getElem (by rw [length_nmC]; exact hc)]
  simp
set_option maxRecDepth 100000 in
theorem sortNames {w : World} {base : Nat} {v : Value} {ss : List NM} (h : Rw w base TI 32 v (ss.map nmC)) (hl : ss.length ≤ 1000000) :
    Calls Try.prog 35 #[v, .func (.func 20) #[] #[]] w fun e w' =>
      e = .returned (.tuple #[]) ∧ ∃ ss', ss'.Perm ss ∧ SrtN ss' ∧ Rw w' base TI 32 v (ss'.map nmC) ∧ w.grownBy w' v.ownBlock := by
  have hlen := h.2.1
  rcases h.2.2 with ⟨rfl, h0⟩ | ⟨R, cap, cur, rfl, hbase, hg, hn, hmx, hsz, ht⟩
  · have e : ss = [] := by
      rw [List.length_map] at h0
      exact List.length_eq_zero_iff.1 h0
    subst e
    have h1 := AnyF.slices_SortFunc_none Try.sfA none 0 (.func (.func 20) #[] #[]) w
    refine Calls.mono (P := Try.prog) (f := 35) h1 ?_
    rintro e w' ⟨rfl, rfl⟩
    exact ⟨rfl, [], .refl _, List.Pairwise.nil, h, grownRefl _ _⟩
  rw [List.length_map] at hn ht hlen ⊢
  have hRl := (Array.getElem?_eq_some_iff.1 hg).1
  have hH := holds_nm hg ht
  have hcm : CmpLays Try.prog 20 #[] nmC 32 cfN R 0 ss.toArray.size w := fun m os dk _ x y => by
    have h := compare_gw x.1 y.1 (sortWorldK nmC 32 w R 0 m dk os) x.2 y.2
    exact h
  have hk := AnyQ.slices_SortFunc Try.sfA 32 (fun w => by kernel_rfl) (fun w => by kernel_rfl) nmC length_nmC one_nmC cfN swoN 20 #[] R 0 cap ss.toArray w (enters_of Try.func20 (by kernel_rfl) rfl) hcm hH hRl (by rw [List.size_toArray]; omega)
  rw [List.size_toArray] at hk
  refine Calls.mono (P := Try.prog) (f := 35) hk ?_
  rintro e w' ⟨rfl, d', n, os, hperm, hsort, rfl⟩
  have hs : d'.size = ss.length := by rw [hperm.1, List.size_toArray]
  have hpm : d'.toList.Perm ss := by
    have h3 := hperm.2.2
    rw [← hs] at h3
    have e1 : d'.extract 0 d'.size = d' := by simp
    have e2 : ss.toArray.extract 0 d'.size = ss.toArray := by rw [hs]; simp
    rw [e1, e2] at h3
    exact h3
  have hgm : (sortWorldK nmC 32 w R 0 n d' os).heap[R]? = some (.cells (putCells id 0 (flatK nmC 32 d') cur) TI (0, 0)) := by
    show (_ ++ os)[R]? = _
    rw [Array.getElem?_append_left (by
      show R < (putRowK nmC 32 (Sort.ahead w n) R 0 d').heap.size
      rw [size_putRowK]
      exact hRl)]
    show (w.heap.modify R _)[R]? = _
    rw [Array.getElem?_modify, if_pos rfl, hg]
    rfl
  refine ⟨rfl, d'.toList, hpm, ?_, ⟨fun x hx => by obtain ⟨y, _, rfl⟩ := List.mem_map.1 hx; exact length_nmC y, ?_⟩, ?_⟩
  · refine List.pairwise_iff_getElem.2 fun i j hi hj hij => ?_
    rw [Array.length_toList] at hi hj
    have h4 := hsort i j (Nat.zero_le _) hij (by rw [← hs]; exact hj)
    have e1 : d'[j]! = d'[j] := by simp [hj]
    have e2 : d'[i]! = d'[i] := by simp [hi]
    rw [e1, e2] at h4
    rw [← ltOf_cfN]
    simp only [Array.getElem_toList, h4]
    simp
  · have hll : (d'.toList.map nmC).length = ss.length := by rw [List.length_map, Array.length_toList, hs]
    refine ⟨length_flat (fun x hx => by obtain ⟨y, _, rfl⟩ := List.mem_map.1 hx; exact length_nmC y), .inr ⟨R, cap, putCells id 0 (flatK nmC 32 d') cur, by rw [hll], hbase, hgm, by rw [hll]; exact hn, hmx, by simp [putCells, hsz], ?_⟩⟩
    rw [hll]
    have hfl : (d'.toList.map nmC).flatten.length = ss.length * 32 := by rw [length_flat (m := 32) (fun x hx => by obtain ⟨y, _, rfl⟩ := List.mem_map.1 hx; exact length_nmC y), hll]
    have hcs : ss.length * 32 ≤ cur.size := by rw [hsz]; exact Nat.mul_le_mul_right _ hn
    apply List.ext_getElem?
    intro i
    by_cases hi : i < ss.length * 32
    · rw [List.getElem?_take_of_lt hi, Array.getElem?_toList]
      have hj : i / 32 < d'.size := by omega
      have hc : i % 32 < 32 := by omega
      have h2 := flat_get (xs := d'.toList.map nmC) (m := 32) (fun x hx => by obtain ⟨y, _, rfl⟩ := List.mem_map.1 hx; exact length_nmC y) (i / 32) (by rw [hll]; omega) (i % 32) hc
      rw [show i / 32 * 32 + i % 32 = i by omega] at h2
      rw [h2]
      have h3 := get_flatK nmC 32 d' i (by rw [hs]; exact hi)
      have hfs : i < (flatK nmC 32 d').size := by rw [size_flatK, hs]; exact hi
      simp only [putCells, Array.getElem?_mapIdx]
      rw [Array.getElem?_eq_getElem (by omega), Option.map_some, if_pos ⟨Nat.zero_le _, by simpa using hfs⟩, Nat.sub_zero]
      simp only [id, h3, List.getElem_map, Array.getElem_toList]
      have e1 : d'[i / 32]! = d'[i / 32] := by simp [hj]
      rw [e1, List.getElem?_eq_getElem (by rw [length_nmC]; exact hc)]
      simp [length_nmC, hc]
    · rw [List.getElem?_eq_none (by rw [List.length_take]; omega), List.getElem?_eq_none (by omega)]
  · refine ⟨rfl, rfl, rfl, ?_, fun k hk hne => ?_⟩
    · show _ ≤ (_ ++ os).size
      rw [Array.size_append]
      have : (putRowK nmC 32 (Sort.ahead w n) R 0 d').heap.size = w.heap.size := by rw [size_putRowK]; rfl
      omega
    · show (_ ++ os)[k]? = _
      rw [Array.getElem?_append_left (by
        show k < (putRowK nmC 32 (Sort.ahead w n) R 0 d').heap.size
        rw [size_putRowK]
        exact hk)]
      show (w.heap.modify R _)[k]? = _
      have hne' : R ≠ k := fun e => hne (by rw [e]; rfl)
      rw [Array.getElem?_modify, if_neg hne']
set_option maxRecDepth 100000 in
theorem collect_any (gf : Nat) (lb : Array Value) (S : List NM → Prop) (N : Nat) (hN : N ≤ 1000000) (w : World) (eg : ∀ args w, (callFunc gf args).run Try.prog w = .ok (.enter gf args) w)
    (hseq : ∀ w0, Below w.heap.size w w0 → SeqStopsK Fence.wide 2 Try.prog gf lb (fun x : NM => #[nmV x.1]) KeepsWalks S (fun _ => True) N w0) :
    Calls Try.prog 34 #[.func (.func gf) #[] lb] w fun e w' => ∃ v ss, e = .returned v ∧ S ss ∧ Rw w' w.heap.size TI 32 v (ss.map nmC) ∧ Below w.heap.size w w' := by
  have HA := Lib.hid (appendSeq_any gf lb S N hN w eg hseq)
  clear eg hseq
  go_enter Try.func34, Try.ntmps34
  go_wp2_with fail
  refine HA.out.mono ?_
  rintro e w1 ⟨v, ss, rfl, hS, hr, hb⟩
  have HE := Lib.hid (show S ss ∧ Rw w1 w.heap.size TI 32 v (ss.map nmC) ∧ Below w.heap.size w w1 from ⟨hS, hr, hb⟩)
  clear hS hr hb
  go_wp2_with fail
  go_ret
  exact ⟨v, ss, rfl, HE.out⟩
theorem Rw.len {w : World} {base : Nat} {e : TypeId} {m : Nat} {v : Value} {xs : List (List Value)} (h : Rw w base e m v xs) : ∃ a cap, v = .slice a xs.length cap := by
  rcases h.2.2 with ⟨h0, h1⟩ | ⟨g, cap, cur, h0, _⟩
  · exact ⟨none, 0, by rw [h0, h1]⟩
  · exact ⟨_, cap, h0⟩
set_option maxRecDepth 100000 in
theorem sortedFunc_any (gf : Nat) (lb : Array Value) (S : List NM → Prop) (hS1 : ∀ ss, S ss → ss.length ≤ 1000000) (N : Nat) (hN : N ≤ 1000000) (w : World) (eg : ∀ args w, (callFunc gf args).run Try.prog w = .ok (.enter gf args) w)
    (hseq : ∀ w0, Below w.heap.size w w0 → SeqStopsK Fence.wide 2 Try.prog gf lb (fun x : NM => #[nmV x.1]) KeepsWalks S (fun _ => True) N w0) :
    Calls Try.prog 27 #[.func (.func gf) #[] lb, .func (.func 20) #[] #[]] w fun e w' => ∃ v ss ss', e = .returned v ∧ S ss ∧ ss'.Perm ss ∧ SrtN ss' ∧ Rw w' w.heap.size TI 32 v (ss'.map nmC) ∧ Below w.heap.size w w' := by
  have HA := Lib.hid (collect_any gf lb S N hN w eg hseq)
  have HS1 := Lib.hid hS1
  clear eg hseq hS1
  go_enter Try.func27, Try.ntmps27
  go_wp2_with fail
  refine HA.out.mono ?_
  rintro e w1 ⟨v, ss, rfl, hS, hr, hb⟩
  have HE := Lib.hid (show S ss ∧ Rw w1 w.heap.size TI 32 v (ss.map nmC) ∧ Below w.heap.size w w1 from ⟨hS, hr, hb⟩)
  have HSO := Lib.hid (sortNames hr (HS1.out ss hS))
  clear hS hr hb
  go_wp2_with fail
  refine HSO.out.mono ?_
  rintro e w2 ⟨rfl, ss', hp, hs, hr2, hg2⟩
  have HF := Lib.hid (show ss'.Perm ss ∧ SrtN ss' ∧ Rw w2 w.heap.size TI 32 v (ss'.map nmC) ∧ Below w.heap.size w w2 from ⟨hp, hs, hr2, HE.out.2.2.grown hg2 HE.out.2.2.size (fun k e => (HE.out.2.1.lt k e).2)⟩)
  clear hp hs hr2 hg2
  go_wp2_with fail
  go_ret
  exact ⟨v, ss, ss', rfl, HE.out.1, HF.out⟩
def backN (x : List UInt8) : Option NM := if h : x.length = 32 then some ⟨x, h⟩ else none
theorem back_map : ∀ l : List NM, (l.map (·.1)).filterMap backN = l
  | [] => rfl
  | x :: r => by
    have ih := back_map r
    rw [List.map_cons, List.filterMap_cons, ih]
    unfold backN
    rw [dif_pos x.2]
theorem perm_val {l l' : List NM} (h : (l.map (·.1)).Perm (l'.map (·.1))) : l.Perm l' := by
  have := h.filterMap backN
  rwa [back_map, back_map] at this
theorem less_before : ∀ x y : List UInt8, Op.bytesLess x y = bytesBefore x y
  | [], [] => rfl
  | [], _ :: _ => rfl
  | _ :: _, [] => rfl
  | a :: r, b :: s => by
    rw [Op.bytesLess, bytesBefore, less_before r s]
section
variable {W : World} {t g : Nat} {T : PT}
set_option maxRecDepth 100000 in
theorem names_tab (h : Ptb W t g T) : Calls Try.prog 19 #[.pointer (some ⟨t, 0, none⟩)] W fun e w' =>
    ∃ v, e = .returned v ∧ Rw w' W.heap.size TI 32 v (T.map fun p => p.1.map byteV) ∧ Below W.heap.size W w' := by
  have hc := cell0 h
  have HT := Lib.hid h
  have HK := Lib.hid (keysN_any g W)
  clear h
  go_enter Try.func19, Try.ntmps19
  go_wp2_with fail
  refine HK.out.mono ?_
  rintro e w1 ⟨rfl, hm, hb, hs⟩
  have hl : ∀ p ∈ nb T, p.1.length = 32 := fun p hp => by obtain ⟨q, hq, e⟩ := List.mem_map.1 hp; rw [← e]; exact HT.out.len q hq
  have hT1 := HT.out.below hb
  have HS := Lib.hid (sortedFunc_any 36 #[.pointer (some ⟨W.heap.size, 0, none⟩)] (fun ss => (ss.map (·.1)).Perm ((nb T).map (·.1))) (fun ss hss => by
      have h1 := hss.length_eq
      simp [nb] at h1
      have := HT.out.few
      omega) (nb T).length (by have := HT.out.few; simp [nb]; omega) w1 (enters_of Try.func36 (by kernel_rfl) rfl)
      (fun w0 hw0 => keys1_stops 2 W.heap.size g (nb T) w0 (by omega) (hm.below hw0 hm.lt) (hT1.below hw0).out hl))
  have HB1 := Lib.hid hb
  clear hm hb hs hl hT1 hc
  go_wp2_with fail
  refine HS.out.mono ?_
  rintro e w2 ⟨v, ss, ss', rfl, hS, hp, hs, hr, hb⟩
  have HEND := Lib.hid (show Rw w2 W.heap.size TI 32 v (T.map fun p => p.1.map byteV) ∧ Below W.heap.size W w2 from by
    refine ⟨?_, belowThen HB1.out hb⟩
    have hlen : ∀ p ∈ T, p.1.length = 32 := HT.out.len
    have e1 : ss' = T.attach.map fun p => (⟨p.1.1, hlen p.1 p.2⟩ : NM) := by
      refine srtN_one ?_ hs ?_
      · refine hp.trans ?_
        have h1 : (ss.map (·.1)).Perm ((T.attach.map fun p => (⟨p.1.1, hlen p.1 p.2⟩ : NM)).map (·.1)) := by
          refine hS.trans ?_
          unfold nb
          rw [List.map_map, List.map_map]
          have : (List.map (Subtype.val ∘ fun p : { x // x ∈ T } => (⟨p.1.1, hlen p.1 p.2⟩ : NM)) T.attach) = T.map (·.1) := by
            conv => rhs; rw [← List.attach_map_subtype_val T, List.map_map]
            rfl
          rw [this]
          exact .refl _
        exact perm_val h1
      · have hr := HT.out.out.rise keyedN
        unfold SrtN
        unfold nb at hr
        rw [List.pairwise_map] at hr ⊢
        have h2 : T.attach.Pairwise fun p q => eN.lt p.1.1 q.1.1 = true := by
          have := hr
          rw [← List.attach_map_subtype_val T, List.pairwise_map] at this
          exact this
        refine h2.imp fun {p q} hpq => ?_
        rw [lt_eN, ← less_before, ← cmpOf_less _ _ (hlen p.1 p.2) (hlen q.1 q.2), decide_eq_true_eq] at hpq
        have hsw := cmpOf_swap p.1.1 q.1.1 (hlen p.1 p.2) (hlen q.1 q.2)
        simp only
        omega
    have e2 : ss'.map nmC = T.map fun p => p.1.map byteV := by
      rw [e1, List.map_map]
      conv => rhs; rw [← List.attach_map_subtype_val T, List.map_map]
      rfl
    rw [← e2]
    exact hr.mono (HB1.out.size))
  clear hS hp hs hr hb
  go_wp2_with fail
  go_ret
  exact ⟨v, rfl, HEND.out⟩
theorem names_any {F : Nat → Prop} {V : PV} (h : Pv W F t V) : Calls Try.prog 19 #[.pointer (some ⟨t, 0, none⟩)] W fun e w' =>
    ∃ v, e = .returned v ∧ Rw w' W.heap.size TI 32 v (V.map fun p => p.1.map byteV) ∧ Below W.heap.size W w' := by
  obtain ⟨g, T, hT, rfl, hF⟩ := h
  refine (names_tab hT).mono fun e w' ⟨v, q1, q2, q3⟩ => ⟨v, q1, ?_, q3⟩
  unfold vw
  rw [List.map_map]
  exact q2
end
end Go.Proofs.Ytilmidddhkofaaa

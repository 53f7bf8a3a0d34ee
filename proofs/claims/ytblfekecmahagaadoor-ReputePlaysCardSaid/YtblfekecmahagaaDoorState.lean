/-
  hash.State: New, add, Write, Sum, Of.
-/
import Derived.Test.YtblfekecmahagaaDoorPad
import Derived.Test.YtblfekecmahagaaDoorStr
namespace Go.Proofs.YtblfekecmahagaaDoor
open Go.RowKit Crv

/-- The cells of a state. -/
def stateCells (s : St) (tail : List UInt8) (count : Nat) : List Value := s.list.map wordV ++ (tail.map byteV ++ [.int .u64 count])
/-- Block b holds a state to which the bytes m have been written. -/
def Holds (w : World) (b : Nat) (m : List UInt8) : Prop := ∃ tail : List UInt8, tail.length = 64 ∧ tail.take (m.length % 64) = m.drop (64 * (m.length / 64)) ∧
  Mem w b 93 (stateCells (blocks init m (m.length / 64)) tail m.length)

set_option maxHeartbeats 1000000 in
set_option maxRecDepth 100000 in
theorem new_any (w : World) (hc : Consts w) :
    Calls Tryd.prog 37 #[] w fun e w' => e = .returned (.pointer (some ⟨w.heap.size, 0, none⟩)) ∧ Holds w' w.heap.size [] ∧ Below w.heap.size w w' ∧ w'.heap.size = w.heap.size + 1 := by
  obtain ⟨⟨t0, fr0, h0⟩, _⟩ := hc
  have H0 := Lib.hid h0
  clear h0
  have sz8 : (Tryd.prog.info? 89).map (·.size) = some ((init.list.map wordV).toArray).size := by kernel_rfl
  go_enter Tryd.func37, Tryd.ntmps37
  go_wp2_with (first
    | (refine wpList_load_row rfl 89 (.global 0) rfl 0 rfl t0 (init.list.map wordV).toArray fr0 (.array 8 77) H0.out Tryd.underlying89 rfl sz8 ?_)
    | fail)
  go_ret
  refine ⟨rfl, ⟨List.replicate 64 0, by simp, by simp, ?_⟩, (Below.refl _ _).alloc (Nat.le_refl _) _, by simp⟩
  have hE : List.foldl (fun (cs : Array Value) (x : Value × Nat) => cs.setIfInBounds x.snd x.fst) Tryd.zeroCells93 (List.map wordV init.list).zipIdx = (stateCells (blocks init [] 0) (List.replicate 64 0) 0).toArray := by kernel_rfl
  rw [hE]
  exact Mem.new w _ _

/-! ### The plain side of add -/
theorem length_stateCells (s : St) (tail : List UInt8) (count : Nat) (h : tail.length = 64) : (stateCells s tail count).length = 73 := by simp [stateCells, St.list, h]
theorem blocks_append (s : St) (m p : List UInt8) : ∀ n, 64 * n ≤ m.length → blocks s (m ++ p) n = blocks s m n
  | 0, _ => rfl
  | n + 1, h => by
    simp only [blocks]
    rw [blocks_append s m p n (by omega), List.drop_append_of_le_length (by omega), List.take_append_of_le_length (by rw [List.length_drop]; omega)]

/-- Cells 8 to 71 are the tail. -/
theorem stateCells_copy (s : St) (tail : List UInt8) (count o n : Nat) (r : List UInt8) (ht : tail.length = 64) (ho : o + n ≤ 64) (hr : r.length = n) :
    (stateCells s tail count).take (8 + o) ++ (r.map byteV ++ (stateCells s tail count).drop (8 + o + n)) = stateCells s (tail.take o ++ (r ++ tail.drop (o + n))) count := by
  have h8 : (s.list.map wordV).length = 8 := by simp [St.list]
  have e1 : (stateCells s tail count).take (8 + o) = s.list.map wordV ++ (tail.take o).map byteV := by
    unfold stateCells
    rw [← h8, List.take_length_add_append, List.take_append_of_le_length (by simp; omega), List.map_take]
  have e2 : (stateCells s tail count).drop (8 + o + n) = (tail.drop (o + n)).map byteV ++ [.int .u64 count] := by
    unfold stateCells
    rw [Nat.add_assoc, ← h8, List.drop_length_add_append, List.drop_append_of_le_length (by simp; omega), List.map_drop]
  rw [e1, e2]
  unfold stateCells
  simp [List.map_append]
theorem stateCells_count (s : St) (tail : List UInt8) (count c : Nat) (ht : tail.length = 64) : (stateCells s tail count).set 72 (.int .u64 c) = stateCells s tail c := by
  have h8 : (s.list.map wordV).length = 8 := by simp [St.list]
  unfold stateCells
  rw [← List.append_assoc, List.set_append_right _ _ (by simp [St.list, ht]), ← List.append_assoc]
  simp [St.list, ht]
theorem stateCells_at (s : St) (tail : List UInt8) (count : Nat) (ht : tail.length = 64) : (stateCells s tail count)[72]? = some (.int .u64 count) := by
  unfold stateCells
  rw [← List.append_assoc, List.getElem?_append_right (by simp [St.list, ht])]
  simp [St.list, ht]
/-- The plain side of a round that does not fill the block. -/
theorem tail_part (m r tail : List UInt8) (ht : tail.length = 64) (hm : tail.take (m.length % 64) = m.drop (64 * (m.length / 64))) (hr : r.length < 64 - m.length % 64) :
    (tail.take (m.length % 64) ++ (r ++ tail.drop (m.length % 64 + r.length))).take ((m ++ r).length % 64) = (m ++ r).drop (64 * ((m ++ r).length / 64)) ∧ (m ++ r).length / 64 = m.length / 64 := by
  have h1 : (m ++ r).length / 64 = m.length / 64 := by rw [List.length_append]; omega
  have h2 : (m ++ r).length % 64 = m.length % 64 + r.length := by rw [List.length_append]; omega
  refine ⟨?_, h1⟩
  rw [h1, h2, List.drop_append_of_le_length (by omega), ← hm]
  have hl : (tail.take (m.length % 64)).length = m.length % 64 := by rw [List.length_take]; omega
  rw [List.take_append, hl, List.take_of_length_le (by omega), show m.length % 64 + r.length - m.length % 64 = r.length from by omega, List.take_left]
/-- .. and of one that does. -/
theorem tail_full (m r tail : List UInt8) (ht : tail.length = 64) (hm : tail.take (m.length % 64) = m.drop (64 * (m.length / 64))) (hr : r.length = 64 - m.length % 64) :
    (m ++ r).length / 64 = m.length / 64 + 1 ∧ (m ++ r).length % 64 = 0 ∧ tail.take (m.length % 64) ++ (r ++ tail.drop (m.length % 64 + r.length)) = ((m ++ r).drop (64 * (m.length / 64))).take 64 := by
  have h1 : (m ++ r).length / 64 = m.length / 64 + 1 := by rw [List.length_append]; omega
  have h2 : (m ++ r).length % 64 = 0 := by rw [List.length_append]; omega
  refine ⟨h1, h2, ?_⟩
  have hl : (tail.take (m.length % 64)).length = m.length % 64 := by rw [List.length_take]; omega
  rw [List.drop_append_of_le_length (by omega), ← hm, List.drop_of_length_le (by omega), List.append_nil]
  exact (List.take_of_length_le (by rw [List.length_append]; omega)).symm

theorem part_holds {w : World} {b L o n : Nat} {m q M r tail tl : List UInt8} (hL : L = M.length) (ho : o = L % 64) (hn : n = min r.length (64 - o)) (hf : ¬ 64 - o ≤ r.length) (htl : tl = tail.take o ++ (r.take n ++ tail.drop (o + n))) (ht : tail.length = 64)
    (hmt : tail.take (M.length % 64) = M.drop (64 * (M.length / 64))) (hM : M = m ++ q) (hm : Mem w b 93 (stateCells (blocks init M (L / 64)) tl (L + n))) : Holds w b (m ++ (q ++ r.take n)) := by
  have hnr : n = r.length := by omega
  subst hnr
  rw [List.take_of_length_le (Nat.le_refl _)] at htl ⊢
  rw [← List.append_assoc, ← hM]
  subst hL ho
  obtain ⟨h1, h2⟩ := tail_part M r tail ht hmt (by omega)
  refine ⟨tl, ?_, ?_, ?_⟩
  · rw [htl]; simp; omega
  · rw [htl]; exact h1
  · rw [h2, blocks_append _ _ _ _ (by omega), List.length_append]
    exact hm
theorem full_holds {w : World} {b L o n : Nat} {m q M r tail tl : List UInt8} (hL : L = M.length) (ho : o = L % 64) (hn : n = min r.length (64 - o)) (hf : 64 - o ≤ r.length) (htl : tl = tail.take o ++ (r.take n ++ tail.drop (o + n))) (ht : tail.length = 64)
    (hmt : tail.take (M.length % 64) = M.drop (64 * (M.length / 64))) (hM : M = m ++ q) (hm : Mem w b 93 (stateCells (mix (blocks init M (L / 64)) tl) tl (L + n))) : Holds w b (m ++ (q ++ r.take n)) := by
  have hnr : n = 64 - o := by omega
  have hrl : (r.take n).length = 64 - M.length % 64 := by rw [List.length_take]; omega
  rw [← List.append_assoc, ← hM]
  subst hL ho
  obtain ⟨h1, h2, h3⟩ := tail_full M (r.take n) tail ht hmt hrl
  have hnl : (r.take n).length = n := by omega
  rw [hnl] at h3
  refine ⟨tl, ?_, ?_, ?_⟩
  · rw [htl]; simp; omega
  · rw [h2, List.take_zero, List.drop_of_length_le (by rw [h1]; rw [List.length_append]; omega)]
  · rw [h1]
    simp only [blocks]
    rw [blocks_append _ _ _ _ (by omega), ← h3, ← htl, List.length_append, hnl]
    exact hm
theorem ld_words (p : Value) : Instr.loadAt 89 p = ldRow 89 p := rfl
theorem ld_tail (p : Value) : Instr.loadAt 90 p = ldRow 90 p := rfl
theorem st_words (p v : Value) : Instr.storeAt 89 p v = stRow 89 p v := rfl
theorem ld_words_at (w : World) (b o : Nat) (h : HasRow w b o 8) : (ldRow 89 (.pointer (some ⟨b, o, none⟩))).run Tryd.prog w = .ok (.agg (rowOf w b o 8).toArray) w := ldRow_at Tryd.underlying89 (by kernel_rfl) w b o h
theorem ld_tail_at (w : World) (b o : Nat) (h : HasRow w b o 64) : (ldRow 90 (.pointer (some ⟨b, o, none⟩))).run Tryd.prog w = .ok (.agg (rowOf w b o 64).toArray) w := ldRow_at Tryd.underlying90 (by kernel_rfl) w b o h
theorem st_words_at (w : World) (b o : Nat) (cs : List Value) (hl : cs.length = 8) (h1 : ∀ v ∈ cs, v.oneCell' = true) (h : HasRow w b o 8) : (stRow 89 (.pointer (some ⟨b, o, none⟩)) (.agg cs.toArray)).run Tryd.prog w = .ok () (w.setCells b o cs) := stRow_at (by kernel_rfl) w b o cs hl h1 h
theorem one_words (s : St) : ∀ v ∈ s.list.map wordV, v.oneCell' = true := by
  intro v hv
  obtain ⟨x, _, rfl⟩ := List.mem_map.1 hv
  rfl
theorem stateCells_mixed (s s' : St) (tail : List UInt8) (count : Nat) : (stateCells s tail count).take 0 ++ (s'.list.map wordV ++ (stateCells s tail count).drop (0 + (s'.list.map wordV).length)) = stateCells s' tail count := by
  simp [stateCells, St.list]
theorem after_mix {w w3 : World} {b : Nat} {t : TypeId} {cs : List Value} (h : Mem w b t cs) (hl : 8 ≤ cs.length) (hb : Below w.drew.heap.size w.drew w3) : HasRow w3 b 0 8 := Mem.hasRow (h.drew.below hb h.lt) 0 8 (by omega)
attribute [local go_sem ↓] ld_words ld_tail st_words
attribute [local go_sem] ld_words_at ld_tail_at st_words_at
/-- How long a string value is. -/
def strLen : Value → Nat
  | .string s => s.size
  | _ => 0

set_option maxHeartbeats 1000000 in
set_option maxRecDepth 100000 in
theorem add_any (w : World) (b : Nat) (m p : List UInt8) (hc : Consts w) (hb : 2 ≤ b) (hh : Holds w b m) (hl : m.length + p.length < 1152921504606846976) :
    Calls Tryd.prog 45 #[.pointer (some ⟨b, 0, none⟩), .string (str p)] w fun e w' => e = .returned (.tuple #[]) ∧ Holds w' b (m ++ p) ∧ w.grownBy w' (some b) := by
  have HC := Lib.hid hc
  have HH := Lib.hid hh
  clear hc hh
  go_enter Tryd.func45, Tryd.ntmps45
  go_wp2
  go_loopw [1] (fun s wr => ∃ q r : List UInt8, Hid (p = q ++ r) ∧ s = .string (str r) ∧ Hid (Holds wr b (m ++ q)) ∧ w.grownBy wr (some b)) (fun s _ => strLen s)
  case atStart => exact ⟨[], p, Lib.hid rfl, rfl, Lib.hid (by rw [List.append_nil]; exact HH.out), ⟨rfl, rfl, rfl, Nat.le_refl _, fun _ _ _ => rfl⟩⟩
  case round =>
    clear HH
    obtain ⟨q, r, HP, rfl, HR, hg⟩ := hrel
    have hlen : q.length + r.length = p.length := by rw [HP.out, List.length_append]
    by_cases hr : r.length = 0
    · have hr0 : r = [] := List.eq_nil_of_length_eq_zero hr
      subst hr0
      go_wp2
      go_end0
      have e : p = q := by rw [HP.out, List.append_nil]
      exact ⟨rfl, by rw [e]; exact HR.out, hg⟩
    · have hpos : (0 : Int) < (r.length : Int) := by omega
      have hdr : decide ((0 : Int) < (r.length : Int)) = true := by simpa using hpos
      obtain ⟨M, hM⟩ : ∃ M, M = m ++ q := ⟨_, rfl⟩
      rw [← hM] at HR
      have hML : M.length + r.length < 1152921504606846976 := by rw [hM, List.length_append]; omega
      have HM := Lib.hid hM
      clear hM hlen
      obtain ⟨tail, ht, hmt, hmem⟩ := HR.out
      obtain ⟨L, hL⟩ : ∃ L, L = M.length := ⟨_, rfl⟩
      rw [← hL] at hmem hML
      have c72 : wr.cell? ⟨b, 72, none⟩ = some (.int .u64 (L : Int)) := by rw [hmem.cell, stateCells_at _ _ _ ht]
      obtain ⟨o, ho⟩ : ∃ o, o = L % 64 := ⟨_, rfl⟩
      have hom : (L : Int).tmod 64 = (o : Int) := by rw [Int.tmod_eq_emod_of_nonneg (by omega)]; omega
      have hom2 : (L : Int) % 64 = (o : Int) := by omega
      have ho1 : (0 : Int) ≤ (o : Int) := by omega
      have ho2 : (o : Int) ≤ 64 := by omega
      have ho4 : o < 64 := by omega
      have ho3 : ¬ (64 = o) := by omega
      have HL := Lib.hid hL
      have HO := Lib.hid ho
      have HT := Lib.hid ht
      have HMT := Lib.hid hmt
      have HMEM := Lib.hid hmem
      clear hL ho ht hmt hmem
      go_wp2
      clear hpos hdr
      go_still_tail 10, (by kernel_rfl)
      change wpList _ _ _ _ _ wr.drew
      refine wp_copy_str (by exact HMEM.out.drew) (.tmp 16) (.tmp 17) 79 9 5 (8 + o) (64 - o) (64 - o) r rfl rfl rfl rfl Tryd.underlying79 (by kernel_rfl) ?_ ?_
      · rw [length_stateCells _ _ _ HT.out]; omega
      rw [stateCells_copy _ _ _ o _ _ HT.out (by omega) (by rw [List.length_take]; omega)]
      obtain ⟨n, hn⟩ : ∃ n, n = min r.length (64 - o) := ⟨_, rfl⟩
      rw [← hn]
      have hnr : n ≤ r.length := by omega
      have hsl := fun W => slice_str_from (P := Tryd.prog) Tryd.underlying9 r .i64 n hnr W
      have hst := HMEM.out.drew.setRow (stateCells (blocks init M (L / 64)) (tail.take o ++ (r.take n ++ tail.drop (o + n))) L)
      have hgr := grown_row (grown_drew hg) (stateCells (blocks init M (L / 64)) (tail.take o ++ (r.take n ++ tail.drop (o + n))) L).toArray
      revert hst hgr
      generalize wr.drew.setRow b (stateCells (blocks init M (L / 64)) (tail.take o ++ (r.take n ++ tail.drop (o + n))) L).toArray = W1
      intro hst hgr
      obtain ⟨tl, htl⟩ : ∃ tl, tl = tail.take o ++ (r.take n ++ tail.drop (o + n)) := ⟨_, rfl⟩
      rw [← htl] at hst
      have hl64 : tl.length = 64 := by
        have := HT.out
        rw [htl]; simp; omega
      have d72 : W1.cell? ⟨b, 72, none⟩ = some (.int .u64 (L : Int)) := by rw [hst.cell, stateCells_at _ _ _ hl64]
      have f72 := hst.frozen 72
      have H1 := Lib.hid hst
      have HN := Lib.hid hn
      have HTL := Lib.hid htl
      have H64 := Lib.hid hl64
      clear hst hn htl hl64 c72 hg
      have hsum : M.length + n < 1152921504606846976 := by rw [← HL.out]; omega
      by_cases hfull : 64 - o ≤ r.length
      · have hne : (((L : Int) + (n : Int)) % 64 == 0) = true := by
          have := HN.out; have := HO.out
          simp; omega
        go_wp2
        have e1 := H1.out.set 72 (.int .u64 ((L : Int) + (n : Int)))
        rw [show ((L : Int) + (n : Int)) = ((L + n : Nat) : Int) from by omega, stateCells_count _ _ _ _ H64.out] at e1
        have e2 := grown_cell hgr 72 (.int .u64 ((L : Int) + (n : Int)))
        rw [show ((L : Int) + (n : Int)) = ((L + n : Nat) : Int) from by omega] at e2 ⊢
        revert e1 e2
        generalize W1.setCell ⟨b, 72, none⟩ (.int .u64 ((L + n : Nat) : Int)) = W2
        intro e1 e2
        have hc2 := HC.out.grown e2 hb
        obtain ⟨S, hS⟩ : ∃ S, S = blocks init M (L / 64) := ⟨_, rfl⟩
        rw [← hS] at e1
        have hok : S.ok := by rw [hS]; exact blocks_ok init_ok _ _
        have q1 := Mem.row e1 0 8 (S.list.map wordV) ⟨_, rfl⟩ rfl
        have q2 := Mem.row e1 8 64 (tl.map byteV) ⟨[.int .u64 ((L + n : Nat) : Int)], by simp [stateCells, St.list]⟩ (by rw [List.length_map, H64.out])
        have q3 := Mem.hasRow e1 0 8 (by rw [length_stateCells _ _ _ H64.out]; omega)
        have q4 := Mem.hasRow e1 8 64 (by rw [length_stateCells _ _ _ H64.out]; omega)
        have q6 : ((mix S tl).list.map wordV).length = 8 := rfl
        have q7 := Lib.hid (one_words (mix S tl))
        have HS := Lib.hid hS
        have E1 := Lib.hid e1
        have E2 := Lib.hid e2
        clear d72 f72 hS e1 hgr e2 hsl
        go_region_with (first
          | (go_at_call 59; refine (mix_any S tl _ hok H64.out (by exact hc2)).mono ?_; rintro e w3 ⟨rfl, hb3⟩; have q5 := st_words_at w3 b 0 ((mix S tl).list.map wordV) q6 q7.out (after_mix E1.out (by rw [length_stateCells _ _ _ H64.out]; omega) hb3)))
        all_goals
          go_wp2
          go_roundw
          case rel =>
            have e3 := setCells_row ((mix S tl).list.map wordV) 0 w3 _ (E1.out.drew.below hb3 E1.out.lt) (by rw [length_stateCells _ _ _ H64.out]; simp [St.list])
            rw [stateCells_mixed] at e3
            rw [HS.out] at e3 ⊢
            exact ⟨q ++ r.take n, r.drop n, Lib.hid (by rw [HP.out, List.append_assoc, List.take_append_drop]), rfl, Lib.hid (full_holds HL.out HO.out HN.out hfull HTL.out HT.out HMT.out HM.out e3), grown_cells _ _ _ (grown_below (grown_drew E2.out) hb3)⟩
          case measure => simp only [strLen, size_str, List.length_drop]; have := HN.out; omega
      · have hne : (((L : Int) + (n : Int)) % 64 == 0) = false := by
          have := HN.out; have := HO.out
          simp; omega
        go_wp2
        go_roundw
        case rel =>
          have e1 := H1.out.set 72 (.int .u64 ((L + n : Nat) : Int))
          rw [stateCells_count _ _ _ _ H64.out] at e1
          exact ⟨q ++ r.take n, r.drop n, Lib.hid (by rw [HP.out, List.append_assoc, List.take_append_drop]), rfl, Lib.hid (part_holds HL.out HO.out HN.out hfull HTL.out HT.out HMT.out HM.out e1), grown_cell hgr 72 _⟩
        case measure => simp only [strLen, size_str, List.length_drop]; have := HN.out; omega
end Go.Proofs.YtblfekecmahagaaDoor

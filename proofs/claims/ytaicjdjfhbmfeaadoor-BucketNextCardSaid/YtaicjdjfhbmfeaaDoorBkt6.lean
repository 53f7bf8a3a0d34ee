/-
  Package bucket: heard.
-/
import Derived.Test.YtaicjdjfhbmfeaaDoorBkt5
namespace Go.Proofs.YtaicjdjfhbmfeaaDoor
open Go.RowKit Crv

section
variable {W W' : World} {tb : Nat} {sv : Nat → Value} {x : BS} {F : Nat → Prop}
/-- A list turned, and something laid behind it. -/
theorem grown_three {a b c d : World} {r : Option Nat} (h1 : a.grownBy b r) (h2 : Below b.heap.size b c) (h3 : c.grownBy d r) : a.grownBy d r := grown_trans (grown_below h1 h2) h3
theorem Tbl.nilQ (h : Tbl W tb sv x) {k : Nat} (hk : k < 257) : Tbl (W.setCell ⟨tb, 33 + (k * 2 + 1), none⟩ (.slice none 0 0)) tb (updV sv (k * 2 + 1) (.slice none 0 0)) (putB x k (x.K k) []) :=
  h.putQ hk (v' := .slice none 0 0) (Q := []) (Owns.nil _ _ _) (by simp) (grownRefl _ _) (fun g hg => by cases hg)
theorem foot_nil {j0 : Nat} : ∀ b, FootB tb (updV sv j0 (.slice none 0 0)) b → FootB tb sv b := by
  rintro b (rfl | ⟨j, hj, ho⟩)
  · exact .inl rfl
  · by_cases e : j = j0
    · subst e
      rw [updV_same] at ho
      cases ho
    · rw [updV_other _ _ e] at ho
      exact .inr ⟨j, hj, ho⟩
set_option maxHeartbeats 1000000 in
set_option maxRecDepth 100000 in
theorem heard_in (h : Tbl W tb sv x) (hF : ∀ b, FootB tb sv b → F b) {k : Nat} (hk : k < 257) {n : Int} (hm : n ∈ x.K k) : Calls Tryd.prog 47 #[.pointer (some ⟨tb, 33 + k * 2, none⟩), iv n] W fun e w' =>
    e = .returned (.tuple #[iv 0, .bool false]) ∧ Bx w' (And_new F W) tb (putB x k (heardB (x.K k) (x.Q k) n).1 (heardB (x.K k) (x.Q k) n).2.1) ∧ Fr F W w' := by
  have hO := h.own (k * 2) (by omega)
  rw [lstB_K] at hO
  have h4 := h.k4 k
  have HI := Lib.hid (index_any hO (by omega) n)
  obtain ⟨i, hi⟩ : ∃ i, i = (x.K k).idxOf n := ⟨_, rfl⟩
  have hidx : idxI (x.K k) n = (i : Int) := by unfold idxI; rw [if_pos hm, hi]
  have hil : i < (x.K k).length := by rw [hi]; exact List.idxOf_lt_length_iff.2 hm
  have e : heardB (x.K k) (x.Q k) n = ((x.K k).eraseIdx i ++ [n], if i = 0 then [] else x.Q k, none) := by unfold heardB; rw [if_pos hm, hi]
  rw [e]
  rw [hidx] at HI
  have HD := Lib.hid (delete_any hO i hil)
  have hel : ((x.K k).eraseIdx i).length + 1 = (x.K k).length := by rw [List.length_eraseIdx_of_lt hil]; omega
  obtain ⟨L1, hL1⟩ : ∃ L1, L1 = (x.K k).eraseIdx i := ⟨_, rfl⟩
  rw [← hL1] at HD hel ⊢
  have HEL := Lib.hid (show (L1 ++ [n]).length ≤ 4 by rw [List.length_append]; simp; omega)
  have HLEN := Lib.hid (show (L1.map iv).length + [iv n].length ≤ 1099511627776 by rw [List.length_map]; simp; omega)
  have HONE := Lib.hid (show ∀ u ∈ [iv n], u.oneCell' = true by intro u hu; simp at hu; subst hu; rfl)
  have hcK := h.cell (k * 2) (by omega)
  have hi4 : i < 4 := by omega
  obtain ⟨a, cap, hs, -, -, -⟩ := hO.form
  rw [hs] at hcK HI HD
  simp only [List.length_map] at hcK HI HD hs
  have HS := Lib.hid hs
  have HT := Lib.hid h
  have HFF := Lib.hid hF
  obtain ⟨ti, hti, hz, hs1, hby⟩ := int_inf
  have HBY : ti.bytes ≤ 64 := by omega
  have HTI := Lib.hid hti
  have HZ := Lib.hid hz
  have HS1 := Lib.hid hs1
  have HK := Lib.hid hk
  have HK5 : k * 2 < 514 := by omega
  clear h hF e hO hs hi hidx hil hel h4 hti hz hs1 hby hm hL1 hk
  go_enter Tryd.func47, Tryd.ntmps47
  go_wp2_with fail
  refine HI.out.mono ?_
  rintro e w' ⟨rfl, rfl⟩
  have hi0 : decide ((0 : Int) ≤ (i : Int)) = true := by simp
  go_wp2_with fail
  refine HD.out.mono ?_
  rintro e w1 ⟨v1, rfl, ho1, hg1, hb1⟩
  have hf1 := ho1.form
  rw [List.length_map] at hf1
  obtain ⟨a1, c1, rfl, -, -, -⟩ := hf1
  have HO1 := Lib.hid ho1
  have HG1 := Lib.hid hg1
  have HB1 := Lib.hid hb1
  clear ho1 hg1 hb1 hcK
  by_cases h0 : i = 0
  · subst h0
    go_wp2_with (first
      | (at_builtin; refine wp_append_gr (v := .slice a1 L1.length c1) (HO1.out.alloc _) [iv n] (.tmp 24) (.tmp 26) Tis ti (iv 0) rfl rfl Tryd.underlying31 HTI.out HZ.out HS1.out HBY rfl rfl rfl (fun j u hu => cell_news_one _ _ _ j u hu) HONE.out HLEN.out (Nat.zero_le _) ?_
         intro v3 w3 hown3 hg3 hat3
         have hf3 := hown3.form
         rw [List.length_append, List.length_map] at hf3
         obtain ⟨a3, c3, rfl, -, -, -⟩ := hf3
         have HO3 := Lib.hid (show Owns w3 0 Tin (.slice a3 (L1.length + [iv n].length) c3) ((L1 ++ [n]).map iv) by rw [List.map_append]; exact hown3)
         have HG3 := Lib.hid (show W.grownBy w3 (sv (k * 2)).ownBlock by rw [HS.out, ← HB1.out]; exact grown_three (HB1.out ▸ HG1.out) (belowSelf w1 _) hg3)
         have HAT3 := Lib.hid (show ∀ g, (Value.slice a3 (L1.length + [iv n].length) c3).ownBlock = some g → (sv (k * 2)).ownBlock = some g ∨ W.heap.size ≤ g from fun g hg => by
           rcases hat3 with e | e
           · rw [HS.out, ← HB1.out, ← e]; exact .inl hg
           · rw [e] at hg
             injection hg with hg
             subst hg
             exact .inr (Nat.le_trans HG1.out.size (belowSelf w1 _).size))
         obtain ⟨⟨hc3, hz3⟩⟩ : Nonempty (PProd (w3.cell? ⟨tb, 33 + k * 2, none⟩ = some (.slice a (x.K k).length cap)) (w3.frozen? ⟨tb, 33 + k * 2, none⟩ = false)) := by
           have h3 := HT.out.atj HK5 HK5 HG3.out
           rw [HS.out] at h3
           exact ⟨⟨h3.1, h3.2⟩⟩
         have HT4 := Lib.hid (HT.out.putK HK.out HO3.out HEL.out HG3.out HAT3.out)
         have HF4 := Lib.hid (foot_put (W := W) (F := F) HFF.out HAT3.out HK5)
         have HR4 := Lib.hid (fr_put (v' := .slice a3 (L1.length + [iv n].length) c3) HFF.out HK5 (33 + k * 2) HG3.out)
         obtain ⟨⟨hc4, hz4⟩⟩ : Nonempty (PProd ((w3.setCell ⟨tb, 33 + k * 2, none⟩ (.slice a3 (L1.length + 1) c3)).cell? ⟨tb, 33 + k * 2 + 1, none⟩ = some (updV sv (k * 2) (.slice a3 (L1.length + 1) c3) (k * 2 + 1))) ((w3.setCell ⟨tb, 33 + k * 2, none⟩ (.slice a3 (L1.length + 1) c3)).frozen? ⟨tb, 33 + k * 2 + 1, none⟩ = false)) :=
           ⟨⟨HT4.out.cell (k * 2 + 1) (by omega), HT4.out.tag.frozen _⟩⟩
         clear hown3 hg3 hat3)
      | fail)
    go_ret2
    have h5 := HT4.out.nilQ HK.out
    rw [K_put, putB_put] at h5
    exact ⟨rfl, ⟨_, h5, fun b hb => HF4.out b (foot_nil b hb)⟩, HR4.out.trans (Fr.set (F := F) _ _ (HFF.out tb (.inl rfl))) (fun _ hi => .inl hi)⟩
  · have h0' : decide ((i : Int) = 0) = false := by simpa using h0
    go_wp2_with (first
      | (at_builtin; refine wp_append_gr (v := .slice a1 L1.length c1) (HO1.out.alloc _) [iv n] (.tmp 24) (.tmp 26) Tis ti (iv 0) rfl rfl Tryd.underlying31 HTI.out HZ.out HS1.out HBY rfl rfl rfl (fun j u hu => cell_news_one _ _ _ j u hu) HONE.out HLEN.out (Nat.zero_le _) ?_
         intro v3 w3 hown3 hg3 hat3
         have hf3 := hown3.form
         rw [List.length_append, List.length_map] at hf3
         obtain ⟨a3, c3, rfl, -, -, -⟩ := hf3
         have HO3 := Lib.hid (show Owns w3 0 Tin (.slice a3 (L1.length + [iv n].length) c3) ((L1 ++ [n]).map iv) by rw [List.map_append]; exact hown3)
         have HG3 := Lib.hid (show W.grownBy w3 (sv (k * 2)).ownBlock by rw [HS.out, ← HB1.out]; exact grown_three (HB1.out ▸ HG1.out) (belowSelf w1 _) hg3)
         have HAT3 := Lib.hid (show ∀ g, (Value.slice a3 (L1.length + [iv n].length) c3).ownBlock = some g → (sv (k * 2)).ownBlock = some g ∨ W.heap.size ≤ g from fun g hg => by
           rcases hat3 with e | e
           · rw [HS.out, ← HB1.out, ← e]; exact .inl hg
           · rw [e] at hg
             injection hg with hg
             subst hg
             exact .inr (Nat.le_trans HG1.out.size (belowSelf w1 _).size))
         obtain ⟨⟨hc3, hz3⟩⟩ : Nonempty (PProd (w3.cell? ⟨tb, 33 + k * 2, none⟩ = some (.slice a (x.K k).length cap)) (w3.frozen? ⟨tb, 33 + k * 2, none⟩ = false)) := by
           have h3 := HT.out.atj HK5 HK5 HG3.out
           rw [HS.out] at h3
           exact ⟨⟨h3.1, h3.2⟩⟩
         have HT4 := Lib.hid (HT.out.putK HK.out HO3.out HEL.out HG3.out HAT3.out)
         have HF4 := Lib.hid (foot_put (W := W) (F := F) HFF.out HAT3.out HK5)
         have HR4 := Lib.hid (fr_put (v' := .slice a3 (L1.length + [iv n].length) c3) HFF.out HK5 (33 + k * 2) HG3.out)
         obtain ⟨⟨hc4, hz4⟩⟩ : Nonempty (PProd ((w3.setCell ⟨tb, 33 + k * 2, none⟩ (.slice a3 (L1.length + 1) c3)).cell? ⟨tb, 33 + k * 2 + 1, none⟩ = some (updV sv (k * 2) (.slice a3 (L1.length + 1) c3) (k * 2 + 1))) ((w3.setCell ⟨tb, 33 + k * 2, none⟩ (.slice a3 (L1.length + 1) c3)).frozen? ⟨tb, 33 + k * 2 + 1, none⟩ = false)) :=
           ⟨⟨HT4.out.cell (k * 2 + 1) (by omega), HT4.out.tag.frozen _⟩⟩
         clear hown3 hg3 hat3)
      | fail)
    go_ret2
    exact ⟨rfl, ⟨_, HT4.out, HF4.out⟩, HR4.out⟩
set_option maxHeartbeats 1000000 in
set_option maxRecDepth 100000 in
theorem heard_room (h : Tbl W tb sv x) (hF : ∀ b, FootB tb sv b → F b) {k : Nat} (hk : k < 257) {n : Int} (hm : n ∉ x.K k) (hl : (x.K k).length < 4) : Calls Tryd.prog 47 #[.pointer (some ⟨tb, 33 + k * 2, none⟩), iv n] W fun e w' =>
    e = .returned (.tuple #[iv 0, .bool false]) ∧ Bx w' (And_new F W) tb (putB x k (x.K k ++ [n]) (x.Q k)) ∧ Fr F W w' := by
  have hO := h.own (k * 2) (by omega)
  rw [lstB_K] at hO
  have HI := Lib.hid (index_any hO (by omega) n)
  have hidx : idxI (x.K k) n = -1 := by unfold idxI; rw [if_neg hm]
  rw [hidx] at HI
  have HEL := Lib.hid (show (x.K k ++ [n]).length ≤ 4 by rw [List.length_append]; simp; omega)
  have HLEN := Lib.hid (show ((x.K k).map iv).length + [iv n].length ≤ 1099511627776 by rw [List.length_map]; simp; omega)
  have HONE := Lib.hid (show ∀ u ∈ [iv n], u.oneCell' = true by intro u hu; simp at hu; subst hu; rfl)
  have hcK := h.cell (k * 2) (by omega)
  obtain ⟨a, cap, hs, -, -, -⟩ := hO.form
  have HO := Lib.hid hO
  rw [hs] at hcK HI
  simp only [List.length_map] at hcK HI hs
  have HS := Lib.hid hs
  have HT := Lib.hid h
  have HFF := Lib.hid hF
  obtain ⟨ti, hti, hz, hs1, hby⟩ := int_inf
  have HBY : ti.bytes ≤ 64 := by omega
  have HTI := Lib.hid hti
  have HZ := Lib.hid hz
  have HS1 := Lib.hid hs1
  have HK := Lib.hid hk
  have HK5 : k * 2 < 514 := by omega
  have hd4 : decide (((x.K k).length : Int) < 4) = true := by simp; omega
  have hl4 : ((x.K k).length : Int) < 4 := by omega
  clear h hF hO hs hidx hti hz hs1 hby hm hk
  go_enter Tryd.func47, Tryd.ntmps47
  go_wp2_with fail
  refine HI.out.mono ?_
  rintro e w' ⟨rfl, rfl⟩
  go_wp2_with (first
    | (at_builtin; refine wp_append_gr (v := .slice a (x.K k).length cap) ((HS.out ▸ HO.out).alloc _) [iv n] (.tmp 46) (.tmp 48) Tis ti (iv 0) rfl rfl Tryd.underlying31 HTI.out HZ.out HS1.out HBY rfl rfl rfl (fun j u hu => cell_news_one _ _ _ j u hu) HONE.out HLEN.out (Nat.zero_le _) ?_
       intro v3 w3 hown3 hg3 hat3
       have hf3 := hown3.form
       rw [List.length_append, List.length_map] at hf3
       obtain ⟨a3, c3, rfl, -, -, -⟩ := hf3
       have HO3 := Lib.hid (show Owns w3 0 Tin (.slice a3 ((x.K k).length + [iv n].length) c3) (((x.K k) ++ [n]).map iv) by rw [List.map_append]; exact hown3)
       have HG3 := Lib.hid (show W.grownBy w3 (sv (k * 2)).ownBlock by rw [HS.out]; exact grown_three (grownRefl _ _) (belowSelf W _) hg3)
       have HAT3 := Lib.hid (show ∀ g, (Value.slice a3 ((x.K k).length + [iv n].length) c3).ownBlock = some g → (sv (k * 2)).ownBlock = some g ∨ W.heap.size ≤ g from fun g hg => by
         rcases hat3 with e | e
         · rw [HS.out, ← e]; exact .inl hg
         · rw [e] at hg
           injection hg with hg
           subst hg
           exact .inr (belowSelf W _).size)
       obtain ⟨⟨hc3, hz3⟩⟩ : Nonempty (PProd (w3.cell? ⟨tb, 33 + k * 2, none⟩ = some (.slice a (x.K k).length cap)) (w3.frozen? ⟨tb, 33 + k * 2, none⟩ = false)) := by
         have h3 := HT.out.atj HK5 HK5 HG3.out
         rw [HS.out] at h3
         exact ⟨⟨h3.1, h3.2⟩⟩
       have HT4 := Lib.hid (HT.out.putK HK.out HO3.out HEL.out HG3.out HAT3.out)
       have HF4 := Lib.hid (foot_put (W := W) (F := F) HFF.out HAT3.out HK5)
       have HR4 := Lib.hid (fr_put (v' := .slice a3 ((x.K k).length + [iv n].length) c3) HFF.out HK5 (33 + k * 2) HG3.out)
       obtain ⟨⟨hc4, hz4⟩⟩ : Nonempty (PProd ((w3.setCell ⟨tb, 33 + k * 2, none⟩ (.slice a3 ((x.K k).length + 1) c3)).cell? ⟨tb, 33 + k * 2 + 1, none⟩ = some (updV sv (k * 2) (.slice a3 ((x.K k).length + 1) c3) (k * 2 + 1))) ((w3.setCell ⟨tb, 33 + k * 2, none⟩ (.slice a3 ((x.K k).length + 1) c3)).frozen? ⟨tb, 33 + k * 2 + 1, none⟩ = false)) :=
         ⟨⟨HT4.out.cell (k * 2 + 1) (by omega), HT4.out.tag.frozen _⟩⟩
       clear hown3 hg3 hat3)
    | fail)
  go_ret2
  exact ⟨rfl, ⟨_, HT4.out, HF4.out⟩, HR4.out⟩
set_option maxHeartbeats 1000000 in
set_option maxRecDepth 100000 in
theorem heard_ask (h : Tbl W tb sv x) (hF : ∀ b, FootB tb sv b → F b) {k : Nat} (hk : k < 257) {n : Int} (hm : n ∉ x.K k) (hl : ¬ (x.K k).length < 4) (hq : (x.Q k).length = 0) : Calls Tryd.prog 47 #[.pointer (some ⟨tb, 33 + k * 2, none⟩), iv n] W fun e w' =>
    e = .returned (.tuple #[iv ((x.K k).getD 0 0), .bool true]) ∧ Bx w' (And_new F W) tb (putB x k (x.K k) [n]) ∧ Fr F W w' := by
  have hO := h.own (k * 2) (by omega)
  rw [lstB_K] at hO
  have h4 := h.k4 k
  have HI := Lib.hid (index_any hO (by omega) n)
  have hidx : idxI (x.K k) n = -1 := by unfold idxI; rw [if_neg hm]
  rw [hidx] at HI
  have hO2 := h.own (k * 2 + 1) (by omega)
  rw [lstB_Q] at hO2
  have hcK := h.cell (k * 2) (by omega)
  obtain ⟨cQ⟩ : Nonempty (PLift (W.cell? ⟨tb, 33 + k * 2 + 1, none⟩ = some (sv (k * 2 + 1)))) := ⟨⟨h.cell (k * 2 + 1) (by omega)⟩⟩
  have hcQ := cQ.down
  clear cQ
  obtain ⟨a2, cap2, hs2, -, -, -⟩ := hO2.form
  rw [List.length_map, hq] at hs2
  rw [hs2] at hcQ
  obtain ⟨a, cap, hs, -, -, -⟩ := hO.form
  have HO := Lib.hid hO
  rw [hs] at hcK HI
  simp only [List.length_map] at hcK HI hs
  have HS := Lib.hid hs
  have HT := Lib.hid h
  have HFF := Lib.hid hF
  have HK := Lib.hid hk
  have HK5 : k * 2 < 514 := by omega
  have hd4 : decide (((x.K k).length : Int) < 4) = false := by simp; omega
  have hl4 : ¬ ((x.K k).length : Int) < 4 := by omega
  have hG := grown_below (grownRefl W (sv (k * 2 + 1)).ownBlock) (belowSelf W (.cells #[iv n] Tin))
  have hat : ∀ g, (Value.slice (some ⟨W.heap.size, 0, none⟩) 1 1).ownBlock = some g → (sv (k * 2 + 1)).ownBlock = some g ∨ W.heap.size ≤ g := fun g hg => .inr (by
    injection hg with hg
    exact Nat.le_of_eq hg)
  have HT4 := Lib.hid (h.putQ hk (v' := .slice (some ⟨W.heap.size, 0, none⟩) 1 1) (Q := [n]) (Owns.of_mem (Mem.new W Tin [iv n]) (Nat.zero_le _) 1 1 (Nat.le_refl _) rfl (by simp [maxLen]) rfl) (Nat.le_refl _) hG hat)
  have HF4 := Lib.hid (foot_put (W := W) (F := F) hF hat (show k * 2 + 1 < 514 by omega))
  have HR4 := Lib.hid (fr_put (v' := .slice (some ⟨W.heap.size, 0, none⟩) 1 1) hF (show k * 2 + 1 < 514 by omega) (33 + (k * 2 + 1)) hG)
  obtain ⟨⟨hcA, hzA⟩⟩ : Nonempty (PProd ((W.alloc (.cells #[iv n] Tin)).cell? ⟨tb, 33 + k * 2 + 1, none⟩ = some (.slice a2 0 cap2)) ((W.alloc (.cells #[iv n] Tin)).frozen? ⟨tb, 33 + k * 2 + 1, none⟩ = false)) := by
    have h3 := h.atj (show k * 2 + 1 < 514 by omega) (show k * 2 + 1 < 514 by omega) hG
    rw [hs2] at h3
    exact ⟨⟨h3.1, h3.2⟩⟩
  obtain ⟨⟨hcB, hcC⟩⟩ : Nonempty (PProd (((W.alloc (.cells #[iv n] Tin)).setCell ⟨tb, 33 + k * 2 + 1, none⟩ (.slice (some ⟨W.heap.size, 0, none⟩) 1 1)).cell? ⟨tb, 33 + k * 2, none⟩ = some (.slice a (x.K k).length cap))
      (∃ g, a = some ⟨g, 0, none⟩ ∧ ((W.alloc (.cells #[iv n] Tin)).setCell ⟨tb, 33 + k * 2 + 1, none⟩ (.slice (some ⟨W.heap.size, 0, none⟩) 1 1)).cell? ⟨g, 0, none⟩ = some (iv ((x.K k).getD 0 0)))) := by
    have e := HT4.out.cell (k * 2) (by omega)
    rw [updV_other _ _ (by omega), hs] at e
    have o := HT4.out.own (k * 2) (by omega)
    rw [updV_other _ _ (by omega), hs, lstB_K, K_put] at o
    obtain ⟨a', cap', e', -, -, hc'⟩ := Zs'.cell o
    injection e' with e1 e2 e3
    subst e1
    exact ⟨⟨e, hc' 0 (by omega)⟩⟩
  obtain ⟨g0, rfl, hcD⟩ := hcC
  have hlp : (0 : Int) < ((x.K k).length : Int) := by omega
  obtain ⟨y0, hy0⟩ : ∃ y0, y0 = (x.K k).getD 0 0 := ⟨_, rfl⟩
  rw [← hy0] at hcD ⊢
  clear hy0 hat hG
  clear h hF hO hO2 hs hs2 hidx hm hk
  go_enter Tryd.func47, Tryd.ntmps47
  go_wp2_with fail
  refine HI.out.mono ?_
  rintro e w' ⟨rfl, rfl⟩
  go_wp2_with fail
  go_ret2
  exact ⟨rfl, ⟨_, HT4.out, HF4.out⟩, HR4.out⟩
end
end Go.Proofs.YtaicjdjfhbmfeaaDoor

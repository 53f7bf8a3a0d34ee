/-
  Package provider: Drop.
-/
import Derived.Test.YtilmidddhkofaaaPm5
import Derived.Test.YtilmidddhkofaaaZp
namespace Go.Proofs.Ytilmidddhkofaaa
open Go.RowKit Go.Maps Crv

/-- These keys are gone. -/
def dels (xs : List Int) (l : List (Int × Int)) : List (Int × Int) := xs.foldl (fun m a => delK a m) l
theorem dels_snoc (xs : List Int) (a : Int) (l : List (Int × Int)) : dels (xs ++ [a]) l = delK a (dels xs l) := by simp [dels]
theorem dels_mem : ∀ {xs : List Int} {l : List (Int × Int)} {p : Int × Int}, p ∈ dels xs l ↔ p ∈ l ∧ p.1 ∉ xs
  | [], l, p => by simp [dels]
  | a :: xs, l, p => by
    have ih := dels_mem (xs := xs) (l := delK a l) (p := p)
    unfold dels at ih ⊢
    rw [List.foldl_cons, ih]
    unfold delK
    rw [List.mem_filter]
    simp
    constructor
    · rintro ⟨⟨h1, h2⟩, h3⟩; exact ⟨h1, h2, h3⟩
    · rintro ⟨h1, h2, h3⟩; exact ⟨⟨h1, h2⟩, h3⟩
theorem updK_updK {κ ν : Type} [DecidableEq κ] (k : κ) (v v' : ν) (l : List (κ × ν)) : updK k v' (updK k v l) = updK k v' l := by
  unfold updK
  rw [List.map_map]
  refine List.map_congr_left fun p _ => ?_
  simp only [Function.comp]
  by_cases h : p.1 = k
  · simp [h]
  · simp [h]
/-- A list of numbers stands while a map turns. -/
theorem zsP_map {w w' : World} {v : Value} {xs : List Int} {b : Nat} (h : ZsP w v xs) (hm : ∃ es c, w.heap[b]? = some (.map es c)) (hg : w.grownBy w' (some b)) : ZsP w' v xs := by
  obtain ⟨a, cap, hv, hc⟩ := h
  obtain ⟨es, c, hb⟩ := hm
  refine ⟨a, cap, hv, fun i hi => ?_⟩
  obtain ⟨b', off, ha, hcell⟩ := hc i hi
  have hlt := World.block_lt_of_cell? w (⟨b', off + i, none⟩ : Addr) hcell
  have hne : b' ≠ b := by
    rintro rfl
    simp [World.cell?, hb] at hcell
  exact ⟨b', off, ha, (World.cell?_of_block (a := ⟨b', off + i, none⟩) (hg.block b' hlt (fun e => hne (by injection e)))).trans hcell⟩
section
variable {W W' : World} {t g : Nat} {T : PT} {x : List UInt8} {v : Value} {xs : List Int}
attribute [local go_sem ↓] ld_id
set_option maxHeartbeats 2000000 in
set_option maxRecDepth 100000 in
theorem drop_some {b : Nat} {l : List (Int × Int)} (h : Ptb W t g T) (hx : x.length = 32) (hn : getK x T = some (b, l)) (hz : ZsP W v xs) (hr : ∀ a ∈ xs, In64 a) (hxl : xs.length ≤ 1000000) :
    Calls Try.prog 13 #[.pointer (some ⟨t, 0, none⟩), nmV x, v] W fun e w' =>
    e = .returned (.tuple #[]) ∧ Ptb w' t g (cleanP (updK x (b, dels xs l) T)) ∧ Fr (fun k => k = b ∨ k = g) W w' := by
  obtain ⟨sa, sc, rfl, hcs⟩ := hz
  have HZ0 := Lib.hid (show ZsP (W.alloc (.cells (x.map byteV).toArray TI)) (.slice sa xs.length sc) xs from ZsP.below ⟨sa, sc, rfl, hcs⟩ (belowSelf W _))
  have HT := Lib.hid h
  have HX := Lib.hid hx
  have HN := Lib.hid hn
  have HR := Lib.hid hr
  have HB0 := Lib.hid (belowSelf W (.cells (x.map byteV).toArray TI))
  have HM0 := Lib.hid (Mem.new W TI (x.map byteV))
  have HMEM := Lib.hid ((mem_getK h.uniq x (b, l)).1 hn)
  have HU := Lib.hid h.uniq
  obtain ⟨N, hN⟩ : ∃ N, N = xs.length := ⟨_, rfl⟩
  have HNN := Lib.hid hN
  rw [← hN] at HZ0 hxl ⊢
  clear h hx hn hr hcs hN
  go_enter Try.func13, Try.ntmps13
  go_wp2_with fail
  go_loopw [10] (fun i wr => ∃ k : Nat, k ≤ N ∧ i = .int .i64 k ∧ Hid (Ptb wr t g (updK x (b, dels (xs.take k) l) T)) ∧ Hid (W.grownBy wr (some b)) ∧ Hid (Mem wr W.heap.size TI (x.map byteV)) ∧ Hid (ZsP wr (.slice sa N sc) xs)) (fun i _ => N - (intOf i).toNat)
  case atStart =>
    refine ⟨0, by omega, rfl, Lib.hid ?_, Lib.hid ((grownOfBelow HB0.out)), HM0, HZ0⟩
    have e : updK x (b, dels (xs.take 0) l) T = T := by
      unfold updK
      conv => rhs; rw [← List.map_id T]
      refine List.map_congr_left fun p hp => ?_
      simp only [List.take_zero, dels, List.foldl_nil, id]
      split
      · rename_i he
        have := (mem_getK HU.out x p.2).2 (by rw [← he]; exact hp)
        rw [HN.out] at this
        injection this with this
        rw [this]
      · rfl
    rw [e]
    exact HT.out.below HB0.out
  case round =>
    obtain ⟨k, hk, rfl, HTR, HGR, HMR, HZR⟩ := hrel
    clear HM0 HZ0 HB0
    by_cases hlt : k < N
    · have hd : decide ((k : Int) < (N : Int)) = true := by simp; omega
      have hdi : (k : Int) < (N : Int) := by omega
      have hkx : k < xs.length := by rw [← HNN.out]; exact hlt
      obtain ⟨a, ha⟩ : ∃ a, a = xs[k] := ⟨_, rfl⟩
      have HA := Lib.hid (show In64 a from HR.out a (by rw [ha]; exact List.getElem_mem hkx))
      have HTK := Lib.hid (show xs.take (k + 1) = xs.take k ++ [a] by rw [ha]; exact List.take_succ_eq_append_getElem hkx)
      obtain ⟨sb, so, hsa, hcell⟩ : ∃ sb so, sa = some ⟨sb, so, none⟩ ∧ wr.cell? ⟨sb, so + k, none⟩ = some (.int .i64 a) := by
        obtain ⟨a1, c1, e1, h1⟩ := HZR.out
        injection e1 with e1 _ _
        obtain ⟨sb, so, h2, h3⟩ := h1 k hkx
        exact ⟨sb, so, e1.trans h2, by rw [h3, List.getD_eq_getElem?_getD, List.getElem?_eq_getElem hkx, ha]; rfl⟩
      subst hsa
      have hgx : getK x (updK x (b, dels (xs.take k) l) T) = some (b, dels (xs.take k) l) := by rw [getK_upd, if_pos rfl, HN.out]; rfl
      have HGX := Lib.hid hgx
      have hin := HTR.out.inn _ ((mem_getK HTR.out.uniq x _).1 hgx)
      simp only at hin
      have hlk : (Instr.lookup Tmim (.map (some g)) (nmV x) false).run Try.prog wr.drew = .ok (.map (some b)) wr.drew := by
        have := MpN.look (W := wr.drew) HTR.out.out HX.out
        rw [nb_get, hgx] at this
        exact this
      have hc0 : wr.drew.cell? ⟨t, 0, none⟩ = some (.map (some g)) := HTR.out.tag.cell 0
      have hld := ld_id_at (HMR.out.drew) HX.out
      obtain ⟨W3, hr3, ho3, hg3⟩ := MpI.drop (W := wr.drew) hin HA.out 0
      have HO3 := Lib.hid ho3
      have HG3 := Lib.hid (show wr.grownBy W3 (some b) from ⟨hg3.os, hg3.tape, hg3.output, hg3.size, hg3.block⟩)
      have HBK := Lib.hid (show ∃ es c, wr.heap[b]? = some (.map es c) from MpS.block hin)
      have HL8 := Lib.hid (HTR.out.few8 _ ((mem_getK HTR.out.uniq x _).1 hgx))
      have HVL := Lib.hid (HTR.out.val _ ((mem_getK HTR.out.uniq x _).1 hgx))
      clear ha ho3 hg3 hgx hin hkx
      go_wp2_with fail
      go_region
      rename_i K hK
      refine hK _ _ ?_
      clear hK K hlk hc0 hld hr3
      have HE3 := Lib.hid (show Ptb W3 t g (updK x (b, dels (xs.take (k + 1)) l) T) from by
        have h1 := HTR.out.upd HGX.out HG3.out HO3.out (Nat.le_trans (List.length_filter_le _ _) HL8.out) (fun p hp => HVL.out p (List.mem_filter.1 hp).1)
        rw [updK_updK] at h1
        rw [HTK.out, dels_snoc]
        exact h1)
      have HZ3 := Lib.hid (zsP_map HZR.out HBK.out HG3.out)
      have HM3 := Lib.hid (show Mem W3 W.heap.size TI (x.map byteV) from HMR.out.grown HG3.out (fun e => by
        injection e with e
        obtain ⟨es, c, hb⟩ := HBK.out
        have := HMR.out
        unfold Mem at this
        rw [e, hb] at this
        simp at this))
      have HGG := Lib.hid (HGR.out.andThen HG3.out (fun j e => .inr (by rw [e])))
      go_wp2_with fail
      go_roundw
      case rel => exact ⟨k + 1, by omega, by go_num, HE3, HGG, HM3, HZ3⟩
      case measure => simp [intOf]; omega
    · have hd : decide ((k : Int) < (N : Int)) = false := by simp; omega
      have hdi : ¬ (k : Int) < (N : Int) := by omega
      have hkn : k = N := by omega
      subst hkn
      have HE := Lib.hid (show xs.take k = xs from List.take_of_length_le (by rw [← HNN.out]; exact Nat.le_refl _))
      have HCL := Lib.hid (clean_any HTR.out)
      clear hk hlt
      go_wp2_with fail
      refine HCL.out.mono ?_
      rintro e w1 ⟨rfl, ho, hg⟩
      have HEND := Lib.hid ho
      have HG := Lib.hid hg
      clear ho hg
      go_wp2_with fail
      go_end0
      refine ⟨rfl, by rw [← HE.out]; exact HEND.out, ?_⟩
      exact (Fr.of_grown HGR.out (fun k e => .inl (by injection e with e; exact e.symm))).trans (Fr.of_grown (F := fun k => k = b ∨ k = g) HG.out (fun k e => .inr (by injection e with e; exact e.symm))) (fun i hi => .inl hi)
set_option maxHeartbeats 2000000 in
set_option maxRecDepth 100000 in
theorem drop_none (h : Ptb W t g T) (hx : x.length = 32) (hn : getK x T = none) (hz : ZsP W v xs) (hr : ∀ a ∈ xs, In64 a) (hxl : xs.length ≤ 1000000) :
    Calls Try.prog 13 #[.pointer (some ⟨t, 0, none⟩), nmV x, v] W fun e w' =>
    e = .returned (.tuple #[]) ∧ Ptb w' t g (cleanP T) ∧ Fr (fun k => k = g) W w' := by
  obtain ⟨sa, sc, rfl, hcs⟩ := hz
  have HZ0 := Lib.hid (show ZsP W (.slice sa xs.length sc) xs from ⟨sa, sc, rfl, hcs⟩)
  have HT := Lib.hid h
  have HX := Lib.hid hx
  have HN := Lib.hid hn
  have HR := Lib.hid hr
  have HB0 := Lib.hid (belowSelf W (.cells (x.map byteV).toArray TI))
  have HM0 := Lib.hid (Mem.new W TI (x.map byteV))
  obtain ⟨N, hN⟩ : ∃ N, N = xs.length := ⟨_, rfl⟩
  have HNN := Lib.hid hN
  rw [← hN] at HZ0 hxl ⊢
  clear h hx hn hr hcs hN
  go_enter Try.func13, Try.ntmps13
  go_wp2_with fail
  go_loopw [10] (fun i wr => ∃ k : Nat, k ≤ N ∧ i = .int .i64 k ∧ Hid (Below W.heap.size W wr) ∧ Hid (Mem wr W.heap.size TI (x.map byteV))) (fun i _ => N - (intOf i).toNat)
  case atStart => exact ⟨0, by omega, rfl, HB0, HM0⟩
  case round =>
    obtain ⟨k, hk, rfl, HBR, HMR⟩ := hrel
    clear HM0 HB0
    have HTR := Lib.hid (HT.out.below HBR.out)
    have HZR := Lib.hid (HZ0.out.below HBR.out)
    by_cases hlt : k < N
    · have hd : decide ((k : Int) < (N : Int)) = true := by simp; omega
      have hdi : (k : Int) < (N : Int) := by omega
      have hkx : k < xs.length := by rw [← HNN.out]; exact hlt
      obtain ⟨a, ha⟩ : ∃ a, a = xs[k] := ⟨_, rfl⟩
      have HA := Lib.hid (show In64 a from HR.out a (by rw [ha]; exact List.getElem_mem hkx))
      obtain ⟨sb, so, hsa, hcell⟩ : ∃ sb so, sa = some ⟨sb, so, none⟩ ∧ wr.cell? ⟨sb, so + k, none⟩ = some (.int .i64 a) := by
        obtain ⟨a1, c1, e1, h1⟩ := HZR.out
        injection e1 with e1 _ _
        obtain ⟨sb, so, h2, h3⟩ := h1 k hkx
        exact ⟨sb, so, e1.trans h2, by rw [h3, List.getD_eq_getElem?_getD, List.getElem?_eq_getElem hkx, ha]; rfl⟩
      subst hsa
      have hlk : (Instr.lookup Tmim (.map (some g)) (nmV x) false).run Try.prog wr.drew = .ok (.map none) wr.drew := by
        have := MpN.look (W := wr.drew) HTR.out.out HX.out
        rw [nb_get, HN.out] at this
        exact this
      have hc0 : wr.drew.cell? ⟨t, 0, none⟩ = some (.map (some g)) := HTR.out.tag.cell 0
      have hld := ld_id_at (HMR.out.drew) HX.out
      have hr3 := Maps.drop_nil (P := Try.prog) (w := wr.drew) keyedI Try.underlying53 (keyI_of HA.out) 0
      clear ha hkx
      go_wp2_with fail
      go_region
      rename_i K hK
      refine hK _ _ ?_
      clear hK K hlk hc0 hld hr3
      have HB3 := Lib.hid (below_drewB HBR.out)
      have HM3 := Lib.hid (HMR.out.drew)
      go_wp2_with fail
      go_roundw
      case rel => exact ⟨k + 1, by omega, by go_num, HB3, HM3⟩
      case measure => simp [intOf]; omega
    · have hd : decide ((k : Int) < (N : Int)) = false := by simp; omega
      have hdi : ¬ (k : Int) < (N : Int) := by omega
      have HCL := Lib.hid (clean_any HTR.out)
      clear hk hlt
      go_wp2_with fail
      refine HCL.out.mono ?_
      rintro e w1 ⟨rfl, ho, hg⟩
      have HEND := Lib.hid ho
      have HG := Lib.hid hg
      clear ho hg
      go_wp2_with fail
      go_end0
      refine ⟨rfl, HEND.out, ?_⟩
      exact (Fr.of_below HBR.out).trans (Fr.of_grown (F := fun k => k = g) HG.out (fun k e => by injection e with e; exact e.symm)) (fun i hi => .inl hi)
/-- What has an address, of a table. -/
def cleanV (V : PV) : PV := V.filter fun p => !p.2.isEmpty
theorem vw_clean (T : PT) : vw (cleanP T) = cleanV (vw T) := by
  unfold vw cleanP cleanV
  rw [List.filter_map]
  rfl
/-- What Drop makes of a table. -/
def dropV (x : List UInt8) (xs : List Int) (V : PV) : PV := cleanV (match getK x V with | none => V | some l => updK x (dels xs l) V)
theorem drop_any {F : Nat → Prop} {V : PV} (h : Pv W F t V) (hx : x.length = 32) (hz : ZsP W v xs) (hr : ∀ a ∈ xs, In64 a) (hxl : xs.length ≤ 1000000) :
    Calls Try.prog 13 #[.pointer (some ⟨t, 0, none⟩), nmV x, v] W fun e w' =>
    e = .returned (.tuple #[]) ∧ Pv w' F t (dropV x xs V) ∧ Fr F W w' := by
  obtain ⟨g, T, hT, rfl, hF⟩ := h
  have hsub : ∀ (T' : PT) k, Ftp t g (cleanP T') k → Ftp t g T' k := fun T' k hk => by
    rcases hk with hk | hk | ⟨r, hr, rfl⟩
    · exact .inl hk
    · exact .inr (.inl hk)
    · exact .inr (.inr ⟨r, (List.mem_filter.1 hr).1, rfl⟩)
  unfold dropV
  rw [vw_get]
  cases hg : getK x T with
  | none =>
    refine (drop_none hT hx hg hz hr hxl).mono fun e w' q => ⟨q.1, ⟨g, _, q.2.1, vw_clean T, fun k hk => hF k (hsub T k hk)⟩, q.2.2.mono fun i hi => ?_⟩
    rw [hi]
    exact hF g (.inr (.inl rfl))
  | some p =>
    obtain ⟨b, l⟩ := p
    refine (drop_some hT hx hg hz hr hxl).mono fun e w' q => ⟨q.1, ⟨g, _, q.2.1, by rw [vw_clean, vw_upd]; rfl, fun k hk => hF k (Ftp.upd hT hg (hsub _ k hk))⟩, q.2.2.mono fun i hi => ?_⟩
    rcases hi with rfl | rfl
    · exact hF _ (.inr (.inr ⟨_, (mem_getK hT.uniq x (i, l)).1 hg, rfl⟩))
    · exact hF _ (.inr (.inl rfl))
end
end Go.Proofs.Ytilmidddhkofaaa

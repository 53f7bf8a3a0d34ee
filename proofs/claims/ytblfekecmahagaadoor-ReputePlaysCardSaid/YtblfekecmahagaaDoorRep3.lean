/-
  Repute: Silent, Holds.
-/
import Derived.Test.YtblfekecmahagaaDoorRep2
namespace Go.Proofs.YtblfekecmahagaaDoor
open Go.RowKit Go.Maps Crv

section
variable {w : World} {k mb bb : Nat} {M : MKt} {B : BNt}
set_option maxHeartbeats 2000000 in
set_option maxRecDepth 100000 in
theorem silent_any (h : Bv w k mb bb M B) {n now : Int} (hn : In64 n) (hw : 0 ≤ now ∧ now ≤ 1099511627776) (hl : M.length < 100000) : Calls Tryd.prog 12 #[.pointer (some ⟨k, 0, none⟩), iv n, iv now] w fun e w' => e = .returned (.tuple #[]) ∧ Bv w' k mb bb (silM M n now) B ∧ w.grownBy w' (some mb) := by
  have q0 : w.cell? ⟨k, 0, none⟩ = some (.map (some mb)) := h.m.cell 0
  have hlk0 := h.t.look hn
  have hkl := h.m.lt
  have hk := h.ok.mk n
  obtain ⟨m, hm⟩ : ∃ m, m = mkOf M n := ⟨_, rfl⟩
  rw [← hm] at hlk0 hk
  have HMM := Lib.hid hm
  obtain ⟨s, u, v⟩ := m
  have hlk : (Instr.lookup Tmm (.map (some mb)) (iv n) false).run Tryd.prog w = .ok (.agg #[iv s, iv u, iv v]) w := hlk0
  unfold OkK at hk
  simp only at hk
  obtain ⟨s1, hs1⟩ : ∃ t, s - 1 = t := ⟨_, rfl⟩
  obtain ⟨ws, ws'⟩ := w64 hs1 (by omega)
  obtain ⟨u2, hu2⟩ : ∃ t, 2 * u = t := ⟨_, rfl⟩
  obtain ⟨wu, wu'⟩ := w64 hu2 (by omega)
  obtain ⟨wk, hwk⟩ : ∃ t, min (max u2 2) 32 = t := ⟨_, rfl⟩
  obtain ⟨z, hz⟩ : ∃ t, now + wk = t := ⟨_, rfl⟩
  obtain ⟨wz, wz'⟩ := w64 hz (by omega)
  have HWK := Lib.hid hwk
  obtain ⟨wA, hwA⟩ : ∃ wA, wA = w.alloc (.cells #[iv (max s1 (-20)), iv wk, iv (max v z)] Tmk) := ⟨_, rfl⟩
  have hb1 : Below w.heap.size w wA := by rw [hwA]; exact belowSelf w _
  have hMA : Mem wA w.heap.size Tmk [iv (max s1 (-20)), iv wk, iv (max v z)] := by rw [hwA]; exact Mem.new w Tmk _
  have hD : Bv wA k mb bb M B := h.below hb1
  have hD2 : Bv wA.drew k mb bb M B := hD.of rfl rfl rfl
  obtain ⟨W2, hr2, ho2, hg2⟩ := hD2.t.put (silK (mkOf M n) now) hn (by omega)
  have HV := Lib.hid (show Bv W2 k mb bb (silM M n now) B from hD2.marks hg2 ho2 ((h.ok.mk n).sil hw) hl)
  have HG := Lib.hid (show w.grownBy W2 (some mb) from grown_trans (grown_drew (grownOfBelow hb1)) hg2)
  have hsk : mkV (silK (mkOf M n) now) = .agg #[iv (max s1 (-20)), iv wk, iv (max v z)] := by
    rw [← hm]
    unfold silK waitK
    simp only
    rw [hs1, hu2, hwk, hz]
    rfl
  rw [hsk] at hr2
  have HR := Lib.hid hr2
  have QD := Lib.hid (show wA.cell? ⟨k, 0, none⟩ = some (.map (some mb)) from hD.m.cell 0)
  have HWA := Lib.hid hwA
  have HMA := Lib.hid hMA
  clear hm h hD hD2 ho2 hg2 hr2 hlk0 hb1 hsk hwA hs1 hu2 hwk hz hk hMA
  go_enter Tryd.func12, Tryd.ntmps12
  go_wp2_with (first
    | (refine wp_max0 (c := s1) (d := -20) (.tmp 15) (.const (.int .i64 (-20))) rfl rfl rfl rfl ?_)
    | (refine wp_max0 (c := u2) (d := 2) (.tmp 20) (.const (.int .i64 2)) rfl rfl rfl rfl ?_)
    | (refine wp_min0 (c := max u2 2) (d := 32) (.tmp 21) (.const (.int .i64 32)) HWK.out rfl rfl rfl rfl ?_)
    | (refine wp_max0 (c := v) (d := z) (.tmp 25) (.tmp 29) rfl rfl rfl rfl ?_)
    | fail)
  change Code.wp _ _ _ _ (w.alloc (.cells #[iv (max s1 (-20)), iv wk, iv (max v z)] Tmk))
  rw [← HWA.out]
  have qd := QD.out
  have e0 : wA.cell? ⟨w.heap.size, 0, none⟩ = some (iv (max s1 (-20))) := HMA.out.cell 0
  have e1 : wA.cell? ⟨w.heap.size, 1, none⟩ = some (iv wk) := HMA.out.cell 1
  have e2 : wA.cell? ⟨w.heap.size, 2, none⟩ = some (iv (max v z)) := HMA.out.cell 2
  clear hlk q0
  refine wp_region_still_tail 6 (by kernel_rfl) (by kernel_rfl) ?_
  simp only [List.take_succ_cons, List.take_zero, List.drop_succ_cons, List.drop_zero]
  iterate 6 still_step
  refine wpStill_nil ?_
  change wpList _ _ _ _ _ wA.drew
  go_wp2_with (first
    | (refine wp_mapRun HR.out (.tmp 35) (.tmp 36) (.tmp 37) rfl rfl rfl rfl rfl ?_)
    | fail)
  go_end0
  exact ⟨rfl, HV.out, HG.out⟩
end
/-- The name of a chunk. -/
def nameP (t : List UInt8) : List UInt8 := sha ([99, 114, 118] ++ headOf 1 t.length ++ t)
theorem length_nameP (t : List UInt8) : (nameP t).length = 32 := rfl
def holdsP (p : PF) : Bool := !decide (nameP p.2.2 = p.2.1)
/-- A proof's cells. -/
theorem pf_cells {w : World} {g : Nat} {p : PF} (h : Mem w g Tpf (pfC p)) (hp : p.2.1.length = 32) : w.cell? ⟨g, 0, none⟩ = some (iv p.1) ∧ w.rangeAt g 1 (p.2.1.map byteV) ∧ w.cell? ⟨g, 33, none⟩ = some (tx p.2.2) := by
  refine ⟨h.cell 0, ?_, ?_⟩
  · exact h.range 1 (p.2.1.map byteV) ⟨[tx p.2.2], by simp [pfC]⟩
  · rw [h.cell 33]
    unfold pfC
    rw [show 33 = 32 + 1 from rfl, List.getElem?_cons_succ, List.getElem?_append_right (by rw [List.length_map, hp]; exact Nat.le_refl _), List.length_map, hp]
    rfl
theorem sz_pf (p : PF) (hp : p.2.1.length = 32) : (Tryd.prog.info? Tpf).map (·.size) = some (pfC p).length := by
  rw [show (pfC p).length = 34 by simp [pfC, hp]]
  kernel_rfl
theorem ofName {t : List UInt8} (ht : t.length ≤ 1000000) (W : World) (hc : Consts W) : Calls Tryd.prog 28 #[.int .i64 1, .slice (some ⟨W.heap.size, 0, none⟩) 1 1] (W.alloc (.cells #[tx t] 9)) fun e w' => e = .returned (.agg ((nameP t).map byteV).toArray) ∧ Below (W.alloc (.cells #[tx t] 9)).heap.size (W.alloc (.cells #[tx t] 9)) w' := by
  have h := ofOid_any 1 (by omega) (.slice (some ⟨W.heap.size, 0, none⟩) 1 1) [t] (W.alloc (.cells #[tx t] 9)) (hc.on (belowSelf W _)) (StrSlice.new (w := W) (t := 9) [t] 1) (by simp) (by simpa using ht)
  rw [show [t].flatten = t from by simp] at h
  exact h
theorem bdrew {B : Nat} {a w : World} (h : Below B a w) : Below B a w.drew := ⟨h.os, h.tape, h.output, h.size, h.block⟩
theorem ofNameD {t : List UInt8} (ht : t.length ≤ 1000000) (W : World) (hc : Consts W) : Calls Tryd.prog 28 #[.int .i64 1, .slice (some ⟨W.heap.size, 0, none⟩) 1 1] (W.alloc (.cells #[tx t] 9)).drew fun e w' => e = .returned (.agg ((nameP t).map byteV).toArray) ∧ Below W.heap.size W w' := by
  have h := ofOid_any 1 (by omega) (.slice (some ⟨W.heap.size, 0, none⟩) 1 1) [t] (W.alloc (.cells #[tx t] 9)).drew (hc.on (bdrew (belowSelf W _))) (StrSlice.new (w := W) (t := 9) [t] 1) (by simp) (by simpa using ht)
  rw [show [t].flatten = t from by simp] at h
  exact h.mono fun _ _ q => ⟨q.1, belowThen (bdrew (belowSelf W _)) q.2⟩
attribute [local go_sem ↓] ld_id
set_option maxHeartbeats 2000000 in
set_option maxRecDepth 100000 in
theorem holds_any (p : PF) (w : World) (hc : Consts w) (h1 : p.1 = 1) (hp : p.2.1.length = 32) (ht : p.2.2.length ≤ 1000000) : Calls Tryd.prog 17 #[.agg (pfC p).toArray] w fun e w' => e = .returned (.bool (holdsP p)) ∧ Below w.heap.size w w' := by
  obtain ⟨wA, hwA⟩ : ∃ wA, wA = w.alloc (.cells (pfC p).toArray Tpf) := ⟨_, rfl⟩
  have HM := Lib.hid (show Mem wA w.heap.size Tpf (pfC p) from by rw [hwA]; exact Mem.new w Tpf (pfC p))
  have HB := Lib.hid (show Below w.heap.size w wA from by rw [hwA]; exact belowSelf w (.cells (pfC p).toArray Tpf))
  have HWA := Lib.hid hwA
  have hne := fun W => run_neq_bytes (P := Tryd.prog) TI 5 32 Tryd.underlying35 Tryd.underlying5 (by kernel_rfl) (nameP p.2.2) p.2.1 (length_nameP _) hp W
  have HOF := Lib.hid (fun W (hc : Consts W) => ofNameD ht W hc)
  have HC := Lib.hid hc
  have hu30 := Tryd.underlying35
  have hsz30 : (Tryd.prog.info? TI).map (·.size) = some (p.2.1.map byteV).length := sz_id p.2.1 hp
  have HP := Lib.hid hp
  have HH := Lib.hid (show holdsP p = !decide (nameP p.2.2 = p.2.1) from rfl)
  have H1 := Lib.hid h1
  clear ht hc h1 hwA
  go_enter Tryd.func17, Tryd.ntmps17
  go_wp2_with fail
  change Code.wp _ _ _ _ (w.alloc (.cells (pfC p).toArray Tpf))
  rw [← HWA.out]
  obtain ⟨k0, kr, k33⟩ := pf_cells HM.out HP.out
  rw [H1.out] at k0
  have HCA := Lib.hid (show Consts wA from HC.out.on HB.out)
  go_region_held3 (fun w' => w'.cell? ⟨w.heap.size, 0, none⟩ = some (iv 1) ∧ w'.rangeAt w.heap.size 1 (p.2.1.map byteV) ∧ w'.cell? ⟨w.heap.size, 33, none⟩ = some (tx p.2.2)) (first | (refine ⟨?_, ?_, ?_⟩ <;> assumption) | (have hq := pf_cells ((HM.out.alloc (.cells #[tx p.2.2] 9)).drew) HP.out; rw [H1.out] at hq; exact hq))
    (first
      | (go_at_call 28
         refine (HOF.out wA HCA.out).mono ?_
         rintro e w6 ⟨rfl, hb6⟩
         have HM6 := Lib.hid (HM.out.below hb6 HM.out.lt)
         have HB6 := Lib.hid (belowThen HB.out hb6)
         obtain ⟨j0, jr, j33⟩ := pf_cells HM6.out HP.out
         rw [H1.out] at j0
         clear hb6)
      | fail)
  clear k0 kr k33 j0 jr j33
  go_wp2_with fail
  go_ret
  exact ⟨by rw [HH.out]; rfl, HB6.out⟩
end Go.Proofs.YtblfekecmahagaaDoor

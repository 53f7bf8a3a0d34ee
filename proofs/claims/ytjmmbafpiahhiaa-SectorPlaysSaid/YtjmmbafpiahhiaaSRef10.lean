/-
  The document's disk: Spoil.
-/
import Derived.Test.YtjmmbafpiahhiaaSRef9
namespace Go.Proofs.Ytjmmbafpiahhiaa
open Go.RowKit Go.Maps Crv
set_option maxRecDepth 100000 in
set_option maxHeartbeats 600000 in
theorem rspoil_out (v : Value) (sz : Nat) (bs : List UInt8) (du : Tab) (f at_ p : Int) (b : UInt8) (w : World) (h : Rf w v sz bs du f) (ha : at_ ≤ 9223372036854775807) (hs : sz ≤ 65536) (hh : hasS sz at_ 1 = false ∨ p < 0 ∨ 64 ≤ p) :
    Calls Try.prog 31 #[v, .int .i64 at_, .int .i64 p, .int .u8 (b.toNat : Int)] w fun e w' => e = .returned (.tuple #[v, .int .i64 10]) ∧ Below w.heap.size w w' := by
  obtain ⟨a1, a2, a3, c1, c2, c3, rfl, -, -, -⟩ := h
  have HI := Lib.hid (fun W => rin_any a1 a2 a3 c1 c2 c3 f at_ 1 sz W ha hs)
  have HX0 := Lib.hid (Bx.new w (rdC a1 a2 a3 c1 c2 c3 sz f) zRd)
  have ONE := Lib.hid (oneRd a1 a2 a3 c1 c2 c3 sz f)
  clear ha hs
  have key : ∀ hv d1 d2, hasS sz at_ 1 = hv → decide (p < 0) = d1 → decide ((64 : Int) ≤ p) = d2 → (hv = false ∨ d1 = true ∨ d2 = true) → Calls Try.prog 31 #[.agg (rdC a1 a2 a3 c1 c2 c3 sz f).toArray, .int .i64 at_, .int .i64 p, .int .u8 (b.toNat : Int)] w fun e w' => e = .returned (.tuple #[.agg (rdC a1 a2 a3 c1 c2 c3 sz f).toArray, .int .i64 10]) ∧ Below w.heap.size w w' := by
    intro hv d1 d2 e0 e1 e2 hor
    rw [e0] at HI
    clear hh e0
    rcases hv with _ | _
    · clear hor
      go_enter Try.func31, Try.ntmps31
      go_wp2_with fail
      refine (HI.out _).mono ?_
      rintro e w1 ⟨rfl, hb1⟩
      have HX1 := Lib.hid (HX0.out.below hb1)
      clear hb1
      go_wp2_with (first
        | (refine wp_load_mem HX1.out.d TRd (.tmp 4) _ rfl rfl rfl Try.underlying29 rfl szRd ?_)
        | (refine wp_store_gen (B := w.heap.size) (w0 := w) HX1.out.b (Nat.le_succ _) HX1.out.r (rdC a1 a2 a3 c1 c2 c3 sz f) TRd (.tmp 8) (.tmp 24) rfl rfl rfl rfl szRd rfl ONE.out ?_
           intro W2 hm2 hb2 hz2 hk2
           have HX2 := Lib.hid (HX1.out.setR hm2 hb2 hk2)
           clear hm2 hb2 hz2 hk2)
        | fail)
      exact bodyPost_ret (sres2 HX2.out.r rfl _ _ rfl Try.underlying29 rfl szRd) rfl ⟨rfl, HX2.out.b⟩
    · rcases d1 with _ | _
      · have h2 : d2 = true := by simpa using hor
        subst h2
        clear hor
        go_enter Try.func31, Try.ntmps31
        go_wp2_with fail
        refine (HI.out _).mono ?_
        rintro e w1 ⟨rfl, hb1⟩
        have HX1 := Lib.hid (HX0.out.below hb1)
        clear hb1
        go_wp2_with (first
          | (refine wp_load_mem HX1.out.d TRd (.tmp 4) _ rfl rfl rfl Try.underlying29 rfl szRd ?_)
          | (refine wp_store_gen (B := w.heap.size) (w0 := w) HX1.out.b (Nat.le_succ _) HX1.out.r (rdC a1 a2 a3 c1 c2 c3 sz f) TRd (.tmp 8) (.tmp 24) rfl rfl rfl rfl szRd rfl ONE.out ?_
             intro W2 hm2 hb2 hz2 hk2
             have HX2 := Lib.hid (HX1.out.setR hm2 hb2 hk2)
             clear hm2 hb2 hz2 hk2)
          | fail)
        exact bodyPost_ret (sres2 HX2.out.r rfl _ _ rfl Try.underlying29 rfl szRd) rfl ⟨rfl, HX2.out.b⟩
      · clear hor e2
        go_enter Try.func31, Try.ntmps31
        go_wp2_with fail
        refine (HI.out _).mono ?_
        rintro e w1 ⟨rfl, hb1⟩
        have HX1 := Lib.hid (HX0.out.below hb1)
        clear hb1
        go_wp2_with (first
          | (refine wp_load_mem HX1.out.d TRd (.tmp 4) _ rfl rfl rfl Try.underlying29 rfl szRd ?_)
          | (refine wp_store_gen (B := w.heap.size) (w0 := w) HX1.out.b (Nat.le_succ _) HX1.out.r (rdC a1 a2 a3 c1 c2 c3 sz f) TRd (.tmp 8) (.tmp 24) rfl rfl rfl rfl szRd rfl ONE.out ?_
             intro W2 hm2 hb2 hz2 hk2
             have HX2 := Lib.hid (HX1.out.setR hm2 hb2 hk2)
             clear hm2 hb2 hz2 hk2)
          | fail)
        exact bodyPost_ret (sres2 HX2.out.r rfl _ _ rfl Try.underlying29 rfl szRd) rfl ⟨rfl, HX2.out.b⟩
  refine key _ _ _ rfl rfl rfl ?_
  simpa using hh
set_option maxRecDepth 100000 in
set_option maxHeartbeats 1000000 in
theorem rspoil_ok (v : Value) (sz : Nat) (bs : List UInt8) (du : Tab) (f : Int) (i0 p : Nat) (b : UInt8) (w : World) (h : Rf w v sz bs du f) (hs : sz ≤ 65536) (hb0 : bs.length = 64 * sz) (hi : i0 < sz) (hp : p < 64) (hsl : (sureF bs du i0).length = 64) :
    Calls Try.prog 31 #[v, .int .i64 (i0 : Int), .int .i64 (p : Int), .int .u8 (b.toNat : Int)] w fun e w' => ∃ v', e = .returned (.tuple #[v', .int .i64 0]) ∧ Rf w' v' sz (bentL bs (64 * i0 + p) b) (bentT du i0 p b) f ∧ Below w.heap.size w w' := by
  obtain ⟨a1, a2, a3, c1, c2, c3, rfl, hS, hN, hLo⟩ := h
  have HI := Lib.hid (fun W => rin_any a1 a2 a3 c1 c2 c3 f (i0 : Int) 1 sz W (by omega) hs)
  rw [show hasS sz (i0 : Int) 1 = true by simp [hasS]; omega] at HI
  have HX0 := Lib.hid (Bx.new w (rdC a1 a2 a3 c1 c2 c3 sz f) zRd)
  obtain ⟨tt, htt, htz, hts, htb⟩ := stext_info
  have HTT := Lib.hid htt
  have HTZ := Lib.hid htz
  have HTS := Lib.hid hts
  have HTB := Lib.hid (show tt.bytes ≤ 64 by omega)
  have HLE := Lib.hid (show ([] : List Value).length + ((rows (sureF bs du) sz).map tx).length ≤ 1099511627776 by rw [List.length_map, length_rows]; simp; omega)
  have HLF := Lib.hid (show ([] : List Value).length + ((rows (nowF bs) sz).map tx).length ≤ 1099511627776 by rw [List.length_map, length_rows]; simp; omega)
  have HS := Lib.hid hS
  have HN := Lib.hid hN
  have HL := Lib.hid hLo
  have HB1 := Lib.hid (fun W => rbent_any (sureF bs du i0) p b W hsl hp)
  have HB2 := Lib.hid (fun W => rbent_any (nowF bs i0) p b W (by unfold nowF; rw [length_rowS hb0 (by omega)]) hp)
  have HNS := Lib.hid (sure_bent (du := du) (b := b) hb0 hi hp)
  have HNN := Lib.hid (now_bent (b := b) hb0 hi hp)
  have d1 : decide ((p : Int) < 0) = false := by simp
  have d2 : decide ((64 : Int) ≤ (p : Int)) = false := by simp; omega
  have d3 : decide (i0 < sz) = true := by simpa using hi
  clear htt htz hts htb hS hN hLo hsl hb0
  go_enter Try.func31, Try.ntmps31
  go_wp2_with fail
  refine (HI.out _).mono ?_
  rintro e w1 ⟨rfl, hb1⟩
  have HX1 := Lib.hid (HX0.out.below hb1)
  clear hb1
  have n0 : w1.cell? ⟨w.heap.size, 0, none⟩ = some (.slice a1 sz c1) := HX1.out.d.cell 0
  have hz1 : w.heap.size < w1.heap.size := HX1.out.d.lt
  have hz1' : w.heap.size + 1 < w1.heap.size := HX1.out.r.lt
  have HO4 := Lib.hid (sowns_none w1 TS (g := w1.heap.size) (B := w1.heap.size) rfl (Nat.le_refl _))
  have HN4 := Lib.hid (HS.out.below (belowThen HX1.out.b (belowSelf w1 (.cells #[] TS))))
  have HBS4 := Lib.hid (show w1.heap.size ≤ (w1.alloc (.cells #[] TS)).heap.size by simp)
  go_upto_region 5 with (first
    | (at_builtin; refine swp_append_all (base := w1.heap.size) HO4.out HN4.out (.tmp 25) (.tmp 27) 26 tt (.string ⟨#[]⟩) rfl rfl Try.underlying26 HTT.out HTZ.out HTS.out HTB.out rfl rfl rfl (sone_txs _) HLE.out HBS4.out ?_
       intro v5 w5 ho5 hg5
       obtain ⟨a5, c5, hv5, -, -, -⟩ := ho5.form
       rw [List.nil_append, List.length_map, length_rows] at hv5
       subst hv5
       have HX5 := Lib.hid (HX1.out.app hg5 hz1')
       have HO5 := Lib.hid ho5
       have n2 : w5.cell? ⟨w.heap.size, 1, none⟩ = some (.slice a2 sz c2) := HX5.out.d.cell 1
       have hz5 : w.heap.size < w5.heap.size := HX5.out.d.lt
       have hz5' : w.heap.size + 1 < w5.heap.size := HX5.out.r.lt
       have HP6 := Lib.hid (sowns_none w5 TS (g := w5.heap.size) (B := w5.heap.size) rfl (Nat.le_refl _))
       have HN6 := Lib.hid (HN.out.below (belowThen HX5.out.b (belowSelf w5 (.cells #[] TS))))
       have HBS6 := Lib.hid ((belowSelf w5 (.cells #[] TS)).size)
       clear ho5 hg5)
    | (at_builtin; refine swp_append_all (base := w5.heap.size) HP6.out HN6.out (.tmp 29) (.tmp 31) 26 tt (.string ⟨#[]⟩) rfl rfl Try.underlying26 HTT.out HTZ.out HTS.out HTB.out rfl rfl rfl (sone_txs _) HLF.out HBS6.out ?_
       intro v7 w7 ho7 hg7
       obtain ⟨a7, c7, hv7, -, -, -⟩ := ho7.form
       rw [List.nil_append, List.length_map, length_rows] at hv7
       subst hv7
       have HX7 := Lib.hid (HX5.out.app hg7 hz5')
       have HO7 := Lib.hid ho7
       have HO57 := Lib.hid (aside_new HO5.out hg7)
       clear ho7 hg7)
    | fail)
  have ho57 : Owns w7 w1.heap.size TS (.slice a5 sz c5) ((rows (sureF bs du) sz).map tx) := HO57.out
  have ho7 : Owns w7 w5.heap.size TS (.slice a7 sz c7) ((rows (nowF bs) sz).map tx) := HO7.out
  obtain ⟨g5, rfl, cS, -, fS⟩ := own_cell ho57 hi
  obtain ⟨g7, rfl, cN, -, fN⟩ := own_cell ho7 hi
  have hg5 : g5 < w5.heap.size := (HO5.out.lt g5 rfl).1
  have hg5' : w1.heap.size ≤ g5 := (HO5.out.lt g5 rfl).2
  have hg7 : w5.heap.size ≤ g7 := (ho7.lt g7 rfl).2
  have hne : g5 ≠ g7 := by omega
  have HOS := Lib.hid ho57
  have HON := Lib.hid ho7
  obtain ⟨s1, hs1⟩ : ∃ x, x = sureF bs du i0 := ⟨_, rfl⟩
  obtain ⟨s2, hs2⟩ : ∃ x, x = nowF bs i0 := ⟨_, rfl⟩
  rw [← hs1] at cS HB1
  rw [← hs2] at cN HB2
  rw [← hs1] at HNS
  rw [show rowS bs i0 1 = s2 from hs2.symm] at HNN
  have HS2 := Lib.hid hs2.symm
  obtain ⟨t1, ht1⟩ : ∃ x, x = bentL s1 p b := ⟨_, rfl⟩
  obtain ⟨t2, ht2⟩ : ∃ x, x = bentL s2 p b := ⟨_, rfl⟩
  rw [← ht1] at HB1 HNS
  rw [← ht2] at HB2 HNN
  clear ho57 ho7 hs1 hs2 ht1 ht2 HO57 HO7 HO5 HX5 HP6 HN6 HBS6 HO4 HN4 HBS4 n0 n2 cN fN
  go_wp2_with fail
  refine (HB1.out _).mono ?_
  rintro e w8 ⟨rfl, hb8⟩
  have HX8 := Lib.hid ((HX7.out.below hb8).otherCell (b := g5) (i := i0) (by omega) (tx t1))
  have ho8 := HOS.out.below hb8
  obtain ⟨_, hg8, c8, _, f8⟩ := own_cell ho8 hi
  injection hg8 with hg8
  injection hg8 with hg8
  subst hg8
  have HS8 := Lib.hid (show Owns (w8.setCell ⟨g5, i0, none⟩ (tx t1)) w1.heap.size TS (.slice (some ⟨g5, 0, none⟩) sz c5) ((rows (sureF (bentL bs (64 * i0 + p) b) (bentT du i0 p b)) sz).map tx) by
    have ho := ho8.setAt (i := i0) (tx t1)
    rw [← List.map_set, HNS.out] at ho
    exact ho)
  have HN8 := Lib.hid ((HON.out.below hb8).lowCell (g := g5) (i := i0) (u := tx t1) hg5)
  have hc9 : w8.cell? ⟨g7, i0, none⟩ = some (tx s2) := by
    obtain ⟨_, hg10, c10, _, _⟩ := own_cell (HON.out.below hb8) hi
    injection hg10 with hg10
    injection hg10 with hg10
    subst hg10
    rw [c10, HS2.out]
  clear ho8 hb8 HX7
  go_wp2_with fail
  refine (HB2.out _).mono ?_
  rintro e w9 ⟨rfl, hb9⟩
  have HX9 := Lib.hid ((HX8.out.below hb9).otherCell (b := g7) (i := i0) (by omega) (tx t2))
  have hn9 := HN8.out.below hb9
  obtain ⟨_, hg11, c11, _, f11⟩ := own_cell hn9 hi
  injection hg11 with hg11
  injection hg11 with hg11
  subst hg11
  have HN9 := Lib.hid (show Owns (w9.setCell ⟨g7, i0, none⟩ (tx t2)) w5.heap.size TS (.slice (some ⟨g7, 0, none⟩) sz c7) ((rows (nowF (bentL bs (64 * i0 + p) b)) sz).map tx) by
    have ho := hn9.setAt (i := i0) (tx t2)
    rw [← List.map_set, HNN.out] at ho
    exact ho)
  have HS9 := Lib.hid (show Owns (w9.setCell ⟨g7, i0, none⟩ (tx t2)) w1.heap.size TS (.slice (some ⟨g5, 0, none⟩) sz c5) ((rows (sureF (bentL bs (64 * i0 + p) b) (bentT du i0 p b)) sz).map tx) from
    (HS8.out.below hb9).of_below fun g hg => Below.heap_setCell _ _ _ _ (fun e => by
      have e' : g = g7 := e
      have e2 : g5 = g := Option.some.inj hg
      omega))
  obtain ⟨⟨k0, q0⟩, ⟨k1, q1⟩, ⟨k2, q2⟩, ⟨k3, q3⟩⟩ := mem4 (HX8.out.below hb9).d
  obtain ⟨⟨r0, z0⟩, ⟨r1, z1⟩, ⟨r2, z2⟩, ⟨r3, z3⟩⟩ := mem4 (HX8.out.below hb9).r
  have hp1 : w.heap.size < g7 := by omega
  have hp2 : w.heap.size + 1 < g7 := by omega
  clear hn9 hb9 HS8 HN8 hc9 c8 f8 cS fS
  go_wp2_with fail
  have hxf := ((HX9.out.cellD 0 (.slice (some ⟨g5, 0, none⟩) sz c5)).cellD 1 (.slice (some ⟨g7, 0, none⟩) sz c7)).putR (.slice (some ⟨g5, 0, none⟩) sz c5) (.slice (some ⟨g7, 0, none⟩) sz c7) (.slice a3 sz c3) (.int .i64 f)
  refine bodyPost_ret (sres2 hxf.r rfl _ _ rfl Try.underlying29 rfl szRd) rfl ⟨_, rfl, ⟨some ⟨g5, 0, none⟩, some ⟨g7, 0, none⟩, a3, c5, c7, c3, rfl, ?_, ?_, ?_⟩, hxf.b⟩
  · exact sowns_base (owns_put4 ((HS9.out.lowCell (by omega)).lowCell (by omega)) (by omega) _ _ _ _) (Nat.zero_le _)
  · exact sowns_base (owns_put4 ((HN9.out.lowCell (by omega)).lowCell (by omega)) (by omega) _ _ _ _) (Nat.zero_le _)
  · rw [loose_bent]
    exact HL.out.below hxf.b
end Go.Proofs.Ytjmmbafpiahhiaa

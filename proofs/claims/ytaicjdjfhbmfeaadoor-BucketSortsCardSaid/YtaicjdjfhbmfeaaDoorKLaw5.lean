/-
  BucketSorts: the walk.
-/
import Derived.Test.YtaicjdjfhbmfeaaDoorKLaw4
namespace Go.Proofs.YtaicjdjfhbmfeaaDoor
open Go.RowKit Crv

attribute [local go_sem ↓] ld_id
set_option maxHeartbeats 4000000 in
set_option maxRecDepth 100000 in
theorem bucketSorts_walk (s0 : List UInt8) (v1 : Value) (ks : List Int) (W : World) (hc : Consts W) (hks : Zs W v1 ks) :
    Calls Tryd.prog 5 #[.string (str s0), v1] W fun e w' => e = .returned (.bool true) ∧ Below W.heap.size W w' := by
  obtain ⟨a, cap, rfl, hk0⟩ := hks
  have HKS := Lib.hid (show Zs W (.slice a ks.length cap) ks from ⟨a, cap, rfl, hk0⟩)
  have HAW := Lib.hid (awake19_any W hc)
  have HC := Lib.hid hc
  obtain ⟨ti, hti, hz, hs1, hby⟩ := int_inf
  have HBY : ti.bytes ≤ 64 := by omega
  have HTI := Lib.hid hti
  have HZ := Lib.hid hz
  have HS1 := Lib.hid hs1
  clear hc hk0 hti hz hs1 hby
  go_enter Tryd.func5, Tryd.ntmps5
  go_wp2_with fail
  refine HAW.out.mono ?_
  rintro e w1 ⟨rfl, hb1⟩
  have HB1 := Lib.hid hb1
  obtain ⟨g, hg⟩ : ∃ g, g = w1.heap.size + 1 := ⟨_, rfl⟩
  have HF0 : Hid (FwK W g 0 (.slice (some ⟨w1.heap.size, 0, none⟩) 0 0) [] ((w1.alloc (.cells #[] Tin)).alloc (.map #[] 0))) := Lib.hid (by
    have hsz : (w1.alloc (.cells #[] Tin)).heap.size = g := by rw [hg]; simp
    refine ⟨Owns.of_mem (cs := []) ((Mem.newAt w1 Tin [] rfl).alloc _) HB1.out.size 0 0 (Nat.le_refl _) rfl (by simp [maxLen]) rfl, List.nodup_nil, by simp, Nat.le_refl _, ⟨fun _ => 0, fun _ => false, 0, ?_, fun _ => Nat.le_refl _, by simp⟩, belowThen (belowThen HB1.out (belowSelf w1 _)) (belowSelf _ _), by have := HB1.out.size; omega⟩
    rw [← hsz]
    exact MpI.made _)
  have HGG := Lib.hid hg
  have hmm := @run_makeMap Tryd.prog
  clear hb1 HAW hg
  go_wp2_with fail
  clear hmm
  rw [← HGG.out]
  go_loopw [5, 7] (fun v5 i wr => ∃ k : Nat, k ≤ 30 ∧ i = .int .i64 k ∧ Hid (∃ L, FwK W g k v5 L wr)) (fun _ i _ => 30 - (intOf i).toNat)
  case atStart => exact ⟨0, by omega, rfl, Lib.hid ⟨[], HF0.out⟩⟩
  case round =>
    obtain ⟨k, hk, rfl, HX⟩ := hrel
    clear HF0
    by_cases hlt : k < ks.length ∧ k < 30
    · have hd1 : decide ((k : Int) < (ks.length : Int)) = true := by simp; omega
      have hd2 : decide ((k : Int) < 30) = true := by simp; omega
      obtain ⟨L, ho, hnd, hin, hlen, ⟨c, h, N, hm, hck, hc0⟩, hb, hWg⟩ := HX.out
      obtain ⟨b, off, rfl, hkW⟩ := HKS.out.ats k hlt.1
      have hl1 : (k : Int) < (ks.length : Int) := by omega
      obtain ⟨n0, hn0⟩ : ∃ n0, n0 = ks.getD k 0 := ⟨_, rfl⟩
      rw [← hn0] at hkW
      have hkc := hkW wr hb
      obtain ⟨n, hn64, hnn⟩ := sixty n0
      have hlk := hm.look n (by omega)
      obtain ⟨w4, hup, hm4, hg4⟩ := hm.put n (c n + 1) (by omega) (by have := hck n; omega) (by omega)
      have hlk2 := hm4.look n (by omega)
      simp only [if_pos] at hlk2
      rw [show ((c n + 1 : Nat) : Int) = (c n : Int) + 1 from by omega] at hup hlk2
      have hne := hm.ne_own ho
      have HO4 := Lib.hid (show Owns w4 W.heap.size Tin u5 (L.map iv) from ho.of_below fun y hy => hg4.block y (ho.lt y hy).1 (fun e => hne (by rw [hy, ← e])))
      have HM4 := Lib.hid hm4
      have HB4 := Lib.hid (show Below W.heap.size W w4 from belowNew hb hg4 hWg)
      have HND := Lib.hid hnd
      have HIN := Lib.hid hin
      have HLN := Lib.hid hlen
      have HCK := Lib.hid hck
      have HC0 := Lib.hid hc0
      have HWG := Lib.hid hWg
      have hcn := hck n
      by_cases hc1 : c n = 0
      · have HNI := Lib.hid ((hc0 n).1 hc1)
        rw [hc1] at hlk hup hlk2
        clear ho hnd hin hlen hm hck hc0 hb hWg hg4 hm4 hne HX hkW hn0 hcn
        simp only [Int.natCast_zero, Int.zero_add] at hlk hup hlk2
        go_wp2_with (first
          | (at_builtin
             refine wp_append_gr (v := u5) (HO4.out.alloc _) [iv n] (.tmp 41) (.tmp 43) Tis ti (iv 0) rfl rfl Tryd.underlying31 HTI.out HZ.out HS1.out HBY rfl rfl rfl (fun j u hu => cell_news_one _ _ _ j u hu) (by intro u hu; simp at hu; subst hu; rfl) (by rw [List.length_map]; have := HLN.out; simp; omega) (Nat.le_trans HB4.out.size (belowSelf _ _).size) ?_
             intro v5 w5 ho5 hg5 _
             have HF5 : Hid (FwK W g (k + 1) v5 (L ++ [(n : Int)]) w5) := Lib.hid (by
               have hb' := HM4.out
               have hbs := belowSelf w4 (.cells #[iv (n : Int)] Tin)
               have hma := (show MpI (w4.alloc (.cells #[iv (n : Int)] Tin)) g (k + 1) _ _ _ from HM4.out.of (hbs.block g HM4.out.lt))
               have hne5 := hma.ne_own (HO4.out.alloc (.cells #[iv (n : Int)] Tin))
               refine ⟨by rw [List.map_append]; exact ho5, nodup_snoc HND.out HNI.out, ?_, by rw [List.length_append, List.length_singleton]; have := HLN.out; omega, ⟨_, _, _, hma.of (hg5.block g hma.lt (fun e => hne5 e.symm)), ?_, ?_⟩, below_own (belowThen HB4.out hbs) hg5 (fun y hy => (HO4.out.lt y hy).2), HWG.out⟩
               · intro m hm
                 rcases List.mem_append.1 hm with hm | hm
                 · exact HIN.out m hm
                 · simp at hm; subst hm; omega
               · intro i
                 have := HCK.out i
                 split <;> omega
               · intro i
                 have := HC0.out i
                 split
                 · rename_i e; subst e; simp
                 · rename_i e
                   rw [this, List.mem_append, List.mem_singleton]
                   constructor
                   · rintro h1 (h2 | h2)
                     · exact h1 h2
                     · omega
                   · intro h1 h2
                     exact h1 (.inl h2))
             clear ho5 hg5)
          | fail)
        exact ⟨⟨k + 1, by omega, by go_num, Lib.hid ⟨_, HF5.out⟩⟩, by simp [intOf]; omega⟩
      · have hneq : ((c n : Int) + 1 == 1) = false := by simp; omega
        have HF4 : Hid (FwK W g (k + 1) u5 L w4) := Lib.hid (by
          refine ⟨HO4.out, hnd, hin, by omega, ⟨_, _, _, HM4.out, ?_, ?_⟩, HB4.out, hWg⟩
          · intro i
            have := hck i
            split <;> omega
          · intro i
            have := hc0 i
            split
            · rename_i e
              subst e
              constructor
              · intro h1; omega
              · intro h1; exact absurd (this.2 h1) hc1
            · exact this)
        have hcb := hck n
        clear ho hnd hin hlen hm hck hc0 hb hWg hg4 hm4 hne HX hkW hn0
        obtain ⟨cn, hcn'⟩ : ∃ cn, cn = c n := ⟨_, rfl⟩
        rw [← hcn'] at hlk hup hlk2 hneq hcb hc1
        clear hcn'
        go_wp2_with fail
        exact ⟨⟨k + 1, by omega, by go_num, Lib.hid ⟨_, HF4.out⟩⟩, by simp [intOf]; omega⟩
    · have hcase : (¬ (k : Int) < (ks.length : Int)) ∨ ((k : Int) < (ks.length : Int) ∧ ¬ (k : Int) < 30) := by omega
      rcases hcase with hc1 | ⟨hc1, hc2⟩
      · have hd1 : decide ((k : Int) < (ks.length : Int)) = false := by simp; omega
        obtain ⟨L, ho, hnd, hin, hlen, -, hb, -⟩ := HX.out
        have HO := Lib.hid ho
        have HND := Lib.hid hnd
        have HIN := Lib.hid hin
        have HLN := Lib.hid hlen
        have HB := Lib.hid hb
        clear ho hnd hin hlen hb HX
        go_wp2_with fail
        refine (name_any s0 _).mono ?_
        rintro e w4 ⟨rfl, hb4⟩
        have HB4 := Lib.hid (belowThen HB.out hb4)
        have HO4 := Lib.hid (HO.out.below hb4)
        obtain ⟨q, hq⟩ : ∃ q, q = nameOf s0 := ⟨_, rfl⟩
        have hql : q.length = 32 := by rw [hq]; exact length_nameOf s0
        rw [← hq]
        have HQL := Lib.hid hql
        have SZ := Lib.hid (sz_id q hql)
        have HZ32 := Lib.hid (show (List.replicate 32 (byteV 0)).length = (q.map byteV).length by rw [List.length_map, hql]; rfl)
        have ONE := Lib.hid (oneBytes q)
        clear hb4 hq hql HB HO
        go_wp2_with (first
          | (refine wp_store_gen (B := w4.heap.size) (w0 := w4) (belowSelf w4 _) (Nat.le_refl _) (Mem.newAt w4 TI (List.replicate 32 (byteV 0)) rfl) (q.map byteV) TI (.tmp 9) (.tmp 46) rfl rfl rfl rfl SZ.out HZ32.out ONE.out ?_
             intro W2 hm2 hb2 hz2 hk2
             have l2 := ld_id_at hm2 HQL.out
             have HM2 := Lib.hid hm2
             have HB2 := Lib.hid (belowThen HB4.out hb2)
             have HO2 := Lib.hid (HO4.out.below hb2)
             clear hm2 hb2 hz2 hk2)
          | fail)
        refine (bsort_any q HQL.out _ L W2 (Owns.zs HO2.out) (by have := HLN.out; omega) (HC.out.below HB2.out)).mono ?_
        rintro e w5 ⟨u, rfl, ps, hp, hs, hou, hb5⟩
        rw [isortB_eq q HQL.out HIN.out hp hs] at hou
        have HOU := Lib.hid hou
        have HO5 := Lib.hid (HO2.out.below hb5)
        have HM5 := Lib.hid (HM2.out.below hb5 HM2.out.lt)
        have HB5 := Lib.hid (belowThen HB2.out hb5)
        have HLS := Lib.hid (show (isortB q L).length ≤ 30 by rw [(isortB_perm q L).length_eq]; exact Nat.le_trans HLN.out hk)
        clear l2 hp hs hou hb5 HO2 HM2 HB2
        have l5 := ld_id_at HM5.out HQL.out
        go_wp2_with fail
        refine (bytes_any q _ HQL.out).mono ?_
        rintro e w6 ⟨rfl, hb6⟩
        have HO6 := Lib.hid (HO5.out.below hb6)
        have HOU6 := Lib.hid (HOU.out.below hb6)
        have HM6 := Lib.hid (HM5.out.below hb6 HM5.out.lt)
        have HB6 := Lib.hid (belowThen HB5.out hb6)
        clear l5 hb6 HO5 HOU HM5 HB5
        go_wp2_with fail
        refine (refSort_any q HQL.out _ L w6 (Owns.zs HO6.out) HIN.out (by have := HLN.out; omega)).mono ?_
        rintro e w7 ⟨u2, rfl, ho7, hb7⟩
        have HO7 := Lib.hid ho7
        have HOU7 := Lib.hid (HOU6.out.below hb7)
        have HM7 := Lib.hid (HM6.out.below hb7 HM6.out.lt)
        have HB7 := Lib.hid (belowThen HB6.out hb7)
        clear ho7 hb7 HO6 HOU6 HM6 HB6
        go_wp2_with fail
        refine (same19_any HOU7.out HO7.out (by have := HLS.out; omega)).mono ?_
        rintro e w8 ⟨rfl, hb8⟩
        have HOU8 := Lib.hid (HOU7.out.below hb8)
        have HM8 := Lib.hid (HM7.out.below hb8 HM7.out.lt)
        have HB8 := Lib.hid (belowThen HB7.out hb8)
        clear hb8 HO7 HOU7 HM7 HB7
        obtain ⟨aU, cU, eU, -, -, hcU⟩ := HOU8.out.form
        rw [List.length_map] at eU hcU
        subst eU
        have HCU := Lib.hid hcU
        have HNR := Lib.hid (fun i hi => near_of HQL.out HND.out HIN.out (i := i) hi)
        obtain ⟨S, hS⟩ : ∃ S, S = isortB q L := ⟨_, rfl⟩
        simp only [← hS] at HCU HNR HLS ⊢
        clear hcU hS HOU8
        go_wp2_with fail
        go_loopw [11] (fun i w9 => ∃ j : Nat, j ≤ 30 ∧ i = .int .i64 ((j : Int) + 1) ∧ Hid (Below w8.heap.size w8 w9)) (fun i _ => 31 - (intOf i).toNat)
        case atStart => exact ⟨0, by omega, rfl, Lib.hid (Below.refl _ _)⟩
        case round =>
          obtain ⟨j, hj, rfl, HBJ⟩ := hrel
          have hls := HLS.out
          by_cases hjt : j + 1 < S.length
          · have hl2 : (j : Int) + 1 < (S.length : Int) := by omega
            obtain ⟨gU, hgU, -, e1⟩ := HCU.out j (by omega)
            obtain ⟨gU', hgU', -, e2⟩ := HCU.out (j + 1) hjt
            rw [hgU] at hgU'
            injection hgU' with hgU'
            injection hgU' with hgU'
            subst hgU'
            subst hgU
            rw [List.getElem?_map, List.getElem?_eq_getElem (by omega), Option.map_some, show S[j] = S.getD j 0 by rw [List.getD_eq_getElem?_getD, List.getElem?_eq_getElem (by omega)]; rfl] at e1
            rw [List.getElem?_map, List.getElem?_eq_getElem hjt, Option.map_some, show S[j + 1] = S.getD (j + 1) 0 by rw [List.getD_eq_getElem?_getD, List.getElem?_eq_getElem hjt]; rfl] at e2
            have hnr := HNR.out j hjt
            obtain ⟨n1, hn1⟩ : ∃ n1, n1 = S.getD j 0 := ⟨_, rfl⟩
            obtain ⟨n2, hn2⟩ : ∃ n2, n2 = S.getD (j + 1) 0 := ⟨_, rfl⟩
            rw [← hn1] at e1 hnr
            rw [← hn2] at e2 hnr
            have HE1 := Lib.hid (fun p : Bw wr => (show p.W.cell? ⟨gU, j, none⟩ = some (iv n1) from (World.cell?_of_block (a := ⟨gU, j, none⟩) ((belowThen HBJ.out p.h).block _ (World.block_lt_of_cell? w8 _ e1))).trans e1))
            have HE2 := Lib.hid (fun p : Bw wr => (show p.W.cell? ⟨gU, j + 1, none⟩ = some (iv n2) from (World.cell?_of_block (a := ⟨gU, j + 1, none⟩) ((belowThen HBJ.out p.h).block _ (World.block_lt_of_cell? w8 _ e2))).trans e2))
            have HLD := Lib.hid (fun p : Bw wr => ld_id_at (HM8.out.below (belowThen HBJ.out p.h) HM8.out.lt) HQL.out)
            have HI1 := Lib.hid (fun p : Bw wr => id_any n1 p.W (HC.out.below (belowThen HB8.out (belowThen HBJ.out p.h))))
            have HI2 := Lib.hid (fun p : Bw wr => id_any n2 p.W (HC.out.below (belowThen HB8.out (belowThen HBJ.out p.h))))
            have HCL := Lib.hid (fun p : Bw wr => closer_any q (idN n1) (idN n2) p.W HQL.out (length_idN n1) (length_idN n2))
            rw [decide_eq_true hnr] at HCL
            obtain ⟨d1, hd1'⟩ : ∃ d1, d1 = idN n1 := ⟨_, rfl⟩
            obtain ⟨d2, hd2'⟩ : ∃ d2, d2 = idN n2 := ⟨_, rfl⟩
            simp only [← hd1', ← hd2'] at HI1 HI2 HCL
            clear e1 e2 hnr hn1 hn2 hd1' hd2'
            go_wp2_with fail
            have hld := HLD.out
            have hw1 : IntKind.i64.wrap (j : Int) = (j : Int) := by simp [IntKind.wrap, IntKind.bits, IntKind.signed]; omega
            have hw2 : IntKind.i64.wrap ((j : Int) + 1 - 1) = (j : Int) := by rw [Int.add_sub_cancel]; exact hw1
            have hj3 : (j : Int) < (S.length : Int) := by omega
            have hj4 : j < S.length := by omega
            have hz1 : (0 : Int) ≤ (j : Int) + 1 := by omega
            have hz2 : ¬ (j : Int) + 1 < 0 := by omega
            have hz3 : ((j : Int) + 1).toNat = j + 1 := by omega
            have he1 := HE1.out
            have he2 := HE2.out
            refine wp_region_bw (by kernel_rfl) (by kernel_rfl) ?_
            repeat (first | quiet_step ((first
              | (go_at_call 26; rename_i p; exact Bw.call (HI1.out p))
              | (go_at_call 26; rename_i p; exact Bw.call (HI2.out p))
              | (go_at_call 25; rename_i p; exact Bw.call (HCL.out p)))) | go_big_quiet_step ((first
              | (go_at_call 26; rename_i p; exact Bw.call (HI1.out p))
              | (go_at_call 26; rename_i p; exact Bw.call (HI2.out p))
              | (go_at_call 25; rename_i p; exact Bw.call (HCL.out p)))))
            refine wpQuiet_nil ?_
            rintro _ ⟨p, rfl⟩
            have HBP := Lib.hid (belowThen HBJ.out p.h)
            go_wp2_with fail
            exact ⟨⟨j + 1, by omega, by go_num, HBP⟩, by simp [intOf]; omega⟩
          · have hl2 : ¬ (j : Int) + 1 < (S.length : Int) := by omega
            go_wp2_with fail
            go_ret
            exact ⟨rfl, belowThen HB8.out HBJ.out⟩
      · have hd1 : decide ((k : Int) < (ks.length : Int)) = true := by simp; omega
        have hd2 : decide ((k : Int) < 30) = false := by simp; omega
        obtain ⟨L, ho, hnd, hin, hlen, -, hb, -⟩ := HX.out
        have HO := Lib.hid ho
        have HND := Lib.hid hnd
        have HIN := Lib.hid hin
        have HLN := Lib.hid hlen
        have HB := Lib.hid hb
        clear ho hnd hin hlen hb HX
        go_wp2_with fail
        refine (name_any s0 _).mono ?_
        rintro e w4 ⟨rfl, hb4⟩
        have HB4 := Lib.hid (belowThen HB.out hb4)
        have HO4 := Lib.hid (HO.out.below hb4)
        obtain ⟨q, hq⟩ : ∃ q, q = nameOf s0 := ⟨_, rfl⟩
        have hql : q.length = 32 := by rw [hq]; exact length_nameOf s0
        rw [← hq]
        have HQL := Lib.hid hql
        have SZ := Lib.hid (sz_id q hql)
        have HZ32 := Lib.hid (show (List.replicate 32 (byteV 0)).length = (q.map byteV).length by rw [List.length_map, hql]; rfl)
        have ONE := Lib.hid (oneBytes q)
        clear hb4 hq hql HB HO
        go_wp2_with (first
          | (refine wp_store_gen (B := w4.heap.size) (w0 := w4) (belowSelf w4 _) (Nat.le_refl _) (Mem.newAt w4 TI (List.replicate 32 (byteV 0)) rfl) (q.map byteV) TI (.tmp 9) (.tmp 46) rfl rfl rfl rfl SZ.out HZ32.out ONE.out ?_
             intro W2 hm2 hb2 hz2 hk2
             have l2 := ld_id_at hm2 HQL.out
             have HM2 := Lib.hid hm2
             have HB2 := Lib.hid (belowThen HB4.out hb2)
             have HO2 := Lib.hid (HO4.out.below hb2)
             clear hm2 hb2 hz2 hk2)
          | fail)
        refine (bsort_any q HQL.out _ L W2 (Owns.zs HO2.out) (by have := HLN.out; omega) (HC.out.below HB2.out)).mono ?_
        rintro e w5 ⟨u, rfl, ps, hp, hs, hou, hb5⟩
        rw [isortB_eq q HQL.out HIN.out hp hs] at hou
        have HOU := Lib.hid hou
        have HO5 := Lib.hid (HO2.out.below hb5)
        have HM5 := Lib.hid (HM2.out.below hb5 HM2.out.lt)
        have HB5 := Lib.hid (belowThen HB2.out hb5)
        have HLS := Lib.hid (show (isortB q L).length ≤ 30 by rw [(isortB_perm q L).length_eq]; exact Nat.le_trans HLN.out hk)
        clear l2 hp hs hou hb5 HO2 HM2 HB2
        have l5 := ld_id_at HM5.out HQL.out
        go_wp2_with fail
        refine (bytes_any q _ HQL.out).mono ?_
        rintro e w6 ⟨rfl, hb6⟩
        have HO6 := Lib.hid (HO5.out.below hb6)
        have HOU6 := Lib.hid (HOU.out.below hb6)
        have HM6 := Lib.hid (HM5.out.below hb6 HM5.out.lt)
        have HB6 := Lib.hid (belowThen HB5.out hb6)
        clear l5 hb6 HO5 HOU HM5 HB5
        go_wp2_with fail
        refine (refSort_any q HQL.out _ L w6 (Owns.zs HO6.out) HIN.out (by have := HLN.out; omega)).mono ?_
        rintro e w7 ⟨u2, rfl, ho7, hb7⟩
        have HO7 := Lib.hid ho7
        have HOU7 := Lib.hid (HOU6.out.below hb7)
        have HM7 := Lib.hid (HM6.out.below hb7 HM6.out.lt)
        have HB7 := Lib.hid (belowThen HB6.out hb7)
        clear ho7 hb7 HO6 HOU6 HM6 HB6
        go_wp2_with fail
        refine (same19_any HOU7.out HO7.out (by have := HLS.out; omega)).mono ?_
        rintro e w8 ⟨rfl, hb8⟩
        have HOU8 := Lib.hid (HOU7.out.below hb8)
        have HM8 := Lib.hid (HM7.out.below hb8 HM7.out.lt)
        have HB8 := Lib.hid (belowThen HB7.out hb8)
        clear hb8 HO7 HOU7 HM7 HB7
        obtain ⟨aU, cU, eU, -, -, hcU⟩ := HOU8.out.form
        rw [List.length_map] at eU hcU
        subst eU
        have HCU := Lib.hid hcU
        have HNR := Lib.hid (fun i hi => near_of HQL.out HND.out HIN.out (i := i) hi)
        obtain ⟨S, hS⟩ : ∃ S, S = isortB q L := ⟨_, rfl⟩
        simp only [← hS] at HCU HNR HLS ⊢
        clear hcU hS HOU8
        go_wp2_with fail
        go_loopw [11] (fun i w9 => ∃ j : Nat, j ≤ 30 ∧ i = .int .i64 ((j : Int) + 1) ∧ Hid (Below w8.heap.size w8 w9)) (fun i _ => 31 - (intOf i).toNat)
        case atStart => exact ⟨0, by omega, rfl, Lib.hid (Below.refl _ _)⟩
        case round =>
          obtain ⟨j, hj, rfl, HBJ⟩ := hrel
          have hls := HLS.out
          by_cases hjt : j + 1 < S.length
          · have hl2 : (j : Int) + 1 < (S.length : Int) := by omega
            obtain ⟨gU, hgU, -, e1⟩ := HCU.out j (by omega)
            obtain ⟨gU', hgU', -, e2⟩ := HCU.out (j + 1) hjt
            rw [hgU] at hgU'
            injection hgU' with hgU'
            injection hgU' with hgU'
            subst hgU'
            subst hgU
            rw [List.getElem?_map, List.getElem?_eq_getElem (by omega), Option.map_some, show S[j] = S.getD j 0 by rw [List.getD_eq_getElem?_getD, List.getElem?_eq_getElem (by omega)]; rfl] at e1
            rw [List.getElem?_map, List.getElem?_eq_getElem hjt, Option.map_some, show S[j + 1] = S.getD (j + 1) 0 by rw [List.getD_eq_getElem?_getD, List.getElem?_eq_getElem hjt]; rfl] at e2
            have hnr := HNR.out j hjt
            obtain ⟨n1, hn1⟩ : ∃ n1, n1 = S.getD j 0 := ⟨_, rfl⟩
            obtain ⟨n2, hn2⟩ : ∃ n2, n2 = S.getD (j + 1) 0 := ⟨_, rfl⟩
            rw [← hn1] at e1 hnr
            rw [← hn2] at e2 hnr
            have HE1 := Lib.hid (fun p : Bw wr => (show p.W.cell? ⟨gU, j, none⟩ = some (iv n1) from (World.cell?_of_block (a := ⟨gU, j, none⟩) ((belowThen HBJ.out p.h).block _ (World.block_lt_of_cell? w8 _ e1))).trans e1))
            have HE2 := Lib.hid (fun p : Bw wr => (show p.W.cell? ⟨gU, j + 1, none⟩ = some (iv n2) from (World.cell?_of_block (a := ⟨gU, j + 1, none⟩) ((belowThen HBJ.out p.h).block _ (World.block_lt_of_cell? w8 _ e2))).trans e2))
            have HLD := Lib.hid (fun p : Bw wr => ld_id_at (HM8.out.below (belowThen HBJ.out p.h) HM8.out.lt) HQL.out)
            have HI1 := Lib.hid (fun p : Bw wr => id_any n1 p.W (HC.out.below (belowThen HB8.out (belowThen HBJ.out p.h))))
            have HI2 := Lib.hid (fun p : Bw wr => id_any n2 p.W (HC.out.below (belowThen HB8.out (belowThen HBJ.out p.h))))
            have HCL := Lib.hid (fun p : Bw wr => closer_any q (idN n1) (idN n2) p.W HQL.out (length_idN n1) (length_idN n2))
            rw [decide_eq_true hnr] at HCL
            obtain ⟨d1, hd1'⟩ : ∃ d1, d1 = idN n1 := ⟨_, rfl⟩
            obtain ⟨d2, hd2'⟩ : ∃ d2, d2 = idN n2 := ⟨_, rfl⟩
            simp only [← hd1', ← hd2'] at HI1 HI2 HCL
            clear e1 e2 hnr hn1 hn2 hd1' hd2'
            go_wp2_with fail
            have hld := HLD.out
            have hw1 : IntKind.i64.wrap (j : Int) = (j : Int) := by simp [IntKind.wrap, IntKind.bits, IntKind.signed]; omega
            have hw2 : IntKind.i64.wrap ((j : Int) + 1 - 1) = (j : Int) := by rw [Int.add_sub_cancel]; exact hw1
            have hj3 : (j : Int) < (S.length : Int) := by omega
            have hj4 : j < S.length := by omega
            have hz1 : (0 : Int) ≤ (j : Int) + 1 := by omega
            have hz2 : ¬ (j : Int) + 1 < 0 := by omega
            have hz3 : ((j : Int) + 1).toNat = j + 1 := by omega
            have he1 := HE1.out
            have he2 := HE2.out
            refine wp_region_bw (by kernel_rfl) (by kernel_rfl) ?_
            repeat (first | quiet_step ((first
              | (go_at_call 26; rename_i p; exact Bw.call (HI1.out p))
              | (go_at_call 26; rename_i p; exact Bw.call (HI2.out p))
              | (go_at_call 25; rename_i p; exact Bw.call (HCL.out p)))) | go_big_quiet_step ((first
              | (go_at_call 26; rename_i p; exact Bw.call (HI1.out p))
              | (go_at_call 26; rename_i p; exact Bw.call (HI2.out p))
              | (go_at_call 25; rename_i p; exact Bw.call (HCL.out p)))))
            refine wpQuiet_nil ?_
            rintro _ ⟨p, rfl⟩
            have HBP := Lib.hid (belowThen HBJ.out p.h)
            go_wp2_with fail
            exact ⟨⟨j + 1, by omega, by go_num, HBP⟩, by simp [intOf]; omega⟩
          · have hl2 : ¬ (j : Int) + 1 < (S.length : Int) := by omega
            go_wp2_with fail
            go_ret
            exact ⟨rfl, belowThen HB8.out HBJ.out⟩
end Go.Proofs.YtaicjdjfhbmfeaaDoor

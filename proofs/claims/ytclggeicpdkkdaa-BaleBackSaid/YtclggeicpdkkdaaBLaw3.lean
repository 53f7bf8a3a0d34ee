/-
  BaleBack: the walk.
-/
import Derived.Test.YtclggeicpdkkdaaBal15
import Derived.Test.YtclggeicpdkkdaaBal3n
import Derived.Test.YtclggeicpdkkdaaBLaw2
namespace Go.Proofs.Ytclggeicpdkkdaa
open Go.RowKit Crv
attribute [local go_sem] ByteArray.mk_append_mk

theorem ints_new {w : World} {t : TypeId} (k : Int) : Ints (w.alloc (.cells #[.int .i64 k] t)) (.slice (some ⟨w.heap.size, 0, none⟩) 1 1) [k] := by
  refine ⟨some ⟨w.heap.size, 0, none⟩, 1, rfl, fun i hi => ⟨w.heap.size, 0, rfl, ?_⟩⟩
  rw [Nat.zero_add]
  exact (Mem.new w t [Value.int .i64 k]).cell i
theorem nums_one (q : Nat) (K : Int) (h : K = (q : Int)) : ([K].flatMap fun k => numOf (nat0 k)) = numOf q := by
  subst h
  simp [nat0]
theorem length_idsOf {xs : List (List UInt8)} (h : ∀ x ∈ xs, x.length = 32) (hn : xs.length ≤ 6) : (idsOf xs).length ≤ 201 := by
  have h1 := flatten_len32 xs h
  have h2 := length_numOf (n := xs.length) (by omega)
  unfold idsOf
  rw [List.length_append]
  omega

set_option maxRecDepth 100000 in
set_option maxHeartbeats 4000000 in
theorem baleBack_pos (n : Nat) (hn : n < 18446744073709551616) (q : Nat) (hq : q < 9223372036854775808) (s0 tl0 : List UInt8) (v3 : Value) (is : List (List UInt8)) (w : World) (h3 : Txs w v3 is) :
    Calls Try.prog 4 #[.int .u64 (n : Int), .int .i64 (q : Int), .string (str s0), v3, .string (str tl0)] w fun e w' => e = .returned (.bool true) ∧ Below w.heap.size w w' := by
  have hv3 : ∃ a cap, v3 = .slice a is.length cap := by obtain ⟨a, cap, h, _⟩ := h3; exact ⟨a, cap, h⟩
  obtain ⟨a3, cap3, rfl⟩ := hv3
  have H3 := Lib.hid h3
  clear h3
  obtain ⟨tid, hii, hiz, his, hib⟩ : ∃ i, Try.prog.info? Ti = some i ∧ i.zero = some (.agg zs32) ∧ i.size = 32 ∧ i.bytes = 32 := info_of (by kernel_rfl)
  have HII := Lib.hid hii
  have HIZ := Lib.hid hiz
  have HIS := Lib.hid his
  have HIB := Lib.hid hib
  clear hii hiz his hib
  have HL0 := Lib.hid (show Ids (w.alloc (.cells #[] Ti)) w.heap.size (.slice (some ⟨w.heap.size, 0, none⟩) 0 0) ((is.take 0).map nameOf) ∧ Below w.heap.size w (w.alloc (.cells #[] Ti)) from ⟨Ids.new (Nat.le_refl _), belowSelf _ _⟩)
  go_enter Try.func4, Try.ntmps4
  go_wp2_with fail
  refine (cutB s0 _ (by decide) _).mono ?_
  rintro e w' ⟨rfl, rfl⟩
  obtain ⟨s, hs⟩ : ∃ s, s = s0.take (60 : Int).toNat := ⟨_, rfl⟩
  have ls : s.length ≤ 60 := by rw [hs]; exact List.length_take_le _ _
  rw [← hs]
  clear hs
  go_wp2_with fail
  refine (cutB tl0 _ (by decide) _).mono ?_
  rintro e w' ⟨rfl, rfl⟩
  obtain ⟨tl, htl⟩ : ∃ tl, tl = tl0.take (20 : Int).toNat := ⟨_, rfl⟩
  have ltl : tl.length ≤ 20 := by rw [htl]; exact List.length_take_le _ _
  rw [← htl]
  clear htl
  go_wp2_with fail
  go_loopw [11, 12] (fun vs i wr => ∃ p : Nat, p ≤ is.length ∧ p ≤ 6 ∧ i = .int .i64 p ∧ Hid (Ids wr w.heap.size vs ((is.take p).map nameOf) ∧ Below w.heap.size w wr)) (fun _ i _ => 6 - (intOf i).toNat)
  case atStart => exact ⟨0, by omega, by omega, rfl, HL0⟩
  case round =>
    clear HL0
    obtain ⟨p, hp1, hp6, rfl, HR⟩ := hrel
    by_cases hlt : p < is.length ∧ p < 6
    · obtain ⟨hlt1, hlt2⟩ := hlt
      obtain ⟨b, off, rfl, hc, hbl⟩ := H3.out.at p hlt1
      obtain ⟨x0, hx0⟩ : ∃ x, x = is[p] := ⟨_, rfl⟩
      rw [← hx0] at hc
      have hcell := HR.out.2.cell (p := ⟨b, off + p, none⟩) hbl
      rw [hc] at hcell
      have HTK := Lib.hid (show (is.take (p + 1)).map nameOf = (is.take p).map nameOf ++ [nameOf x0] by rw [List.take_succ_eq_append_getElem hlt1, ← hx0]; simp)
      have HLEN := Lib.hid (show ((is.take p).map nameOf).length ≤ 1099511627776 by
        have h5 := List.length_take_le p is
        simp; omega)
      have HNM := Lib.hid (name_any x0)
      obtain ⟨x, hx⟩ : ∃ x, x = nameOf x0 := ⟨_, rfl⟩
      have HXL := Lib.hid (show x.length = 32 by rw [hx]; exact length_nameOf _)
      rw [← hx] at HNM HTK
      obtain ⟨L, hL⟩ : ∃ L, L = (is.take p).map nameOf := ⟨_, rfl⟩
      rw [← hL] at HR HTK HLEN
      have hd1 : decide (p < is.length) = true := by simpa using hlt1
      have hd2 : decide ((p : Int) < 6) = true := by simp; omega
      clear hc hx0 hx hL
      go_wp2_with fail
      refine (HNM.out _).mono ?_
      rintro e w4 ⟨rfl, hb4⟩
      have HR4 := Lib.hid (show Ids w4 w.heap.size u11 L ∧ Below w.heap.size w w4 from ⟨HR.out.1.below hb4, belowThen HR.out.2 hb4⟩)
      have HLC := Lib.hid (show w.heap.size ≤ (w4.alloc (.cells (x.map byteV).toArray Ti)).heap.size from Nat.le_trans HR4.out.2.size (by simp))
      clear HR hb4 hcell
      go_wp2_with (first
        | (refine wp_build_id x HXL.out (.tmp 36) rfl rfl rfl ?_)
        | (at_builtin; refine wp_append_id (HR4.out.1.below (belowSelf _ _)) w.heap.size (belowThen HR4.out.2 (belowSelf _ _)) (Nat.le_refl _) x HXL.out (.tmp 31) (.tmp 37) 28 tid (.agg zs32) rfl rfl Try.underlying28 HII.out HIZ.out HIS.out HIB.out rfl rfl rfl (Mem.newAt w4 Ti (x.map byteV) rfl) HLEN.out HLC.out ?_
           intro v6 w6 hids6 hb6 hz6 hg6 hat6
           rw [← HTK.out] at hids6
           have HR6 := Lib.hid (show Ids w6 w.heap.size v6 ((is.take (p + 1)).map nameOf) ∧ Below w.heap.size w w6 from ⟨hids6, hb6⟩)
           clear hids6 hb6 hz6 hg6 hat6)
        | fail)
      go_roundw
      case rel => exact ⟨p + 1, by omega, by omega, by go_num, HR6⟩
      case measure => simp [intOf]; omega
    · have hor : is.length = p ∨ (p < is.length ∧ p = 6) := by omega
      clear hlt
      obtain ⟨P1, hP1⟩ : ∃ P1, P1 = (is.take p).map nameOf := ⟨_, rfl⟩
      have hP1l : P1.length ≤ 6 := by
        rw [hP1, List.length_map]
        have := List.length_take_le p is
        omega
      rw [← hP1] at HR
      clear hP1
      obtain ⟨wD, hwD⟩ : ∃ wD : World, wD = wr := ⟨_, rfl⟩
      subst hwD
      have hds : (decide (p < is.length) = false) ∨ (decide (p < is.length) = true ∧ decide ((p : Int) < 6) = false) := by
        rcases hor with h | ⟨h, h'⟩
        · left; simp; omega
        · right; exact ⟨by simpa using h, by simp; omega⟩
      have hli := length_idsOf HR.out.1.1 hP1l
      have hln := length_numOf hn
      have hlq := length_numOf (n := q) (by omega)
      have hls : (strOf s).length ≤ 69 := by
        have := length_numOf (n := s.length) (by omega)
        unfold strOf
        rw [List.length_append]
        omega
      have HSN := Lib.hid (numS_numOf n (numOf q ++ (strOf s ++ (idsOf P1 ++ tl))) hn)
      have HSI := Lib.hid (intS_numOf q (strOf s ++ (idsOf P1 ++ tl)) (q : Int) (by omega) (by omega))
      have HSS := Lib.hid (strS_strOf s (idsOf P1 ++ tl) 60 (by omega) (by omega))
      have HN1 := Lib.hid (nums_one q (q : Int) (by omega))
      obtain ⟨en, hen⟩ : ∃ en, en = numOf n := ⟨_, rfl⟩
      obtain ⟨eq, heq⟩ : ∃ eq, eq = numOf q := ⟨_, rfl⟩
      obtain ⟨es, hes⟩ : ∃ es, es = strOf s := ⟨_, rfl⟩
      obtain ⟨ei, hei⟩ : ∃ ei, ei = idsOf P1 := ⟨_, rfl⟩
      have HNUM := Lib.hid (fun W => num_any n W hn)
      have HSTR := Lib.hid (fun W => str_any s W (by omega))
      have HIDS := Lib.hid (fun W (h : Ids W w.heap.size u11 P1) => ids_any W w.heap.size u11 P1 h (by omega))
      have HBK := Lib.hid (fun W g (h : BM W g (idsOf P1 ++ tl, 0)) => idsB_ok W g P1 tl h HR.out.1.1 hP1l (by omega))
      rw [← hen] at hln HSN HNUM
      rw [← heq] at hlq HSN HSI HN1
      rw [← hes] at hls HSN HSI HSS HSTR
      rw [← hei] at hli HSN HSI HSS HIDS HBK
      clear hen heq hes hei hor
      rcases hds with hda | ⟨hda, hdb⟩
      all_goals
        go_wp2_with fail
        refine (HNUM.out _).mono ?_
        rintro e w1 ⟨rfl, hb1⟩
        have hb01 := belowThen HR.out.2 hb1
        have HI1 := Lib.hid (HR.out.1.below hb1)
        clear hb1
        go_wp2_with fail
        refine (nums_any _ _ [(q : Int)] (ints_new (q : Int)) (by simp) (by intro k hk; simp at hk; subst hk; omega)).mono ?_
        rintro e w2 ⟨rfl, hb2⟩
        rw [HN1.out]
        have hb02 := belowThen (belowThen hb01 (belowSelf _ _)) hb2
        have HI2 := Lib.hid ((HI1.out.below (belowSelf _ _)).below hb2)
        clear hb2 hb01 HI1
        go_wp2_with fail
        refine (HSTR.out _).mono ?_
        rintro e w3 ⟨rfl, hb3⟩
        have hb03 := belowThen hb02 hb3
        have HI3 := Lib.hid (HI2.out.below hb3)
        clear hb3 hb02 HI2
        go_wp2_with fail
        refine (HIDS.out _ HI3.out).mono ?_
        rintro e w4 ⟨rfl, hb4⟩
        have hb04 := belowThen hb03 hb4
        have HI4 := Lib.hid (HI3.out.below hb4)
        clear hb4 hb03 HI3
        go_wp2_with fail
        refine (open_any _ _).mono ?_
        rintro e w5 ⟨rfl, hm5, hb5, hz5⟩
        have hb05 := belowThen hb04 hb5
        have HI5 := Lib.hid (HI4.out.below hb5)
        have hgN : w.heap.size ≤ w4.heap.size := hb04.size
        have HM5 := Lib.hid hm5
        have HGB := Lib.hid (show ∀ q, u11.ownBlock = some q → q < w4.heap.size from fun q hq => (HI4.out.lt q hq).1)
        clear hb5 hb04 HI4 hm5 hz5
        go_wp2_with fail
        refine (awake4_any _).mono ?_
        rintro e w6 ⟨rfl, hb6⟩
        have hb06 := belowThen hb05 hb6
        have HI6 := Lib.hid (HI5.out.below hb6)
        have HQ := Lib.hid (numB_any w6 w4.heap.size _ (HM5.out.below hb6))
        rw [HSN.out] at HQ
        clear hb6 hb05 HI5 HM5
        go_wp2_with fail
        refine HQ.out.mono ?_
        rintro e w7 ⟨rfl, hm7, hg7⟩
        have hb07 := belowNew hb06 hg7 hgN
        have HI7 := Lib.hid (HI6.out.of_block (fun q hq => hg7.block q (HI6.out.lt q hq).1 (fun e => by injection e with e; have := HGB.out q hq; omega)))
        have HQ2 := Lib.hid (intB_any w7 w4.heap.size _ (q : Int) hm7 (by omega) (by omega))
        rw [HSI.out] at HQ2
        clear hb06 HI6 HQ hg7 hm7
        go_wp2_with fail
        refine HQ2.out.mono ?_
        rintro e w8 ⟨rfl, hm8, hg8⟩
        have hb08 := belowNew hb07 hg8 hgN
        have HI8 := Lib.hid (HI7.out.of_block (fun q hq => hg8.block q (HI7.out.lt q hq).1 (fun e => by injection e with e; have := HGB.out q hq; omega)))
        have HQ3 := Lib.hid (strB_any w8 w4.heap.size _ 60 hm8 (by omega) (by omega))
        rw [HSS.out] at HQ3
        clear hb07 HI7 HQ2 hg8 hm8
        go_wp2_with fail
        refine HQ3.out.mono ?_
        rintro e w9 ⟨rfl, hm9, hg9⟩
        have hb09 := belowNew hb08 hg9 hgN
        have HI9 := Lib.hid (HI8.out.of_block (fun q hq => hg9.block q (HI8.out.lt q hq).1 (fun e => by injection e with e; have := HGB.out q hq; omega)))
        have HQ4 := Lib.hid (HBK.out w9 w4.heap.size hm9)
        clear hb08 HI8 HQ3 hg9 hm9
        go_wp2_with fail
        refine HQ4.out.mono ?_
        rintro e w10 ⟨v10, rfl, hid10, hm10, hg10⟩
        have hb010 := belowNew hb09 hg10 hgN
        have HI10 := Lib.hid (HI9.out.of_block (fun q hq => hg10.block q (HI9.out.lt q hq).1 (fun e => by injection e with e; have := HGB.out q hq; omega)))
        have HS10 := Lib.hid (same_ids w10 0 w.heap.size v10 u11 P1 hid10 HI10.out (by omega))
        have HM10 := Lib.hid hm10
        clear hb09 HI9 HQ4 hg10 hm10 hid10
        go_wp2_with fail
        refine HS10.out.mono ?_
        rintro e w11 ⟨rfl, m11, rfl⟩
        have HLF := Lib.hid (left_any (w10.drewN m11) w4.heap.size _ HM10.out)
        have HER := Lib.hid (err_any (w10.drewN m11) w4.heap.size _ HM10.out)
        clear HS10 HI10
        go_wp2_with fail
        refine HLF.out.mono ?_
        rintro e w12 ⟨rfl, rfl⟩
        clear HLF
        go_wp2_with fail
        refine HER.out.mono ?_
        rintro e w12 ⟨rfl, rfl⟩
        clear HER
        go_wp2_with fail
        go_ret
        exact ⟨rfl, below_drewN hb010 m11⟩

set_option maxRecDepth 100000 in
set_option maxHeartbeats 4000000 in
theorem baleBack_neg (n : Nat) (hn : n < 18446744073709551616) (k0 : Int) (hk0 : k0 < 0) (s0 tl0 : List UInt8) (v3 : Value) (is : List (List UInt8)) (w : World) (h3 : Txs w v3 is) :
    Calls Try.prog 4 #[.int .u64 (n : Int), .int .i64 k0, .string (str s0), v3, .string (str tl0)] w fun e w' => e = .returned (.bool true) ∧ Below w.heap.size w w' := by
  have hv3 : ∃ a cap, v3 = .slice a is.length cap := by obtain ⟨a, cap, h, _⟩ := h3; exact ⟨a, cap, h⟩
  obtain ⟨a3, cap3, rfl⟩ := hv3
  have H3 := Lib.hid h3
  clear h3
  obtain ⟨tid, hii, hiz, his, hib⟩ : ∃ i, Try.prog.info? Ti = some i ∧ i.zero = some (.agg zs32) ∧ i.size = 32 ∧ i.bytes = 32 := info_of (by kernel_rfl)
  have HII := Lib.hid hii
  have HIZ := Lib.hid hiz
  have HIS := Lib.hid his
  have HIB := Lib.hid hib
  clear hii hiz his hib
  have HL0 := Lib.hid (show Ids (w.alloc (.cells #[] Ti)) w.heap.size (.slice (some ⟨w.heap.size, 0, none⟩) 0 0) ((is.take 0).map nameOf) ∧ Below w.heap.size w (w.alloc (.cells #[] Ti)) from ⟨Ids.new (Nat.le_refl _), belowSelf _ _⟩)
  go_enter Try.func4, Try.ntmps4
  go_wp2_with fail
  refine (cutB s0 _ (by decide) _).mono ?_
  rintro e w' ⟨rfl, rfl⟩
  obtain ⟨s, hs⟩ : ∃ s, s = s0.take (60 : Int).toNat := ⟨_, rfl⟩
  have ls : s.length ≤ 60 := by rw [hs]; exact List.length_take_le _ _
  rw [← hs]
  clear hs
  go_wp2_with fail
  refine (cutB tl0 _ (by decide) _).mono ?_
  rintro e w' ⟨rfl, rfl⟩
  obtain ⟨tl, htl⟩ : ∃ tl, tl = tl0.take (20 : Int).toNat := ⟨_, rfl⟩
  have ltl : tl.length ≤ 20 := by rw [htl]; exact List.length_take_le _ _
  rw [← htl]
  clear htl
  go_wp2_with fail
  go_loopw [11, 12] (fun vs i wr => ∃ p : Nat, p ≤ is.length ∧ p ≤ 6 ∧ i = .int .i64 p ∧ Hid (Ids wr w.heap.size vs ((is.take p).map nameOf) ∧ Below w.heap.size w wr)) (fun _ i _ => 6 - (intOf i).toNat)
  case atStart => exact ⟨0, by omega, by omega, rfl, HL0⟩
  case round =>
    clear HL0
    obtain ⟨p, hp1, hp6, rfl, HR⟩ := hrel
    by_cases hlt : p < is.length ∧ p < 6
    · obtain ⟨hlt1, hlt2⟩ := hlt
      obtain ⟨b, off, rfl, hc, hbl⟩ := H3.out.at p hlt1
      obtain ⟨x0, hx0⟩ : ∃ x, x = is[p] := ⟨_, rfl⟩
      rw [← hx0] at hc
      have hcell := HR.out.2.cell (p := ⟨b, off + p, none⟩) hbl
      rw [hc] at hcell
      have HTK := Lib.hid (show (is.take (p + 1)).map nameOf = (is.take p).map nameOf ++ [nameOf x0] by rw [List.take_succ_eq_append_getElem hlt1, ← hx0]; simp)
      have HLEN := Lib.hid (show ((is.take p).map nameOf).length ≤ 1099511627776 by
        have h5 := List.length_take_le p is
        simp; omega)
      have HNM := Lib.hid (name_any x0)
      obtain ⟨x, hx⟩ : ∃ x, x = nameOf x0 := ⟨_, rfl⟩
      have HXL := Lib.hid (show x.length = 32 by rw [hx]; exact length_nameOf _)
      rw [← hx] at HNM HTK
      obtain ⟨L, hL⟩ : ∃ L, L = (is.take p).map nameOf := ⟨_, rfl⟩
      rw [← hL] at HR HTK HLEN
      have hd1 : decide (p < is.length) = true := by simpa using hlt1
      have hd2 : decide ((p : Int) < 6) = true := by simp; omega
      clear hc hx0 hx hL
      go_wp2_with fail
      refine (HNM.out _).mono ?_
      rintro e w4 ⟨rfl, hb4⟩
      have HR4 := Lib.hid (show Ids w4 w.heap.size u11 L ∧ Below w.heap.size w w4 from ⟨HR.out.1.below hb4, belowThen HR.out.2 hb4⟩)
      have HLC := Lib.hid (show w.heap.size ≤ (w4.alloc (.cells (x.map byteV).toArray Ti)).heap.size from Nat.le_trans HR4.out.2.size (by simp))
      clear HR hb4 hcell
      go_wp2_with (first
        | (refine wp_build_id x HXL.out (.tmp 36) rfl rfl rfl ?_)
        | (at_builtin; refine wp_append_id (HR4.out.1.below (belowSelf _ _)) w.heap.size (belowThen HR4.out.2 (belowSelf _ _)) (Nat.le_refl _) x HXL.out (.tmp 31) (.tmp 37) 28 tid (.agg zs32) rfl rfl Try.underlying28 HII.out HIZ.out HIS.out HIB.out rfl rfl rfl (Mem.newAt w4 Ti (x.map byteV) rfl) HLEN.out HLC.out ?_
           intro v6 w6 hids6 hb6 hz6 hg6 hat6
           rw [← HTK.out] at hids6
           have HR6 := Lib.hid (show Ids w6 w.heap.size v6 ((is.take (p + 1)).map nameOf) ∧ Below w.heap.size w w6 from ⟨hids6, hb6⟩)
           clear hids6 hb6 hz6 hg6 hat6)
        | fail)
      go_roundw
      case rel => exact ⟨p + 1, by omega, by omega, by go_num, HR6⟩
      case measure => simp [intOf]; omega
    · have hor : is.length = p ∨ (p < is.length ∧ p = 6) := by omega
      clear hlt
      obtain ⟨P1, hP1⟩ : ∃ P1, P1 = (is.take p).map nameOf := ⟨_, rfl⟩
      have hP1l : P1.length ≤ 6 := by
        rw [hP1, List.length_map]
        have := List.length_take_le p is
        omega
      rw [← hP1] at HR
      clear hP1
      obtain ⟨wD, hwD⟩ : ∃ wD : World, wD = wr := ⟨_, rfl⟩
      subst hwD
      have hds : (decide (p < is.length) = false) ∨ (decide (p < is.length) = true ∧ decide ((p : Int) < 6) = false) := by
        rcases hor with h | ⟨h, h'⟩
        · left; simp; omega
        · right; exact ⟨by simpa using h, by simp; omega⟩
      have hli := length_idsOf HR.out.1.1 hP1l
      have hln := length_numOf hn
      have hlq := length_numOf (n := 0) (by omega)
      have hls : (strOf s).length ≤ 69 := by
        have := length_numOf (n := s.length) (by omega)
        unfold strOf
        rw [List.length_append]
        omega
      have HSN := Lib.hid (numS_numOf n (numOf 0 ++ (strOf s ++ (idsOf P1 ++ tl))) hn)
      have HSI := Lib.hid (intS_numOf 0 (strOf s ++ (idsOf P1 ++ tl)) 0 (by omega) (by omega))
      have HSS := Lib.hid (strS_strOf s (idsOf P1 ++ tl) 60 (by omega) (by omega))
      have HN1 := Lib.hid (nums_one 0 0 (by omega))
      obtain ⟨en, hen⟩ : ∃ en, en = numOf n := ⟨_, rfl⟩
      obtain ⟨eq, heq⟩ : ∃ eq, eq = numOf 0 := ⟨_, rfl⟩
      obtain ⟨es, hes⟩ : ∃ es, es = strOf s := ⟨_, rfl⟩
      obtain ⟨ei, hei⟩ : ∃ ei, ei = idsOf P1 := ⟨_, rfl⟩
      have HNUM := Lib.hid (fun W => num_any n W hn)
      have HSTR := Lib.hid (fun W => str_any s W (by omega))
      have HIDS := Lib.hid (fun W (h : Ids W w.heap.size u11 P1) => ids_any W w.heap.size u11 P1 h (by omega))
      have HBK := Lib.hid (fun W g (h : BM W g (idsOf P1 ++ tl, 0)) => idsB_ok W g P1 tl h HR.out.1.1 hP1l (by omega))
      rw [← hen] at hln HSN HNUM
      rw [← heq] at hlq HSN HSI HN1
      rw [← hes] at hls HSN HSI HSS HSTR
      rw [← hei] at hli HSN HSI HSS HIDS HBK
      clear hen heq hes hei hor
      rcases hds with hda | ⟨hda, hdb⟩
      all_goals
        go_wp2_with fail
        refine (HNUM.out _).mono ?_
        rintro e w1 ⟨rfl, hb1⟩
        have hb01 := belowThen HR.out.2 hb1
        have HI1 := Lib.hid (HR.out.1.below hb1)
        clear hb1
        go_wp2_with fail
        refine (nums_any _ _ [0] (ints_new 0) (by simp) (by intro k hk; simp at hk; subst hk; omega)).mono ?_
        rintro e w2 ⟨rfl, hb2⟩
        rw [HN1.out]
        have hb02 := belowThen (belowThen hb01 (belowSelf _ _)) hb2
        have HI2 := Lib.hid ((HI1.out.below (belowSelf _ _)).below hb2)
        clear hb2 hb01 HI1
        go_wp2_with fail
        refine (HSTR.out _).mono ?_
        rintro e w3 ⟨rfl, hb3⟩
        have hb03 := belowThen hb02 hb3
        have HI3 := Lib.hid (HI2.out.below hb3)
        clear hb3 hb02 HI2
        go_wp2_with fail
        refine (HIDS.out _ HI3.out).mono ?_
        rintro e w4 ⟨rfl, hb4⟩
        have hb04 := belowThen hb03 hb4
        have HI4 := Lib.hid (HI3.out.below hb4)
        clear hb4 hb03 HI3
        go_wp2_with fail
        refine (open_any _ _).mono ?_
        rintro e w5 ⟨rfl, hm5, hb5, hz5⟩
        have hb05 := belowThen hb04 hb5
        have HI5 := Lib.hid (HI4.out.below hb5)
        have hgN : w.heap.size ≤ w4.heap.size := hb04.size
        have HM5 := Lib.hid hm5
        have HGB := Lib.hid (show ∀ q, u11.ownBlock = some q → q < w4.heap.size from fun q hq => (HI4.out.lt q hq).1)
        clear hb5 hb04 HI4 hm5 hz5
        go_wp2_with fail
        refine (awake4_any _).mono ?_
        rintro e w6 ⟨rfl, hb6⟩
        have hb06 := belowThen hb05 hb6
        have HI6 := Lib.hid (HI5.out.below hb6)
        have HQ := Lib.hid (numB_any w6 w4.heap.size _ (HM5.out.below hb6))
        rw [HSN.out] at HQ
        clear hb6 hb05 HI5 HM5
        go_wp2_with fail
        refine HQ.out.mono ?_
        rintro e w7 ⟨rfl, hm7, hg7⟩
        have hb07 := belowNew hb06 hg7 hgN
        have HI7 := Lib.hid (HI6.out.of_block (fun q hq => hg7.block q (HI6.out.lt q hq).1 (fun e => by injection e with e; have := HGB.out q hq; omega)))
        have HQ2 := Lib.hid (intB_any w7 w4.heap.size _ 0 hm7 (by omega) (by omega))
        rw [HSI.out] at HQ2
        clear hb06 HI6 HQ hg7 hm7
        go_wp2_with fail
        refine HQ2.out.mono ?_
        rintro e w8 ⟨rfl, hm8, hg8⟩
        have hb08 := belowNew hb07 hg8 hgN
        have HI8 := Lib.hid (HI7.out.of_block (fun q hq => hg8.block q (HI7.out.lt q hq).1 (fun e => by injection e with e; have := HGB.out q hq; omega)))
        have HQ3 := Lib.hid (strB_any w8 w4.heap.size _ 60 hm8 (by omega) (by omega))
        rw [HSS.out] at HQ3
        clear hb07 HI7 HQ2 hg8 hm8
        go_wp2_with fail
        refine HQ3.out.mono ?_
        rintro e w9 ⟨rfl, hm9, hg9⟩
        have hb09 := belowNew hb08 hg9 hgN
        have HI9 := Lib.hid (HI8.out.of_block (fun q hq => hg9.block q (HI8.out.lt q hq).1 (fun e => by injection e with e; have := HGB.out q hq; omega)))
        have HQ4 := Lib.hid (HBK.out w9 w4.heap.size hm9)
        clear hb08 HI8 HQ3 hg9 hm9
        go_wp2_with fail
        refine HQ4.out.mono ?_
        rintro e w10 ⟨v10, rfl, hid10, hm10, hg10⟩
        have hb010 := belowNew hb09 hg10 hgN
        have HI10 := Lib.hid (HI9.out.of_block (fun q hq => hg10.block q (HI9.out.lt q hq).1 (fun e => by injection e with e; have := HGB.out q hq; omega)))
        have HS10 := Lib.hid (same_ids w10 0 w.heap.size v10 u11 P1 hid10 HI10.out (by omega))
        have HM10 := Lib.hid hm10
        clear hb09 HI9 HQ4 hg10 hm10 hid10
        go_wp2_with fail
        refine HS10.out.mono ?_
        rintro e w11 ⟨rfl, m11, rfl⟩
        have HLF := Lib.hid (left_any (w10.drewN m11) w4.heap.size _ HM10.out)
        have HER := Lib.hid (err_any (w10.drewN m11) w4.heap.size _ HM10.out)
        clear HS10 HI10
        go_wp2_with fail
        refine HLF.out.mono ?_
        rintro e w12 ⟨rfl, rfl⟩
        clear HLF
        go_wp2_with fail
        refine HER.out.mono ?_
        rintro e w12 ⟨rfl, rfl⟩
        clear HER
        go_wp2_with fail
        go_ret
        exact ⟨rfl, below_drewN hb010 m11⟩
end Go.Proofs.Ytclggeicpdkkdaa

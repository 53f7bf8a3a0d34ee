/-
  Package merkle: Make, Parse.
-/
import Derived.Test.YtjdhcanblpifcaaDoorMer3
namespace Go.Proofs.YtjdhcanblpifcaaDoor
open Go.RowKit Crv

set_option maxRecDepth 100000 in
set_option maxHeartbeats 1000000 in
theorem make_any (k : Nat) (hk : k < 256) (t : List UInt8) (ht : t.length ≤ 1000000) (w : World) (hc : Consts w) :
    Calls Tryd.prog 43 #[.int .i64 (k : Int), .string (str t)] w fun e w' => e = .returned (.agg (obC k (oidOf k t) t).toArray) ∧ Below w.heap.size w w' := by
  obtain ⟨W0, hW0⟩ : ∃ W, W = w.alloc (.cells (Value.int .i64 0 :: (List.replicate 32 (byteV 0) ++ [Value.string ⟨#[]⟩])).toArray Tob) := ⟨_, rfl⟩
  have HM0 := Lib.hid (show Mem W0 w.heap.size Tob (Value.int .i64 0 :: (List.replicate 32 (byteV 0) ++ [Value.string ⟨#[]⟩])) by rw [hW0]; exact Mem.new w _ _)
  have HB0 := Lib.hid (show Below w.heap.size w W0 by rw [hW0]; exact belowSelf w _)
  have hs0 : W0.heap.size = w.heap.size + 1 := by rw [hW0]; simp
  have HSS := Lib.hid (StrSlice.new (w := W0) (t := 9) [t] 1)
  have HOF := Lib.hid (ofOid_any k hk _ [t] _ ((hc.below HB0.out).below (belowSelf W0 _)) HSS.out (by simp) (by simpa using ht))
  rw [show [t].flatten = t from by simp, hs0] at HOF
  have h32 := length_oidOf k t
  obtain ⟨x, hx⟩ : ∃ x, x = oidOf k t := ⟨_, rfl⟩
  have HOX := Lib.hid hx
  rw [show sha ([99, 114, 118] ++ headOf k t.length ++ t) = x from by rw [hx]; rfl] at HOF
  rw [← hx] at h32 ⊢
  have HBO := Lib.hid (fun W => run_build_ob k x t h32 W)
  have SZ := Lib.hid (sz_ob k x t h32)
  have ONE := Lib.hid (one_obC k x t)
  have HLN := Lib.hid (show (Value.int .i64 0 :: (List.replicate 32 (byteV 0) ++ [Value.string ⟨#[]⟩])).length = (obC k x t).length by rw [length_obC k x t h32]; rfl)
  have HWW := Lib.hid hW0
  clear hx hc hW0 h32 HSS
  go_enter Tryd.func43, Tryd.ntmps43
  go_wp2_with fail
  rw [show w.alloc (.cells #[Value.int .i64 0, Value.int .u8 0, Value.int .u8 0, Value.int .u8 0, Value.int .u8 0, Value.int .u8 0, Value.int .u8 0, Value.int .u8 0, Value.int .u8 0, Value.int .u8 0, Value.int .u8 0, Value.int .u8 0, Value.int .u8 0, Value.int .u8 0, Value.int .u8 0, Value.int .u8 0, Value.int .u8 0, Value.int .u8 0, Value.int .u8 0, Value.int .u8 0, Value.int .u8 0, Value.int .u8 0, Value.int .u8 0, Value.int .u8 0, Value.int .u8 0, Value.int .u8 0, Value.int .u8 0, Value.int .u8 0, Value.int .u8 0, Value.int .u8 0, Value.int .u8 0, Value.int .u8 0, Value.int .u8 0, Value.string ⟨#[]⟩] Tob) = W0 from HWW.out.symm]
  refine HOF.out.mono ?_
  rintro e w1 ⟨rfl, hb1⟩
  have HB1 := Lib.hid (belowThen (belowSelf W0 _) hb1)
  have HM1 := Lib.hid (HM0.out.below HB1.out HM0.out.lt)
  clear HOF hb1 HM0 HWW
  go_wp2_with (first
    | (refine wp_build3 (HBO.out _) rfl rfl rfl rfl rfl ?_)
    | (refine wp_store_mem HM1.out (obC k x t) Tob (.tmp 4) (.tmp 11) rfl rfl rfl rfl SZ.out HLN.out ONE.out ?_)
    | fail)
  exact bodyPost_ret (results_mem (HM1.out.setRow _) rfl _ _ rfl Tryd.underlying55 rfl SZ.out) rfl ⟨rfl, below_row (belowThen HB0.out HB1.out) (Nat.le_refl _) _⟩

theorem parseN_eq {l : List UInt8} {s1 s2 : BSt} {lv cnt : Nat} (e1 : intS (l, 0) 8 = (s1, lv)) (e2 : intS s1 8 = (s2, cnt)) :
    parseN l = if (closeS (ptsS s2 cnt).1).2 ≠ 0 then (0, [], (closeS (ptsS s2 cnt).1).2) else if chkN lv (ptsS s2 cnt).2 ≠ 0 then (0, [], chkN lv (ptsS s2 cnt).2) else ((lv : Int), (ptsS s2 cnt).2, 0) := by
  unfold parseN
  rw [e1]
  simp only
  rw [e2]
abbrev Tnd : TypeId := 25
theorem heap_set_ne {w : World} {p : Addr} {u : Value} {g : Nat} (h : g ≠ p.block) : (w.setCell p u).heap[g]? = w.heap[g]? := by
  unfold World.setCell
  simp [Array.getElem?_modify, Ne.symm h]
theorem Rw.shape {w : World} {base : Nat} {e : TypeId} {m : Nat} {v : Value} {xs : List (List Value)} (h : Rw w base e m v xs) : ∃ a n c, v = .slice a n c := by
  rcases h.2.2 with ⟨h0, _⟩ | ⟨g, cap, cur, h0, _⟩
  · exact ⟨_, _, _, h0⟩
  · exact ⟨_, _, _, h0⟩
/-- The memory of Parse's loop. -/
def PW (w0 : World) (nb : Nat) (lv : Int) (s : BSt) (k : Nat) (v : Value) (w : World) : Prop :=
  Mem w nb Tnd [.int .i64 lv, v] ∧ Rw w (nb + 1) Tpt 33 v ((ptsS s k).2.map ptC) ∧ BM w (w0.heap.size + 1) (ptsS s k).1 ∧ Mem w w0.heap.size Tnd [.int .i64 0, .slice none 0 0] ∧ Below w0.heap.size w0 w ∧ w0.heap.size + 1 < nb
set_option maxRecDepth 100000 in
set_option maxHeartbeats 4000000 in
theorem parse_any (l : List UInt8) (w : World) :
    Calls Tryd.prog 9 #[.string (str l)] w fun e w' => ∃ v, e = .returned (.tuple #[.agg #[.int .i64 (parseN l).1, v], .int .i64 (parseN l).2.2]) ∧ Pts w' v (parseN l).2.1 ∧ Below w.heap.size w w' := by
  obtain ⟨ip, hip, hiz, hisz, hiby⟩ : ∃ i, Tryd.prog.info? Tpt = some i ∧ i.zero = some (.agg (List.replicate 32 (byteV 0) ++ [Value.int .i64 0]).toArray) ∧ i.size = 33 ∧ i.bytes = 40 := info_of (by kernel_rfl)
  have HIP := Lib.hid hip
  have HIZ := Lib.hid hiz
  have HISZ := Lib.hid hisz
  have HIBY := Lib.hid hiby
  clear hip hiz hisz hiby
  have hI1 : (intS (l, 0) 8).2 ≤ 8 := Nat.le_trans (intS_le (l, 0) 8) (by decide)
  obtain ⟨s1, lv, e1⟩ : ∃ s n, intS (l, 0) 8 = (s, n) := ⟨_, _, rfl⟩
  rw [e1] at hI1
  simp only at hI1
  have hI2 : (intS s1 8).2 ≤ 8 := Nat.le_trans (intS_le s1 8) (by decide)
  obtain ⟨s2, cnt, e2⟩ : ∃ s n, intS s1 8 = (s, n) := ⟨_, _, rfl⟩
  rw [e2] at hI2
  simp only at hI2
  have HPD := Lib.hid (parseN_eq e1 e2)
  have HE1 := Lib.hid e1
  have HE2 := Lib.hid e2
  have HOP := Lib.hid (open_any l (w.alloc (.cells #[.int .i64 0, .slice none 0 0] Tnd)))
  have hW0s : (w.alloc (.cells #[Value.int .i64 0, .slice none 0 0] Tnd)).heap.size = w.heap.size + 1 := by simp
  rw [hW0s] at HOP
  clear e1 e2
  go_enter Tryd.func9, Tryd.ntmps9
  go_wp2_with fail
  refine HOP.out.mono ?_
  rintro e w1 ⟨rfl, hbm1, hb1, hs1⟩
  have HM1 := Lib.hid (show Mem w1 w.heap.size Tnd [.int .i64 0, .slice none 0 0] from (Mem.new w Tnd [.int .i64 0, .slice none 0 0]).below hb1 (by simp))
  have HB1 := Lib.hid (show Below w.heap.size w w1 from (belowSelf w _).trans (hb1.mono (by simp)))
  have HI := Lib.hid (intB_any w1 (w.heap.size + 1) (l, 0) 8 hbm1 (by omega) (by omega))
  rw [HE1.out] at HI
  have hs1' : w.heap.size + 1 < w1.heap.size := by omega
  clear HOP hbm1 hb1 hs1 hW0s
  go_wp2_with fail
  refine HI.out.mono ?_
  rintro e w2 ⟨rfl, hbm2, hg2⟩
  have hs2 : w.heap.size + 1 < w2.heap.size := by have := hg2.size; omega
  have HM2 := Lib.hid (HM1.out.grown hg2 (fun e => by injection e with e; omega))
  have HB2 := Lib.hid (belowNew HB1.out hg2 (by omega))
  obtain ⟨nb, hnb⟩ : ∃ n, n = w2.heap.size := ⟨_, rfl⟩
  obtain ⟨W3, hW3⟩ : ∃ W, W = w2.alloc (.cells #[.int .i64 (lv : Int), .slice none 0 0] Tnd) := ⟨_, rfl⟩
  have HN3 := Lib.hid (show Mem W3 nb Tnd [.int .i64 (lv : Int), .slice none 0 0] by rw [hW3, hnb]; exact Mem.new w2 _ _)
  have HM3 := Lib.hid (show Mem W3 w.heap.size Tnd [.int .i64 0, .slice none 0 0] by rw [hW3]; exact HM2.out.alloc _)
  have hbm3 : BM W3 (w.heap.size + 1) s1 := by rw [hW3]; exact BM.below hbm2 (belowSelf w2 _)
  have HB3 := Lib.hid (show Below w.heap.size w W3 by rw [hW3]; exact belowThen HB2.out (belowSelf w2 _))
  have HI3 := Lib.hid (intB_any W3 (w.heap.size + 1) s1 8 hbm3 (by omega) (by omega))
  rw [HE2.out] at HI3
  have HWW3 := Lib.hid hW3
  have hs3 : nb + 1 = W3.heap.size := by rw [hW3, hnb]; simp
  have HNB := Lib.hid hnb
  rw [← hnb] at hs2
  clear HI hbm2 hg2 HM1 HB1 hs1' HM2 HB2 hW3 hbm3
  go_wp2_with fail
  rw [← HWW3.out, ← hnb]
  clear hnb
  refine HI3.out.mono ?_
  rintro e w4 ⟨rfl, hbm4, hg4⟩
  have HPW := Lib.hid (show PW w nb lv s2 0 (.slice none 0 0) w4 from ⟨HN3.out.grown hg4 (fun e => by injection e with e; omega), Rw.nil _ _ _ _, hbm4, HM3.out.grown hg4 (fun e => by injection e with e; omega), belowNew HB3.out hg4 (by omega), hs2⟩)
  have hsz4 : nb + 1 ≤ w4.heap.size := by rw [hs3]; exact hg4.size
  clear HI3 hbm4 hg4 HN3 HM3 HB3 HWW3 HNB hs3 HE1 HE2
  go_wp2_with fail
  go_loopw [16] (fun i wr => ∃ k : Nat, k ≤ cnt ∧ i = .int .i64 k ∧ nb + 1 ≤ wr.heap.size ∧ ∃ v, Hid (PW w nb lv s2 k v wr)) (fun i _ => cnt - (intOf i).toNat)
  case atStart => exact ⟨0, by omega, rfl, hsz4, _, HPW⟩
  case round =>
    clear HPW hsz4
    obtain ⟨k, hk, rfl, hszr, v, HP⟩ := hrel
    by_cases hlt : k < cnt
    · obtain ⟨q1, q2, q3, q4, q5, q6⟩ := HP.out
      have HID := Lib.hid (idB_any wr (w.heap.size + 1) _ q3 (Mem.lt q3))
      have HNX := Lib.hid (show ptsS s2 (k + 1) = ((part1 (ptsS s2 k).1).1, (ptsS s2 k).2 ++ [(part1 (ptsS s2 k).1).2]) from rfl)
      obtain ⟨t, ht⟩ : ∃ t, t = (ptsS s2 k).1 := ⟨_, rfl⟩
      obtain ⟨t1, d, ed⟩ : ∃ t1 d, bytesS t 32 = (t1, d) := ⟨_, _, rfl⟩
      have HBT := Lib.hid (intS_le t1 32768)
      obtain ⟨t2, n, en⟩ : ∃ t2 n, intS t1 32768 = (t2, n) := ⟨_, _, rfl⟩
      have HP1 := Lib.hid (show part1 t = (t2, (nameOf d, (n : Int))) by unfold part1; rw [ed]; simp only; rw [en])
      rw [← ht, ed] at HID
      rw [← ht, HP1.out] at HNX
      have hxl := length_nameOf d
      obtain ⟨x, hx⟩ : ∃ x, x = nameOf d := ⟨_, rfl⟩
      simp only at HID HNX
      rw [← hx] at HID HNX hxl
      have SZI := Lib.hid (sz_id x hxl)
      have HZ := Lib.hid (show (List.replicate 32 (byteV 0)).length = (x.map byteV).length by rw [List.length_map, hxl]; rfl)
      have ONE := Lib.hid (oneBytes x)
      have HX32 := Lib.hid hxl
      have HEN := Lib.hid en
      have hdk : decide (k < cnt) = true := by simpa using hlt
      clear q1 q2 q3 q4 q5 ht ed hx hxl HP1 en
      go_wp2_with fail
      refine HID.out.mono ?_
      rintro e w5 ⟨rfl, hbm5, hg5⟩
      have HP5 := Lib.hid (show Mem w5 nb Tnd [.int .i64 lv, v] ∧ Rw w5 (nb + 1) Tpt 33 v ((ptsS s2 k).2.map ptC) ∧ BM w5 (w.heap.size + 1) t1 ∧ Mem w5 w.heap.size Tnd [.int .i64 0, .slice none 0 0] ∧ Below w.heap.size w w5 from
        ⟨HP.out.1.grown hg5 (fun e => by injection e with e; omega), HP.out.2.1.of_block (fun g hg => hg5.block g (HP.out.2.1.lt g hg).1 (fun e => by injection e with e; have := (HP.out.2.1.lt g hg).2; omega)), hbm5, HP.out.2.2.2.1.grown hg5 (fun e => by injection e with e; omega), belowNew HP.out.2.2.2.2.1 hg5 (by omega)⟩)
      have hs5 : nb + 1 ≤ w5.heap.size := Nat.le_trans hszr hg5.size
      clear HID hbm5 hg5 HP
      go_wp2_with (first
        | (refine wp_store_gen (B := w5.heap.size) (w0 := w5) (belowSelf w5 _) (Nat.le_refl _) (Mem.newAt w5 TI (List.replicate 32 (byteV 0)) rfl) (x.map byteV) TI (.tmp 6) (.tmp 19) rfl rfl rfl rfl SZI.out HZ.out ONE.out ?_
           intro W6 hm6 hb6 hz6 hk6
           have HM6 := Lib.hid hm6
           have HP6 := Lib.hid (show Mem W6 nb Tnd [.int .i64 lv, v] ∧ Rw W6 (nb + 1) Tpt 33 v ((ptsS s2 k).2.map ptC) ∧ BM W6 (w.heap.size + 1) t1 ∧ Mem W6 w.heap.size Tnd [.int .i64 0, .slice none 0 0] ∧ Below w.heap.size w W6 from ⟨HP5.out.1.below hb6 HP5.out.1.lt, HP5.out.2.1.below hb6, BM.below HP5.out.2.2.1 hb6, HP5.out.2.2.2.1.below hb6 HP5.out.2.2.2.1.lt, belowThen HP5.out.2.2.2.2 hb6⟩)
           have hs6 : w5.heap.size + 1 = W6.heap.size := by rw [hz6]; simp
           clear hm6 hb6 hz6 hk6)
        | fail)
      have HPD6 := Lib.hid (show Mem W6.drew nb Tnd [.int .i64 lv, v] ∧ Rw W6.drew (nb + 1) Tpt 33 v ((ptsS s2 k).2.map ptC) ∧ BM W6.drew (w.heap.size + 1) t1 ∧ Mem W6.drew w.heap.size Tnd [.int .i64 0, .slice none 0 0] ∧ Below w.heap.size w W6.drew ∧ Mem W6.drew w5.heap.size TI (x.map byteV) from ⟨HP6.out.1, HP6.out.2.1, HP6.out.2.2.1, HP6.out.2.2.2.1, below_drewN HP6.out.2.2.2.2 1, HM6.out⟩)
      have HI7 := Lib.hid (intB_any W6.drew (w.heap.size + 1) t1 32768 HPD6.out.2.2.1 (by omega) (by omega))
      rw [HEN.out] at HI7
      have HBP := Lib.hid (fun W => run_build_pt x (n : Int) HX32.out W)
      have HBS := Lib.hid (fun W => run_bslice_pt (x, (n : Int)) HX32.out W)
      have HN33 := Lib.hid (length_ptC (x, (n : Int)) HX32.out)
      have HONE := Lib.hid (one_ptC (x, (n : Int)))
      have HLK := Lib.hid (show ((ptsS s2 k).2.map ptC).length ≤ 900000000 by rw [List.length_map, length_ptsS]; omega)
      have HMAP := Lib.hid (show (ptsS s2 (k + 1)).2.map ptC = (ptsS s2 k).2.map ptC ++ [ptC (x, (n : Int))] by rw [HNX.out]; simp)
      have HS1 := Lib.hid (show (ptsS s2 (k + 1)).1 = t2 by rw [HNX.out])
      have hsz6 : W6.drew.heap.size = w5.heap.size + 1 := hs6.symm
      have c6 : W6.drew.cell? ⟨nb, 1, none⟩ = some v := HPD6.out.1.cell 1
      clear HP6 HM6 HP5 HNX hs6
      refine wp_region_held_drew (S := fun W => Mem W w5.heap.size TI (x.map byteV)) (by kernel_rfl) HPD6.out.2.2.2.2.2 (fun hHeld => ?_)
      refine wpAnyH_take (i := 0) (oi := { dst := some 20, op := Op.fieldAddr Tnd (Operand.tmp 5) 1, type := 0, pos := "merkle.go:98", after := #[], guard := none }) (v := .pointer (some ⟨nb, 1, none⟩)) rfl (by kernel_rfl) (by kernel_rfl) (by kernel_rfl) (fun _ _ _ h => h) (Or.inl ⟨by rfl, ?_⟩) hHeld ?_
      · intro w' hSw
        go_simp
      simp only [Act.put, List.setIfInBounds_toArray, List.set_cons_zero, List.set_cons_succ]
      refine wpAnyH_take (i := 2) (oi := { dst := some 22, op := Op.load TI (Operand.tmp 6), type := TI, pos := "merkle.go:98", after := #[], guard := none }) (v := _) rfl (by kernel_rfl) (by kernel_rfl) (by kernel_rfl) (fun _ _ _ h => h) (yieldsIf_load_mid (by rfl) TI (.tmp 6) rfl w5.heap.size 0 rfl (x.map byteV) (.array 32 5) (fun w hS => hS.range 0 _ ⟨[], by simp⟩) Tryd.underlying41 rfl SZI.out) hHeld ?_
      simp only [Act.put, List.setIfInBounds_toArray, List.set_cons_zero, List.set_cons_succ]
      refine wpAnyH_take (i := 3) (oi := { dst := some 23, op := Op.move (Operand.tmp 4), type := 79, pos := "merkle.go:98", after := #[], guard := none }) (v := .pointer (some ⟨w.heap.size + 1, 0, none⟩)) rfl (by kernel_rfl) (by kernel_rfl) (by kernel_rfl) (fun _ _ _ h => h) (Or.inl ⟨by rfl, ?_⟩) hHeld ?_
      · intro w' hSw
        go_simp
      simp only [Act.put, List.setIfInBounds_toArray, List.set_cons_zero, List.set_cons_succ]
      refine wpAnyH_ready (rs := [1, 4]) (by kernel_rfl) (by simp) (AllReadyH.cons rfl (fun K hK => ?_) (AllReadyH.cons rfl (fun K hK => ?_) AllReadyH.nil))
      · go_simp
        refine hK.out _ _ hHeld (fun hH1 => ?_)
        clear hK K
        refine wpAnyH_ready (rs := [4]) (by kernel_rfl) (by simp) (AllReadyH.cons rfl (fun K hK => ?_) AllReadyH.nil)
        go_simp
        refine HI7.out.mono ?_
        rintro e w7 ⟨rfl, hbm7, hg7⟩
        dsimp only
        have HP7 := Lib.hid (show Mem w7 nb Tnd [.int .i64 lv, v] ∧ Rw w7 (nb + 1) Tpt 33 v ((ptsS s2 k).2.map ptC) ∧ BM w7 (w.heap.size + 1) t2 ∧ Mem w7 w.heap.size Tnd [.int .i64 0, .slice none 0 0] ∧ Below w.heap.size w w7 ∧ Mem w7 w5.heap.size TI (x.map byteV) from
          ⟨HPD6.out.1.grown hg7 (fun e => by injection e with e; omega), HPD6.out.2.1.of_block (fun g hg => hg7.block g (HPD6.out.2.1.lt g hg).1 (fun e => by injection e with e; have := (HPD6.out.2.1.lt g hg).2; omega)), hbm7, HPD6.out.2.2.2.1.grown hg7 (fun e => by injection e with e; omega), belowNew HPD6.out.2.2.2.2.1 hg7 (by omega), HPD6.out.2.2.2.2.2.grown hg7 (fun e => by injection e with e; omega)⟩)
        have hs7 : w5.heap.size + 1 ≤ w7.heap.size := by rw [← hsz6]; exact hg7.size
        have c7 : w7.cell? ⟨nb, 1, none⟩ = some v := HP7.out.1.cell 1
        refine hK.out _ _ HP7.out.2.2.2.2.2 (fun hH4 => ?_)
        clear hK K hbm7 hg7
        refine wpAnyH_ready (rs := [5]) (by kernel_rfl) (by simp) (AllReadyH.cons rfl (fun K hK => ?_) AllReadyH.nil)
        refine step_build2 (HBP.out _) rfl rfl rfl rfl ?_
        refine hK.out _ _ hH4 (fun hH5 => ?_)
        clear hK K
        refine wpAnyH_ready (rs := [6]) (by kernel_rfl) (by simp) (AllReadyH.cons rfl (fun K hK => ?_) AllReadyH.nil)
        refine step_bslice1 (HBS.out _) rfl rfl rfl ?_
        have HP8 := Lib.hid (show Mem (w7.alloc (.cells (ptC (x, (n : Int))).toArray Tpt)) nb Tnd [.int .i64 lv, v] ∧ Rw (w7.alloc (.cells (ptC (x, (n : Int))).toArray Tpt)) (nb + 1) Tpt 33 v ((ptsS s2 k).2.map ptC) ∧ BM (w7.alloc (.cells (ptC (x, (n : Int))).toArray Tpt)) (w.heap.size + 1) t2 ∧ Mem (w7.alloc (.cells (ptC (x, (n : Int))).toArray Tpt)) w.heap.size Tnd [.int .i64 0, .slice none 0 0] ∧ Below w.heap.size w (w7.alloc (.cells (ptC (x, (n : Int))).toArray Tpt)) ∧ Mem (w7.alloc (.cells (ptC (x, (n : Int))).toArray Tpt)) w5.heap.size TI (x.map byteV) ∧ Mem (w7.alloc (.cells (ptC (x, (n : Int))).toArray Tpt)) w7.heap.size Tpt (ptC (x, (n : Int))) from
          ⟨HP7.out.1.alloc _, HP7.out.2.1.below (belowSelf _ _), BM.below HP7.out.2.2.1 (belowSelf _ _), HP7.out.2.2.2.1.alloc _, belowThen HP7.out.2.2.2.2.1 (belowSelf _ _), HP7.out.2.2.2.2.2.alloc _, Mem.new w7 _ _⟩)
        have c8 : (w7.alloc (.cells (ptC (x, (n : Int))).toArray Tpt)).cell? ⟨nb, 1, none⟩ = some v := HP8.out.1.cell 1
        refine hK.out _ _ HP8.out.2.2.2.2.2.1 (fun hH6 => ?_)
        clear hK K
        refine wpAnyH_ready (rs := [7]) (by kernel_rfl) (by simp) (AllReadyH.cons rfl (fun K hK => ?_) AllReadyH.nil)
        refine step_append_row HP8.out.2.1 (ptC (x, (n : Int))) (by decide) HN33.out HONE.out (.tmp 21) (.tmp 26) 23 ip _ 40 rfl rfl Tryd.underlying23 HIP.out HIZ.out HISZ.out HIBY.out rfl (by decide) rfl rfl (fun j u hu => (HP8.out.2.2.2.2.2.2.cell j).trans hu) HLK.out (by simp; omega) ?_
        intro v9 w9 hr9 hg9 hat9
        obtain ⟨a9, m9, p9, rfl⟩ := hr9.shape
        rw [← HMAP.out] at hr9
        have hlt8 := HP8.out.2.1.lt
        have hni : ∀ b, b < nb + 1 ∨ b = w5.heap.size → v.ownBlock ≠ some b := fun b hb e => by
          have h1 := (hlt8 b e).2
          rcases hb with hb | hb
          · omega
          · subst hb
            have h2 := (HPD6.out.2.1.tag w5.heap.size e)
            obtain ⟨cs, h2⟩ := h2
            have h3 := HPD6.out.2.2.2.2.2
            rw [show W6.drew.heap[w5.heap.size]? = some (Obj.cells (x.map byteV).toArray TI (0, 0)) from h3] at h2
            injection h2 with h2
            injection h2 with _ h2
            exact absurd h2 (by decide)
        have HP9 := Lib.hid (show Mem w9 nb Tnd [.int .i64 lv, v] ∧ BM w9 (w.heap.size + 1) t2 ∧ Mem w9 w.heap.size Tnd [.int .i64 0, .slice none 0 0] ∧ Below w.heap.size w w9 ∧ Mem w9 w5.heap.size TI (x.map byteV) from
          ⟨HP8.out.1.grown hg9 (fun e => hni nb (.inl (by omega)) e.symm), Mem.grown HP8.out.2.2.1 hg9 (fun e => hni _ (.inl (by omega)) e.symm), HP8.out.2.2.2.1.grown hg9 (fun e => hni _ (.inl (by omega)) e.symm), ⟨hg9.os.trans HP8.out.2.2.2.2.1.os, hg9.tape.trans HP8.out.2.2.2.2.1.tape, hg9.output.trans HP8.out.2.2.2.2.1.output, Nat.le_trans HP8.out.2.2.2.2.1.size hg9.size, fun b hb => (hg9.block b (Nat.lt_of_lt_of_le hb HP8.out.2.2.2.2.1.size) (fun e => hni b (.inl (by omega)) e.symm)).trans (HP8.out.2.2.2.2.1.block b hb)⟩, HP8.out.2.2.2.2.2.1.grown hg9 (fun e => hni _ (.inr rfl) e.symm)⟩)
        have c9 : w9.cell? ⟨nb, 1, none⟩ = some v := HP9.out.1.cell 1
        have f9 : w9.frozen? ⟨nb, 1, none⟩ = false := HP9.out.1.frozen 1
        have HR9 := Lib.hid hr9
        have hs9 : nb + 1 ≤ w9.heap.size := by have := hg9.size; simp at this; omega
        refine hK.out _ _ HP9.out.2.2.2.2 (fun hH7 => ?_)
        clear hK K hr9 hg9 hat9 hlt8 hni c8 c7
        refine wpAnyH_take (i := 8) (oi := { dst := some 28, op := Op.fieldAddr Tnd (Operand.tmp 5) 1, type := 0, pos := "merkle.go:98", after := #[{ on := 0, ground := Ground.phase }, { on := 1, ground := Ground.phase }, { on := 2, ground := Ground.phase }, { on := 3, ground := Ground.phase }, { on := 4, ground := Ground.phase }, { on := 5, ground := Ground.phase }, { on := 6, ground := Ground.phase }, { on := 7, ground := Ground.phase }], guard := none }) (v := .pointer (some ⟨nb, 1, none⟩)) rfl (by kernel_rfl) (by kernel_rfl) (by kernel_rfl) (fun _ _ _ h => h) (Or.inl ⟨by rfl, ?_⟩) hH7 ?_
        · intro w' hSw
          go_simp
        simp only [Act.put, List.setIfInBounds_toArray]
        refine wpAnyH_ready (rs := [9]) (by kernel_rfl) (by simp) (AllReadyH.cons rfl (fun K hK => ?_) AllReadyH.nil)
        go_simp
        refine hK.out _ _ (HP9.out.2.2.2.2.other (p := ⟨nb, 1, none⟩) (by simp; omega) _) (fun hH9 => ?_)
        clear hK K hH9
        refine wpAnyH_done (by kernel_rfl) ?_ _
        have HFIN := Lib.hid (show PW w nb lv s2 (k + 1) (.slice a9 m9 p9) (w9.setCell ⟨nb, 1, none⟩ (.slice a9 m9 p9)) from ⟨HP9.out.1.set 1 (.slice a9 m9 p9), HR9.out.of_block (fun g hg => heap_set_ne (by have := (HR9.out.lt g hg).2; simp; omega)), by rw [HS1.out]; exact Mem.other HP9.out.2.1 (by simp; omega) _, HP9.out.2.2.1.other (by simp; omega) _, HP9.out.2.2.2.1.setCell (by simp; omega) _, q6⟩)
        have hs10 : nb + 1 ≤ (w9.setCell ⟨nb, 1, none⟩ (.slice a9 m9 p9)).heap.size := by simpa using hs9
        clear HP9 HR9 c9 f9
        rename_i Kz hKz
        refine hKz _ _ ?_
        go_wp2_with fail
        go_roundw
        case rel => exact ⟨k + 1, by omega, by go_num, hs10, _, HFIN⟩
        case measure => simp [intOf]; omega
      · go_simp
        refine HI7.out.mono ?_
        rintro e w7 ⟨rfl, hbm7, hg7⟩
        dsimp only
        have HP7 := Lib.hid (show Mem w7 nb Tnd [.int .i64 lv, v] ∧ Rw w7 (nb + 1) Tpt 33 v ((ptsS s2 k).2.map ptC) ∧ BM w7 (w.heap.size + 1) t2 ∧ Mem w7 w.heap.size Tnd [.int .i64 0, .slice none 0 0] ∧ Below w.heap.size w w7 ∧ Mem w7 w5.heap.size TI (x.map byteV) from
          ⟨HPD6.out.1.grown hg7 (fun e => by injection e with e; omega), HPD6.out.2.1.of_block (fun g hg => hg7.block g (HPD6.out.2.1.lt g hg).1 (fun e => by injection e with e; have := (HPD6.out.2.1.lt g hg).2; omega)), hbm7, HPD6.out.2.2.2.1.grown hg7 (fun e => by injection e with e; omega), belowNew HPD6.out.2.2.2.2.1 hg7 (by omega), HPD6.out.2.2.2.2.2.grown hg7 (fun e => by injection e with e; omega)⟩)
        have hs7 : w5.heap.size + 1 ≤ w7.heap.size := by rw [← hsz6]; exact hg7.size
        have c7 : w7.cell? ⟨nb, 1, none⟩ = some v := HP7.out.1.cell 1
        refine hK.out _ _ HP7.out.2.2.2.2.2 (fun hH4 => ?_)
        clear hK K hbm7 hg7
        refine wpAnyH_ready (rs := [1, 5]) (by kernel_rfl) (by simp) (AllReadyH.cons rfl (fun K hK => ?_) (AllReadyH.cons rfl (fun K hK => ?_) AllReadyH.nil))
        · go_simp
          refine hK.out _ _ hH4 (fun hH1 => ?_)
          clear hK K
          refine wpAnyH_ready (rs := [5]) (by kernel_rfl) (by simp) (AllReadyH.cons rfl (fun K hK => ?_) AllReadyH.nil)
          refine step_build2 (HBP.out _) rfl rfl rfl rfl ?_
          refine hK.out _ _ hH4 (fun hH5 => ?_)
          clear hK K
          refine wpAnyH_ready (rs := [6]) (by kernel_rfl) (by simp) (AllReadyH.cons rfl (fun K hK => ?_) AllReadyH.nil)
          refine step_bslice1 (HBS.out _) rfl rfl rfl ?_
          have HP8 := Lib.hid (show Mem (w7.alloc (.cells (ptC (x, (n : Int))).toArray Tpt)) nb Tnd [.int .i64 lv, v] ∧ Rw (w7.alloc (.cells (ptC (x, (n : Int))).toArray Tpt)) (nb + 1) Tpt 33 v ((ptsS s2 k).2.map ptC) ∧ BM (w7.alloc (.cells (ptC (x, (n : Int))).toArray Tpt)) (w.heap.size + 1) t2 ∧ Mem (w7.alloc (.cells (ptC (x, (n : Int))).toArray Tpt)) w.heap.size Tnd [.int .i64 0, .slice none 0 0] ∧ Below w.heap.size w (w7.alloc (.cells (ptC (x, (n : Int))).toArray Tpt)) ∧ Mem (w7.alloc (.cells (ptC (x, (n : Int))).toArray Tpt)) w5.heap.size TI (x.map byteV) ∧ Mem (w7.alloc (.cells (ptC (x, (n : Int))).toArray Tpt)) w7.heap.size Tpt (ptC (x, (n : Int))) from
            ⟨HP7.out.1.alloc _, HP7.out.2.1.below (belowSelf _ _), BM.below HP7.out.2.2.1 (belowSelf _ _), HP7.out.2.2.2.1.alloc _, belowThen HP7.out.2.2.2.2.1 (belowSelf _ _), HP7.out.2.2.2.2.2.alloc _, Mem.new w7 _ _⟩)
          have c8 : (w7.alloc (.cells (ptC (x, (n : Int))).toArray Tpt)).cell? ⟨nb, 1, none⟩ = some v := HP8.out.1.cell 1
          refine hK.out _ _ HP8.out.2.2.2.2.2.1 (fun hH6 => ?_)
          clear hK K
          refine wpAnyH_ready (rs := [7]) (by kernel_rfl) (by simp) (AllReadyH.cons rfl (fun K hK => ?_) AllReadyH.nil)
          refine step_append_row HP8.out.2.1 (ptC (x, (n : Int))) (by decide) HN33.out HONE.out (.tmp 21) (.tmp 26) 23 ip _ 40 rfl rfl Tryd.underlying23 HIP.out HIZ.out HISZ.out HIBY.out rfl (by decide) rfl rfl (fun j u hu => (HP8.out.2.2.2.2.2.2.cell j).trans hu) HLK.out (by simp; omega) ?_
          intro v9 w9 hr9 hg9 hat9
          obtain ⟨a9, m9, p9, rfl⟩ := hr9.shape
          rw [← HMAP.out] at hr9
          have hlt8 := HP8.out.2.1.lt
          have hni : ∀ b, b < nb + 1 ∨ b = w5.heap.size → v.ownBlock ≠ some b := fun b hb e => by
            have h1 := (hlt8 b e).2
            rcases hb with hb | hb
            · omega
            · subst hb
              have h2 := (HPD6.out.2.1.tag w5.heap.size e)
              obtain ⟨cs, h2⟩ := h2
              have h3 := HPD6.out.2.2.2.2.2
              rw [show W6.drew.heap[w5.heap.size]? = some (Obj.cells (x.map byteV).toArray TI (0, 0)) from h3] at h2
              injection h2 with h2
              injection h2 with _ h2
              exact absurd h2 (by decide)
          have HP9 := Lib.hid (show Mem w9 nb Tnd [.int .i64 lv, v] ∧ BM w9 (w.heap.size + 1) t2 ∧ Mem w9 w.heap.size Tnd [.int .i64 0, .slice none 0 0] ∧ Below w.heap.size w w9 ∧ Mem w9 w5.heap.size TI (x.map byteV) from
            ⟨HP8.out.1.grown hg9 (fun e => hni nb (.inl (by omega)) e.symm), Mem.grown HP8.out.2.2.1 hg9 (fun e => hni _ (.inl (by omega)) e.symm), HP8.out.2.2.2.1.grown hg9 (fun e => hni _ (.inl (by omega)) e.symm), ⟨hg9.os.trans HP8.out.2.2.2.2.1.os, hg9.tape.trans HP8.out.2.2.2.2.1.tape, hg9.output.trans HP8.out.2.2.2.2.1.output, Nat.le_trans HP8.out.2.2.2.2.1.size hg9.size, fun b hb => (hg9.block b (Nat.lt_of_lt_of_le hb HP8.out.2.2.2.2.1.size) (fun e => hni b (.inl (by omega)) e.symm)).trans (HP8.out.2.2.2.2.1.block b hb)⟩, HP8.out.2.2.2.2.2.1.grown hg9 (fun e => hni _ (.inr rfl) e.symm)⟩)
          have c9 : w9.cell? ⟨nb, 1, none⟩ = some v := HP9.out.1.cell 1
          have f9 : w9.frozen? ⟨nb, 1, none⟩ = false := HP9.out.1.frozen 1
          have HR9 := Lib.hid hr9
          have hs9 : nb + 1 ≤ w9.heap.size := by have := hg9.size; simp at this; omega
          refine hK.out _ _ HP9.out.2.2.2.2 (fun hH7 => ?_)
          clear hK K hr9 hg9 hat9 hlt8 hni c8 c7
          refine wpAnyH_take (i := 8) (oi := { dst := some 28, op := Op.fieldAddr Tnd (Operand.tmp 5) 1, type := 0, pos := "merkle.go:98", after := #[{ on := 0, ground := Ground.phase }, { on := 1, ground := Ground.phase }, { on := 2, ground := Ground.phase }, { on := 3, ground := Ground.phase }, { on := 4, ground := Ground.phase }, { on := 5, ground := Ground.phase }, { on := 6, ground := Ground.phase }, { on := 7, ground := Ground.phase }], guard := none }) (v := .pointer (some ⟨nb, 1, none⟩)) rfl (by kernel_rfl) (by kernel_rfl) (by kernel_rfl) (fun _ _ _ h => h) (Or.inl ⟨by rfl, ?_⟩) hH7 ?_
          · intro w' hSw
            go_simp
          simp only [Act.put, List.setIfInBounds_toArray]
          refine wpAnyH_ready (rs := [9]) (by kernel_rfl) (by simp) (AllReadyH.cons rfl (fun K hK => ?_) AllReadyH.nil)
          go_simp
          refine hK.out _ _ (HP9.out.2.2.2.2.other (p := ⟨nb, 1, none⟩) (by simp; omega) _) (fun hH9 => ?_)
          clear hK K hH9
          refine wpAnyH_done (by kernel_rfl) ?_ _
          have HFIN := Lib.hid (show PW w nb lv s2 (k + 1) (.slice a9 m9 p9) (w9.setCell ⟨nb, 1, none⟩ (.slice a9 m9 p9)) from ⟨HP9.out.1.set 1 (.slice a9 m9 p9), HR9.out.of_block (fun g hg => heap_set_ne (by have := (HR9.out.lt g hg).2; simp; omega)), by rw [HS1.out]; exact Mem.other HP9.out.2.1 (by simp; omega) _, HP9.out.2.2.1.other (by simp; omega) _, HP9.out.2.2.2.1.setCell (by simp; omega) _, q6⟩)
          have hs10 : nb + 1 ≤ (w9.setCell ⟨nb, 1, none⟩ (.slice a9 m9 p9)).heap.size := by simpa using hs9
          clear HP9 HR9 c9 f9
          rename_i Kz hKz
          refine hKz _ _ ?_
          go_wp2_with fail
          go_roundw
          case rel => exact ⟨k + 1, by omega, by go_num, hs10, _, HFIN⟩
          case measure => simp [intOf]; omega
        · refine step_build2 (HBP.out _) rfl rfl rfl rfl ?_
          refine hK.out _ _ hH4 (fun hH5 => ?_)
          clear hK K
          refine wpAnyH_ready (rs := [1, 6]) (by kernel_rfl) (by simp) (AllReadyH.cons rfl (fun K hK => ?_) (AllReadyH.cons rfl (fun K hK => ?_) AllReadyH.nil))
          · go_simp
            refine hK.out _ _ hH4 (fun hH1 => ?_)
            clear hK K
            refine wpAnyH_ready (rs := [6]) (by kernel_rfl) (by simp) (AllReadyH.cons rfl (fun K hK => ?_) AllReadyH.nil)
            refine step_bslice1 (HBS.out _) rfl rfl rfl ?_
            have HP8 := Lib.hid (show Mem (w7.alloc (.cells (ptC (x, (n : Int))).toArray Tpt)) nb Tnd [.int .i64 lv, v] ∧ Rw (w7.alloc (.cells (ptC (x, (n : Int))).toArray Tpt)) (nb + 1) Tpt 33 v ((ptsS s2 k).2.map ptC) ∧ BM (w7.alloc (.cells (ptC (x, (n : Int))).toArray Tpt)) (w.heap.size + 1) t2 ∧ Mem (w7.alloc (.cells (ptC (x, (n : Int))).toArray Tpt)) w.heap.size Tnd [.int .i64 0, .slice none 0 0] ∧ Below w.heap.size w (w7.alloc (.cells (ptC (x, (n : Int))).toArray Tpt)) ∧ Mem (w7.alloc (.cells (ptC (x, (n : Int))).toArray Tpt)) w5.heap.size TI (x.map byteV) ∧ Mem (w7.alloc (.cells (ptC (x, (n : Int))).toArray Tpt)) w7.heap.size Tpt (ptC (x, (n : Int))) from
              ⟨HP7.out.1.alloc _, HP7.out.2.1.below (belowSelf _ _), BM.below HP7.out.2.2.1 (belowSelf _ _), HP7.out.2.2.2.1.alloc _, belowThen HP7.out.2.2.2.2.1 (belowSelf _ _), HP7.out.2.2.2.2.2.alloc _, Mem.new w7 _ _⟩)
            have c8 : (w7.alloc (.cells (ptC (x, (n : Int))).toArray Tpt)).cell? ⟨nb, 1, none⟩ = some v := HP8.out.1.cell 1
            refine hK.out _ _ HP8.out.2.2.2.2.2.1 (fun hH6 => ?_)
            clear hK K
            refine wpAnyH_ready (rs := [7]) (by kernel_rfl) (by simp) (AllReadyH.cons rfl (fun K hK => ?_) AllReadyH.nil)
            refine step_append_row HP8.out.2.1 (ptC (x, (n : Int))) (by decide) HN33.out HONE.out (.tmp 21) (.tmp 26) 23 ip _ 40 rfl rfl Tryd.underlying23 HIP.out HIZ.out HISZ.out HIBY.out rfl (by decide) rfl rfl (fun j u hu => (HP8.out.2.2.2.2.2.2.cell j).trans hu) HLK.out (by simp; omega) ?_
            intro v9 w9 hr9 hg9 hat9
            obtain ⟨a9, m9, p9, rfl⟩ := hr9.shape
            rw [← HMAP.out] at hr9
            have hlt8 := HP8.out.2.1.lt
            have hni : ∀ b, b < nb + 1 ∨ b = w5.heap.size → v.ownBlock ≠ some b := fun b hb e => by
              have h1 := (hlt8 b e).2
              rcases hb with hb | hb
              · omega
              · subst hb
                have h2 := (HPD6.out.2.1.tag w5.heap.size e)
                obtain ⟨cs, h2⟩ := h2
                have h3 := HPD6.out.2.2.2.2.2
                rw [show W6.drew.heap[w5.heap.size]? = some (Obj.cells (x.map byteV).toArray TI (0, 0)) from h3] at h2
                injection h2 with h2
                injection h2 with _ h2
                exact absurd h2 (by decide)
            have HP9 := Lib.hid (show Mem w9 nb Tnd [.int .i64 lv, v] ∧ BM w9 (w.heap.size + 1) t2 ∧ Mem w9 w.heap.size Tnd [.int .i64 0, .slice none 0 0] ∧ Below w.heap.size w w9 ∧ Mem w9 w5.heap.size TI (x.map byteV) from
              ⟨HP8.out.1.grown hg9 (fun e => hni nb (.inl (by omega)) e.symm), Mem.grown HP8.out.2.2.1 hg9 (fun e => hni _ (.inl (by omega)) e.symm), HP8.out.2.2.2.1.grown hg9 (fun e => hni _ (.inl (by omega)) e.symm), ⟨hg9.os.trans HP8.out.2.2.2.2.1.os, hg9.tape.trans HP8.out.2.2.2.2.1.tape, hg9.output.trans HP8.out.2.2.2.2.1.output, Nat.le_trans HP8.out.2.2.2.2.1.size hg9.size, fun b hb => (hg9.block b (Nat.lt_of_lt_of_le hb HP8.out.2.2.2.2.1.size) (fun e => hni b (.inl (by omega)) e.symm)).trans (HP8.out.2.2.2.2.1.block b hb)⟩, HP8.out.2.2.2.2.2.1.grown hg9 (fun e => hni _ (.inr rfl) e.symm)⟩)
            have c9 : w9.cell? ⟨nb, 1, none⟩ = some v := HP9.out.1.cell 1
            have f9 : w9.frozen? ⟨nb, 1, none⟩ = false := HP9.out.1.frozen 1
            have HR9 := Lib.hid hr9
            have hs9 : nb + 1 ≤ w9.heap.size := by have := hg9.size; simp at this; omega
            refine hK.out _ _ HP9.out.2.2.2.2 (fun hH7 => ?_)
            clear hK K hr9 hg9 hat9 hlt8 hni c8 c7
            refine wpAnyH_take (i := 8) (oi := { dst := some 28, op := Op.fieldAddr Tnd (Operand.tmp 5) 1, type := 0, pos := "merkle.go:98", after := #[{ on := 0, ground := Ground.phase }, { on := 1, ground := Ground.phase }, { on := 2, ground := Ground.phase }, { on := 3, ground := Ground.phase }, { on := 4, ground := Ground.phase }, { on := 5, ground := Ground.phase }, { on := 6, ground := Ground.phase }, { on := 7, ground := Ground.phase }], guard := none }) (v := .pointer (some ⟨nb, 1, none⟩)) rfl (by kernel_rfl) (by kernel_rfl) (by kernel_rfl) (fun _ _ _ h => h) (Or.inl ⟨by rfl, ?_⟩) hH7 ?_
            · intro w' hSw
              go_simp
            simp only [Act.put, List.setIfInBounds_toArray]
            refine wpAnyH_ready (rs := [9]) (by kernel_rfl) (by simp) (AllReadyH.cons rfl (fun K hK => ?_) AllReadyH.nil)
            go_simp
            refine hK.out _ _ (HP9.out.2.2.2.2.other (p := ⟨nb, 1, none⟩) (by simp; omega) _) (fun hH9 => ?_)
            clear hK K hH9
            refine wpAnyH_done (by kernel_rfl) ?_ _
            have HFIN := Lib.hid (show PW w nb lv s2 (k + 1) (.slice a9 m9 p9) (w9.setCell ⟨nb, 1, none⟩ (.slice a9 m9 p9)) from ⟨HP9.out.1.set 1 (.slice a9 m9 p9), HR9.out.of_block (fun g hg => heap_set_ne (by have := (HR9.out.lt g hg).2; simp; omega)), by rw [HS1.out]; exact Mem.other HP9.out.2.1 (by simp; omega) _, HP9.out.2.2.1.other (by simp; omega) _, HP9.out.2.2.2.1.setCell (by simp; omega) _, q6⟩)
            have hs10 : nb + 1 ≤ (w9.setCell ⟨nb, 1, none⟩ (.slice a9 m9 p9)).heap.size := by simpa using hs9
            clear HP9 HR9 c9 f9
            rename_i Kz hKz
            refine hKz _ _ ?_
            go_wp2_with fail
            go_roundw
            case rel => exact ⟨k + 1, by omega, by go_num, hs10, _, HFIN⟩
            case measure => simp [intOf]; omega
          · refine step_bslice1 (HBS.out _) rfl rfl rfl ?_
            have HP8 := Lib.hid (show Mem (w7.alloc (.cells (ptC (x, (n : Int))).toArray Tpt)) nb Tnd [.int .i64 lv, v] ∧ Rw (w7.alloc (.cells (ptC (x, (n : Int))).toArray Tpt)) (nb + 1) Tpt 33 v ((ptsS s2 k).2.map ptC) ∧ BM (w7.alloc (.cells (ptC (x, (n : Int))).toArray Tpt)) (w.heap.size + 1) t2 ∧ Mem (w7.alloc (.cells (ptC (x, (n : Int))).toArray Tpt)) w.heap.size Tnd [.int .i64 0, .slice none 0 0] ∧ Below w.heap.size w (w7.alloc (.cells (ptC (x, (n : Int))).toArray Tpt)) ∧ Mem (w7.alloc (.cells (ptC (x, (n : Int))).toArray Tpt)) w5.heap.size TI (x.map byteV) ∧ Mem (w7.alloc (.cells (ptC (x, (n : Int))).toArray Tpt)) w7.heap.size Tpt (ptC (x, (n : Int))) from
              ⟨HP7.out.1.alloc _, HP7.out.2.1.below (belowSelf _ _), BM.below HP7.out.2.2.1 (belowSelf _ _), HP7.out.2.2.2.1.alloc _, belowThen HP7.out.2.2.2.2.1 (belowSelf _ _), HP7.out.2.2.2.2.2.alloc _, Mem.new w7 _ _⟩)
            have c8 : (w7.alloc (.cells (ptC (x, (n : Int))).toArray Tpt)).cell? ⟨nb, 1, none⟩ = some v := HP8.out.1.cell 1
            refine hK.out _ _ HP8.out.2.2.2.2.2.1 (fun hH6 => ?_)
            clear hK K
            refine wpAnyH_ready (rs := [1]) (by kernel_rfl) (by simp) (AllReadyH.cons rfl (fun K hK => ?_) AllReadyH.nil)
            go_simp
            refine hK.out _ _ hH6 (fun hH1 => ?_)
            clear hK K
            refine wpAnyH_ready (rs := [7]) (by kernel_rfl) (by simp) (AllReadyH.cons rfl (fun K hK => ?_) AllReadyH.nil)
            refine step_append_row HP8.out.2.1 (ptC (x, (n : Int))) (by decide) HN33.out HONE.out (.tmp 21) (.tmp 26) 23 ip _ 40 rfl rfl Tryd.underlying23 HIP.out HIZ.out HISZ.out HIBY.out rfl (by decide) rfl rfl (fun j u hu => (HP8.out.2.2.2.2.2.2.cell j).trans hu) HLK.out (by simp; omega) ?_
            intro v9 w9 hr9 hg9 hat9
            obtain ⟨a9, m9, p9, rfl⟩ := hr9.shape
            rw [← HMAP.out] at hr9
            have hlt8 := HP8.out.2.1.lt
            have hni : ∀ b, b < nb + 1 ∨ b = w5.heap.size → v.ownBlock ≠ some b := fun b hb e => by
              have h1 := (hlt8 b e).2
              rcases hb with hb | hb
              · omega
              · subst hb
                have h2 := (HPD6.out.2.1.tag w5.heap.size e)
                obtain ⟨cs, h2⟩ := h2
                have h3 := HPD6.out.2.2.2.2.2
                rw [show W6.drew.heap[w5.heap.size]? = some (Obj.cells (x.map byteV).toArray TI (0, 0)) from h3] at h2
                injection h2 with h2
                injection h2 with _ h2
                exact absurd h2 (by decide)
            have HP9 := Lib.hid (show Mem w9 nb Tnd [.int .i64 lv, v] ∧ BM w9 (w.heap.size + 1) t2 ∧ Mem w9 w.heap.size Tnd [.int .i64 0, .slice none 0 0] ∧ Below w.heap.size w w9 ∧ Mem w9 w5.heap.size TI (x.map byteV) from
              ⟨HP8.out.1.grown hg9 (fun e => hni nb (.inl (by omega)) e.symm), Mem.grown HP8.out.2.2.1 hg9 (fun e => hni _ (.inl (by omega)) e.symm), HP8.out.2.2.2.1.grown hg9 (fun e => hni _ (.inl (by omega)) e.symm), ⟨hg9.os.trans HP8.out.2.2.2.2.1.os, hg9.tape.trans HP8.out.2.2.2.2.1.tape, hg9.output.trans HP8.out.2.2.2.2.1.output, Nat.le_trans HP8.out.2.2.2.2.1.size hg9.size, fun b hb => (hg9.block b (Nat.lt_of_lt_of_le hb HP8.out.2.2.2.2.1.size) (fun e => hni b (.inl (by omega)) e.symm)).trans (HP8.out.2.2.2.2.1.block b hb)⟩, HP8.out.2.2.2.2.2.1.grown hg9 (fun e => hni _ (.inr rfl) e.symm)⟩)
            have c9 : w9.cell? ⟨nb, 1, none⟩ = some v := HP9.out.1.cell 1
            have f9 : w9.frozen? ⟨nb, 1, none⟩ = false := HP9.out.1.frozen 1
            have HR9 := Lib.hid hr9
            have hs9 : nb + 1 ≤ w9.heap.size := by have := hg9.size; simp at this; omega
            refine hK.out _ _ HP9.out.2.2.2.2 (fun hH7 => ?_)
            clear hK K hr9 hg9 hat9 hlt8 hni c8 c7
            refine wpAnyH_take (i := 8) (oi := { dst := some 28, op := Op.fieldAddr Tnd (Operand.tmp 5) 1, type := 0, pos := "merkle.go:98", after := #[{ on := 0, ground := Ground.phase }, { on := 1, ground := Ground.phase }, { on := 2, ground := Ground.phase }, { on := 3, ground := Ground.phase }, { on := 4, ground := Ground.phase }, { on := 5, ground := Ground.phase }, { on := 6, ground := Ground.phase }, { on := 7, ground := Ground.phase }], guard := none }) (v := .pointer (some ⟨nb, 1, none⟩)) rfl (by kernel_rfl) (by kernel_rfl) (by kernel_rfl) (fun _ _ _ h => h) (Or.inl ⟨by rfl, ?_⟩) hH7 ?_
            · intro w' hSw
              go_simp
            simp only [Act.put, List.setIfInBounds_toArray]
            refine wpAnyH_ready (rs := [9]) (by kernel_rfl) (by simp) (AllReadyH.cons rfl (fun K hK => ?_) AllReadyH.nil)
            go_simp
            refine hK.out _ _ (HP9.out.2.2.2.2.other (p := ⟨nb, 1, none⟩) (by simp; omega) _) (fun hH9 => ?_)
            clear hK K hH9
            refine wpAnyH_done (by kernel_rfl) ?_ _
            have HFIN := Lib.hid (show PW w nb lv s2 (k + 1) (.slice a9 m9 p9) (w9.setCell ⟨nb, 1, none⟩ (.slice a9 m9 p9)) from ⟨HP9.out.1.set 1 (.slice a9 m9 p9), HR9.out.of_block (fun g hg => heap_set_ne (by have := (HR9.out.lt g hg).2; simp; omega)), by rw [HS1.out]; exact Mem.other HP9.out.2.1 (by simp; omega) _, HP9.out.2.2.1.other (by simp; omega) _, HP9.out.2.2.2.1.setCell (by simp; omega) _, q6⟩)
            have hs10 : nb + 1 ≤ (w9.setCell ⟨nb, 1, none⟩ (.slice a9 m9 p9)).heap.size := by simpa using hs9
            clear HP9 HR9 c9 f9
            rename_i Kz hKz
            refine hKz _ _ ?_
            go_wp2_with fail
            go_roundw
            case rel => exact ⟨k + 1, by omega, by go_num, hs10, _, HFIN⟩
            case measure => simp [intOf]; omega
    · have ek : k = cnt := by omega
      subst ek
      obtain ⟨va, vm, vp, rfl⟩ := HP.out.2.1.shape
      have hdk : decide (k < k) = false := by simp
      have HCL := Lib.hid (close_any wr (w.heap.size + 1) _ HP.out.2.2.1)
      have HN32 := Lib.hid (ptsS_names s2 k)
      have HLEN := Lib.hid (length_ptsS s2 k)
      unfold PW at HP
      unfold closeS at HPD
      obtain ⟨c, hc⟩ : ∃ c, c = (ptsS s2 k).1 := ⟨_, rfl⟩
      obtain ⟨ps, hps⟩ : ∃ c, c = (ptsS s2 k).2 := ⟨_, rfl⟩
      rw [← hc] at HCL
      rw [← hc, ← hps] at HPD
      rw [← hc, ← hps] at HP
      rw [← hps] at HN32 HLEN
      clear hc hps
      obtain ⟨cs, hcs⟩ : ∃ q, q = (if c.1 = [] then c else failS c 2) := ⟨_, rfl⟩
      rw [← hcs] at HCL HPD
      clear hcs
      go_wp2_with fail
      refine HCL.out.mono ?_
      rintro e w5 ⟨rfl, hbm5, hg5⟩
      have HP5 := Lib.hid (show Mem w5 nb Tnd [.int .i64 lv, .slice va vm vp] ∧ Rw w5 (nb + 1) Tpt 33 (.slice va vm vp) (ps.map ptC) ∧ Mem w5 w.heap.size Tnd [.int .i64 0, .slice none 0 0] ∧ Below w.heap.size w w5 from
        ⟨HP.out.1.grown hg5 (fun e => by injection e with e; have := HP.out.2.2.2.2.2; omega), HP.out.2.1.of_block (fun g hg => hg5.block g (HP.out.2.1.lt g hg).1 (fun e => by injection e with e; have := (HP.out.2.1.lt g hg).2; have := HP.out.2.2.2.2.2; omega)), HP.out.2.2.2.1.grown hg5 (fun e => by injection e with e; omega), belowNew HP.out.2.2.2.2.1 hg5 (by omega)⟩)
      have hq6 := HP.out.2.2.2.2.2
      clear HCL hbm5 hg5 HP
      have d0 : w5.cell? ⟨w.heap.size, 0, none⟩ = some (.int .i64 0) := HP5.out.2.2.1.cell 0
      have d1 : w5.cell? ⟨w.heap.size, 1, none⟩ = some (.slice none 0 0) := HP5.out.2.2.1.cell 1
      have g0 := HP5.out.2.2.1.frozen 0
      have g1 := HP5.out.2.2.1.frozen 1
      have n0 : w5.cell? ⟨nb, 0, none⟩ = some (.int .i64 lv) := HP5.out.1.cell 0
      have n1 : w5.cell? ⟨nb, 1, none⟩ = some (.slice va vm vp) := HP5.out.1.cell 1
      by_cases hce : cs.2 = 0
      · have hd : ((cs.2 : Int) != 0) = false := by simp [hce]
        rw [if_neg (by simpa using hce)] at HPD
        have HPT := Lib.hid (show Pts w5 (.slice va vm vp) ps from ⟨HN32.out, HP5.out.2.1.rd⟩)
        have HCK := Lib.hid (chk_any lv (.slice va vm vp) ps w5 HPT.out (by rw [HLEN.out]; omega))
        obtain ⟨ck, hck⟩ : ∃ c, c = chkN lv ps := ⟨_, rfl⟩
        rw [← hck] at HCK HPD
        clear hck
        by_cases hck : ck = 0
        · have hd2 : ((ck : Int) != 0) = false := by simp [hck]
          rw [if_neg (by simpa using hck)] at HPD
          go_wp2_with fail
          refine HCK.out.mono ?_
          rintro e w6 ⟨rfl, hb6⟩
          have HP6 := Lib.hid (show Mem w6 nb Tnd [.int .i64 lv, .slice va vm vp] ∧ Rw w6 (nb + 1) Tpt 33 (.slice va vm vp) (ps.map ptC) ∧ Mem w6 w.heap.size Tnd [.int .i64 0, .slice none 0 0] ∧ Below w.heap.size w w6 from ⟨HP5.out.1.below hb6 HP5.out.1.lt, HP5.out.2.1.below hb6, HP5.out.2.2.1.below hb6 HP5.out.2.2.1.lt, belowThen HP5.out.2.2.2 hb6⟩)
          clear hb6 HCK d0 d1 g0 g1 n0 n1
          have d0 : w6.cell? ⟨w.heap.size, 0, none⟩ = some (.int .i64 0) := HP6.out.2.2.1.cell 0
          have d1 : w6.cell? ⟨w.heap.size, 1, none⟩ = some (.slice none 0 0) := HP6.out.2.2.1.cell 1
          have g0 := HP6.out.2.2.1.frozen 0
          have g1 := HP6.out.2.2.1.frozen 1
          have n0 : w6.cell? ⟨nb, 0, none⟩ = some (.int .i64 lv) := HP6.out.1.cell 0
          have n1 : w6.cell? ⟨nb, 1, none⟩ = some (.slice va vm vp) := HP6.out.1.cell 1
          go_wp2_with fail
          have hm := (HP6.out.2.2.1.set 0 (.int .i64 (lv : Int))).set 1 (.slice va vm vp)
          refine bodyPost_ret (resultsCellTmp hm rfl _ _ rfl Tryd.underlying25 rfl (by kernel_rfl)) rfl ⟨_, by rw [HPD.out]; rfl, ?_, (HP6.out.2.2.2.setCell (Nat.le_refl _) _).setCell (Nat.le_refl _) _⟩
          rw [HPD.out]
          exact ⟨HN32.out, (HP6.out.2.1.of_block (fun g hg => (heap_set_ne (by have := (HP6.out.2.1.lt g hg).2; simp; omega)).trans (heap_set_ne (by have := (HP6.out.2.1.lt g hg).2; simp; omega)))).rd⟩
        · have hd2 : ((ck : Int) != 0) = true := by simpa using hck
          rw [if_pos (by simpa using hck)] at HPD
          go_wp2_with fail
          refine HCK.out.mono ?_
          rintro e w6 ⟨rfl, hb6⟩
          have HP6 := Lib.hid (show Mem w6 w.heap.size Tnd [.int .i64 0, .slice none 0 0] ∧ Below w.heap.size w w6 from ⟨HP5.out.2.2.1.below hb6 HP5.out.2.2.1.lt, belowThen HP5.out.2.2.2 hb6⟩)
          clear hb6 HCK d0 d1 g0 g1 n0 n1
          have d0 : w6.cell? ⟨w.heap.size, 0, none⟩ = some (.int .i64 0) := HP6.out.1.cell 0
          have d1 : w6.cell? ⟨w.heap.size, 1, none⟩ = some (.slice none 0 0) := HP6.out.1.cell 1
          have g0 := HP6.out.1.frozen 0
          have g1 := HP6.out.1.frozen 1
          go_wp2_with fail
          have hm := (HP6.out.1.set 0 (.int .i64 (0 : Int))).set 1 (.slice none 0 0)
          refine bodyPost_ret (resultsCellTmp hm rfl _ _ rfl Tryd.underlying25 rfl (by kernel_rfl)) rfl ⟨_, by rw [HPD.out]; rfl, ?_, (HP6.out.2.setCell (Nat.le_refl _) _).setCell (Nat.le_refl _) _⟩
          rw [HPD.out]
          exact ⟨by simp, Rd.nil _ _⟩
      · have hd : ((cs.2 : Int) != 0) = true := by simpa using hce
        rw [if_pos (by simpa using hce)] at HPD
        go_wp2_with fail
        have hm := (HP5.out.2.2.1.set 0 (.int .i64 (0 : Int))).set 1 (.slice none 0 0)
        refine bodyPost_ret (resultsCellTmp hm rfl _ _ rfl Tryd.underlying25 rfl (by kernel_rfl)) rfl ⟨_, by rw [HPD.out]; rfl, ?_, (HP5.out.2.2.2.setCell (Nat.le_refl _) _).setCell (Nat.le_refl _) _⟩
        rw [HPD.out]
        exact ⟨by simp, Rd.nil _ _⟩
end Go.Proofs.YtjdhcanblpifcaaDoor

/-
  SectorPlays: the walk.
-/
import Derived.Test.YtjmmbafpiahhiaaSLaw10
namespace Go.Proofs.Ytjmmbafpiahhiaa
open Go.RowKit Go.Maps Go.Sort Go.Shelf Crv
set_option maxHeartbeats 4000000 in
set_option maxRecDepth 100000 in
theorem sectorPlays_walk (s : Int) (av : Value) (m : Nat) (F : Nat → ActC) (w : World) (hA : Acts w av m F) (hm : m ≤ 9223372036854775807) :
    Calls Try.prog 3 #[.int .i64 s, av] w fun e w' => e = .returned (.bool true) ∧ Below w.heap.size w w' := by
  have HAW := Lib.hid awake3_any
  obtain ⟨sz, hsz⟩ : ∃ k : Nat, min (max s 0) 12 = (k : Int) := ⟨(min (max s 0) 12).toNat, by omega⟩
  have hs12 : sz ≤ 12 := by omega
  have HSZ := Lib.hid hsz
  obtain ⟨ad, cap, rfl, hact⟩ := hA
  have HACT := Lib.hid hact
  have HN := Lib.hid (fun W => new_any sz (by omega) W)
  have HRN := Lib.hid (fun W => rnew_any sz hs12 W)
  obtain ⟨b0, hb0⟩ : ∃ b, b = List.replicate (64 * sz) (0 : UInt8) := ⟨_, rfl⟩
  simp only [← hb0] at HN HRN
  clear hsz hact hb0
  go_enter Try.func3, Try.ntmps3
  go_wp2_with fail
  refine (HAW.out _).mono ?_
  rintro e w1 ⟨rfl, hb1⟩
  go_wp2_with fail
  simp only [HSZ.out]
  refine (HN.out _).mono ?_
  rintro e w2 ⟨fb, cb, mb, db, rfl, hd2, hb2, k1, k2, k3, k4⟩
  go_wp2_with fail
  refine (HRN.out _).mono ?_
  rintro e w3 ⟨v3, rfl, hr3, hb3⟩
  have hr4 := hr3
  obtain ⟨a1, a2, a3, c1, c2, c3, rfl, -, -, -⟩ := hr4
  have HP0 := Lib.hid (show PlW w fb cb mb db w3.heap.size sz false 0 b0 0 (.map []) (fun _ => none) a1 a2 a3 c1 c2 c3 (w3.alloc (.cells (rdC a1 a2 a3 c1 c2 c3 sz (-1)).toArray TRd)) from
    ⟨(hd2.below hb3).below (belowSelf w3 _), hr3.below (belowSelf w3 _), Du.none sz, fun _ => rfl, Mem.new w3 TRd _, belowThen (belowThen (belowThen hb1 hb2) hb3) (belowSelf w3 _), Nat.le_trans hb1.size k1, Nat.le_trans hb1.size k2, Nat.le_trans hb1.size k3, Nat.le_trans hb1.size (Nat.le_trans hb2.size hb3.size)⟩)
  have hX : w3.heap.size = w3.heap.size := rfl
  clear hX HN HRN hd2 hb2 hb3 hr3 hb1 k1 k2 k3 k4 HAW
  go_wp2_with fail
  go_loopw [7] (fun i wr => ∃ j : Nat, j ≤ m ∧ j ≤ 40 ∧ i = .int .i64 j ∧ ∃ a k bs n D du a1 a2 a3 c1 c2 c3, n ≤ 7 * j ∧ Hid (PlW w fb cb mb db w3.heap.size sz a k bs n D du a1 a2 a3 c1 c2 c3 wr)) (fun i _ => m - (intOf i).toNat)
  case atStart => exact ⟨0, by omega, by omega, rfl, false, 0, b0, 0, _, _, a1, a2, a3, c1, c2, c3, by omega, HP0⟩
  case round =>
    obtain ⟨j, hj, hj4, rfl, a, k, bs, n, D, du, a1, a2, a3, c1, c2, c3, hn, HPW⟩ := hrel
    clear HP0
    by_cases hlt : j < m ∧ j < 40
    · obtain ⟨hlt1, hlt2⟩ := hlt
      have hd1 : decide ((j : Int) < (m : Int)) = true := by simp; omega
      have hd2 : decide ((j : Int) < 40) = true := by simp; omega
      obtain ⟨b, off, rfl, hrg, hok⟩ := HACT.out j hlt1
      obtain ⟨x, hx⟩ : ∃ x, x = F j := ⟨_, rfl⟩
      rw [← hx] at hrg hok
      have HRG := Lib.hid (range_below hrg HPW.out.bel)
      have HOK := Lib.hid hok
      have HRG0 := Lib.hid hrg
      obtain ⟨X, hX⟩ : ∃ X, X = w3.heap.size := ⟨_, rfl⟩
      simp only [← hX] at HPW ⊢
      clear hx hrg hok hX
      have HPD := Lib.hid (HPW.out.below (below_drewN (Below.refl _ _) 1))
      have HS0 := Lib.hid (show PlS X b (off + j * 6) (rdC a1 a2 a3 c1 c2 c3 sz (fuseF a k)) x.cells wr.drew from ⟨HPD.out.x.range 0 _ (List.prefix_refl _), range_below HRG.out (below_drewN (Below.refl _ _) 1)⟩)
      go_wp2_with fail
      refine wp_region_held_drew (S := PlS X b (off + j * 6) (rdC a1 a2 a3 c1 c2 c3 sz (fuseF a k)) x.cells) (by kernel_rfl) HS0.out (fun hHeld => ?_)
      refine wpAnyH_take (i := 0) (oi := { dst := some 34, op := Op.move (Operand.tmp 5), type := 24, pos := "law.go:102", after := #[], guard := none }) (v := ptr db) rfl (by kernel_rfl) (by kernel_rfl) (by kernel_rfl) (fun _ _ _ h => h) (Or.inl ⟨by rfl, ?_⟩) hHeld ?_
      · intro w' hSw
        obtain ⟨z1, z2⟩ := hSw
        go_simp
      simp only [Act.put, List.setIfInBounds_toArray, List.set_cons_zero, List.set_cons_succ]
      refine wpAnyH_take (i := 2) (oi := { dst := some 36, op := Op.move (Operand.tmp 1), type := 22, pos := "law.go:102", after := #[], guard := none }) (v := .slice (some ⟨b, off, none⟩) m cap) rfl (by kernel_rfl) (by kernel_rfl) (by kernel_rfl) (fun _ _ _ h => h) (Or.inl ⟨by rfl, ?_⟩) hHeld ?_
      · intro w' hSw
        obtain ⟨z1, z2⟩ := hSw
        go_simp
      simp only [Act.put, List.setIfInBounds_toArray, List.set_cons_zero, List.set_cons_succ]
      refine wpAnyH_take (i := 3) (oi := { dst := some 37, op := Op.move (Operand.tmp 7), type := 3, pos := "law.go:102", after := #[], guard := none }) (v := .int .i64 j) rfl (by kernel_rfl) (by kernel_rfl) (by kernel_rfl) (fun _ _ _ h => h) (Or.inl ⟨by rfl, ?_⟩) hHeld ?_
      · intro w' hSw
        obtain ⟨z1, z2⟩ := hSw
        go_simp
      simp only [Act.put, List.setIfInBounds_toArray, List.set_cons_zero, List.set_cons_succ]
      refine wpAnyH_take (i := 4) (oi := { dst := some 38, op := Op.indexAddr 22 (Operand.tmp 36) (Operand.tmp 37), type := 0, pos := "law.go:102", after := #[{ on := 2, ground := Ground.data }, { on := 3, ground := Ground.data }], guard := none }) (v := .pointer (some ⟨b, off + j * 6, none⟩)) rfl (by kernel_rfl) (by kernel_rfl) (by kernel_rfl) (fun _ _ _ h => h) (Or.inl ⟨by rfl, ?_⟩) hHeld ?_
      · intro w' hSw
        obtain ⟨z1, z2⟩ := hSw
        go_simp
      simp only [Act.put, List.setIfInBounds_toArray, List.set_cons_zero, List.set_cons_succ]
      refine wpAnyH_take (i := 1) (oi := { dst := some 35, op := Op.load 29 (Operand.tmp 6), type := 29, pos := "law.go:102", after := #[], guard := none }) (v := _) rfl (by kernel_rfl) (by kernel_rfl) (by kernel_rfl) (fun _ _ _ h => h) (yieldsIf_load_mid (by rfl) TRd (.tmp 6) rfl X (0) rfl (rdC a1 a2 a3 c1 c2 c3 sz (fuseF a k)) (_) (fun w hS => hS.1) Try.underlying29 rfl szRd) hHeld ?_
      simp only [Act.put, List.setIfInBounds_toArray, List.set_cons_zero, List.set_cons_succ]
      refine wpAnyH_take (i := 5) (oi := { dst := some 39, op := Op.load 35 (Operand.tmp 38), type := 35, pos := "law.go:102", after := #[{ on := 4, ground := Ground.data }], guard := none }) (v := _) rfl (by kernel_rfl) (by kernel_rfl) (by kernel_rfl) (fun _ _ _ h => h) (yieldsIf_load_mid (by rfl) TAc (.tmp 38) rfl b (off + j * 6) rfl (x.cells) (_) (fun w hS => hS.2) Try.underlying35 rfl szAc) hHeld ?_
      simp only [Act.put, List.setIfInBounds_toArray, List.set_cons_zero, List.set_cons_succ]
      refine wpAnyH_ready (rs := [6, 10]) (by kernel_rfl) (by simp) (AllReadyH.cons rfl (fun K hK => ?_) (AllReadyH.cons rfl (fun K hK => ?_) AllReadyH.nil))
      · go_simp
        refine (HPD.out.call HOK.out (by omega)).mono ?_
        rintro e w5 ⟨a', k', bs', n', D', du', b1, b2, b3, d1, d2, d3, rfl, hn', hv5, ho5⟩
        dsimp only
        have HRG5 := Lib.hid (range_below HRG0.out hv5.bel)
        have HV5 := Lib.hid hv5
        refine hK.out _ _ ⟨hv5.x.range 0 _ (List.prefix_refl _), HRG5.out⟩ (fun hH1 => ?_)
        clear hK K hv5 ho5
        refine wpAnyH_take (i := 7) (oi := { dst := some 33, op := Op.move (Operand.tmp 40), type := 31, pos := "law.go:102", after := #[{ on := 6, ground := Ground.data }], guard := none }) (v := .tuple #[.agg (rdC b1 b2 b3 d1 d2 d3 sz (fuseF a' k')).toArray, .bool true]) rfl (by kernel_rfl) (by kernel_rfl) (by kernel_rfl) (fun _ _ _ h => h) (Or.inl ⟨by rfl, ?_⟩) hH1 ?_
        · intro w' hSw
          clear hSw
          go_simp
        simp only [Act.put, List.setIfInBounds_toArray, List.set_cons_zero, List.set_cons_succ]
        refine wpAnyH_take (i := 8) (oi := { dst := some 41, op := Op.extract (Operand.tmp 33) 0, type := 29, pos := "law.go:102", after := #[{ on := 7, ground := Ground.data }], guard := none }) (v := .agg (rdC b1 b2 b3 d1 d2 d3 sz (fuseF a' k')).toArray) rfl (by kernel_rfl) (by kernel_rfl) (by kernel_rfl) (fun _ _ _ h => h) (Or.inl ⟨by rfl, ?_⟩) hH1 ?_
        · intro w' hSw
          clear hSw
          go_simp
        simp only [Act.put, List.setIfInBounds_toArray, List.set_cons_zero, List.set_cons_succ]
        refine wpAnyH_take (i := 9) (oi := { dst := some 42, op := Op.extract (Operand.tmp 33) 1, type := 4, pos := "law.go:102", after := #[{ on := 7, ground := Ground.data }, { on := 11, ground := Ground.gcOnly Departure.lateStores }], guard := none }) (v := .bool true) rfl (by kernel_rfl) (by kernel_rfl) (by kernel_rfl) (fun _ _ _ h => h) (Or.inl ⟨by rfl, ?_⟩) hH1 ?_
        · intro w' hSw
          clear hSw
          go_simp
        simp only [Act.put, List.setIfInBounds_toArray, List.set_cons_zero, List.set_cons_succ]
        refine wpAnyH_ready (rs := [10]) (by kernel_rfl) (by simp) (AllReadyH.cons rfl (fun K hK => ?_) AllReadyH.nil)
        go_simp
        have HV6 := Lib.hid (HV5.out.below (belowSelf w5 (.cells zRd.toArray TRd)))
        refine hK.out _ _ ⟨HV6.out.x.range 0 _ (List.prefix_refl _), range_below HRG5.out (belowSelf _ _)⟩ (fun hH2 => ?_)
        clear hK K
        refine wpAnyH_ready (rs := [11]) (by kernel_rfl) (by simp) (AllReadyH.cons rfl (fun K hK => ?_) AllReadyH.nil)
        go_simp
        have HV7 := Lib.hid (HV5.out.below (belowSelf w5 (.cells (rdC b1 b2 b3 d1 d2 d3 sz (fuseF a' k')).toArray TRd)))
        refine hK.out _ _ ⟨HV7.out.x.range 0 _ (List.prefix_refl _), range_below HRG5.out (belowSelf _ _)⟩ (fun hH3 => ?_)
        clear hK K
        refine wpAnyH_take (i := 12) (oi := { dst := some 9, op := Op.assign (Operand.tmp 42), type := 4, pos := "law.go:102", after := #[{ on := 9, ground := Ground.data }, { on := 11, ground := Ground.chain }, { on := 0, ground := Ground.phase }, { on := 1, ground := Ground.phase }, { on := 2, ground := Ground.phase }, { on := 3, ground := Ground.phase }, { on := 4, ground := Ground.phase }, { on := 5, ground := Ground.phase }, { on := 6, ground := Ground.phase }, { on := 7, ground := Ground.phase }, { on := 8, ground := Ground.phase }, { on := 9, ground := Ground.phase }, { on := 10, ground := Ground.phase }, { on := 11, ground := Ground.phase }], guard := none }) (v := .bool true) rfl (by kernel_rfl) (by kernel_rfl) (by kernel_rfl) (fun _ _ _ h => h) (Or.inl ⟨by rfl, ?_⟩) hH3 ?_
        · intro w' hSw
          clear hSw
          go_simp
        simp only [Act.put, List.setIfInBounds_toArray, List.set_cons_zero, List.set_cons_succ]
        refine wpAnyH_done (by kernel_rfl) ?_ _
        rename_i Kz hKz
        refine hKz _ _ ?_
        have HM7 := Lib.hid (Mem.new w5 TRd (rdC b1 b2 b3 d1 d2 d3 sz (fuseF a' k')))
        change Code.wp _ _ _ _ (w5.alloc (.cells (rdC b1 b2 b3 d1 d2 d3 sz (fuseF a' k')).toArray TRd))
        generalize (w5.alloc (.cells (rdC b1 b2 b3 d1 d2 d3 sz (fuseF a' k')).toArray TRd)) = wy at HV7 HM7 ⊢
        obtain ⟨y, hy⟩ : ∃ y, y = w5.heap.size := ⟨_, rfl⟩
        simp only [← hy] at HM7 ⊢
        clear hy
        obtain ⟨⟨g0, gf0⟩, ⟨g1, gf1⟩, ⟨g2, gf2⟩, ⟨g3, gf3⟩⟩ := mem4 HV7.out.x
        obtain ⟨⟨h0, hf0⟩, ⟨h1, hf1⟩, ⟨h2, hf2⟩, ⟨h3, hf3⟩⟩ := mem4 HM7.out
        have hz0 : X < wy.heap.size := HV7.out.x.lt
        have hz1 : y < wy.heap.size := HM7.out.lt
        have HPX := Lib.hid HV7.out.put
        have HFU := Lib.hid (fuse_any _ bs' du' HPX.out.dk HPX.out.rf HPX.out.h0)
        go_wp2_with fail
        refine HFU.out.mono ?_
        rintro e w6 ⟨rfl, hb6⟩
        have HP6 := Lib.hid (HPX.out.below hb6)
        clear hb6 hz0 hz1 g0 gf0 g1 gf1 g2 gf2 g3 gf3 h0 hf0 h1 hf1 h2 hf2 h3 hf3
        obtain ⟨⟨g0, gf0⟩, ⟨g1, gf1⟩, ⟨g2, gf2⟩, ⟨g3, gf3⟩⟩ := mem4 HP6.out.x
        have hz0 : X < w6.heap.size := HP6.out.x.lt
        have HLO := Lib.hid (lawloose_any _ bs' du' (fuseF a' k') HP6.out.dk (by omega) HP6.out.du HP6.out.rf)
        go_wp2_with fail
        refine HLO.out.mono ?_
        rintro e w7 ⟨rfl, hb7⟩
        have HP7 := Lib.hid (HP6.out.below hb7)
        clear hb7 hz0 g0 gf0 g1 gf1 g2 gf2 g3 gf3
        go_wp2_with fail
        refine ⟨⟨j + 1, by omega, by omega, by go_num, a', k', bs', n', D', du', b1, b2, b3, d1, d2, d3, by omega, HP7⟩, ?_⟩
        simp [intOf]; omega
      · go_simp
        have HB1 := Lib.hid (HPD.out.below (belowSelf wr.drew (.cells zRd.toArray TRd)))
        have HMY := Lib.hid (show Mem (wr.drew.alloc (.cells zRd.toArray TRd)) wr.heap.size TRd zRd from Mem.new wr.drew TRd zRd)
        refine hK.out _ _ ⟨HB1.out.x.range 0 _ (List.prefix_refl _), range_below HRG0.out HB1.out.bel⟩ (fun hH0 => ?_)
        clear hK K
        refine wpAnyH_ready (rs := [6]) (by kernel_rfl) (by simp) (AllReadyH.cons rfl (fun K hK => ?_) AllReadyH.nil)
        go_simp
        refine (HB1.out.call HOK.out (by omega)).mono ?_
        rintro e w5 ⟨a', k', bs', n', D', du', b1, b2, b3, d1, d2, d3, rfl, hn', hv5, ho5⟩
        dsimp only
        have HRG5 := Lib.hid (range_below HRG0.out hv5.bel)
        have HV5 := Lib.hid hv5
        have HM5 := Lib.hid (PlV.sput HB1.out.dk ho5 HMY.out)
        refine hK.out _ _ ⟨hv5.x.range 0 _ (List.prefix_refl _), HRG5.out⟩ (fun hH1 => ?_)
        clear hK K hv5 ho5
        refine wpAnyH_take (i := 7) (oi := { dst := some 33, op := Op.move (Operand.tmp 40), type := 31, pos := "law.go:102", after := #[{ on := 6, ground := Ground.data }], guard := none }) (v := .tuple #[.agg (rdC b1 b2 b3 d1 d2 d3 sz (fuseF a' k')).toArray, .bool true]) rfl (by kernel_rfl) (by kernel_rfl) (by kernel_rfl) (fun _ _ _ h => h) (Or.inl ⟨by rfl, ?_⟩) hH1 ?_
        · intro w' hSw
          clear hSw
          go_simp
        simp only [Act.put, List.setIfInBounds_toArray, List.set_cons_zero, List.set_cons_succ]
        refine wpAnyH_take (i := 8) (oi := { dst := some 41, op := Op.extract (Operand.tmp 33) 0, type := 29, pos := "law.go:102", after := #[{ on := 7, ground := Ground.data }], guard := none }) (v := .agg (rdC b1 b2 b3 d1 d2 d3 sz (fuseF a' k')).toArray) rfl (by kernel_rfl) (by kernel_rfl) (by kernel_rfl) (fun _ _ _ h => h) (Or.inl ⟨by rfl, ?_⟩) hH1 ?_
        · intro w' hSw
          clear hSw
          go_simp
        simp only [Act.put, List.setIfInBounds_toArray, List.set_cons_zero, List.set_cons_succ]
        refine wpAnyH_take (i := 9) (oi := { dst := some 42, op := Op.extract (Operand.tmp 33) 1, type := 4, pos := "law.go:102", after := #[{ on := 7, ground := Ground.data }, { on := 11, ground := Ground.gcOnly Departure.lateStores }], guard := none }) (v := .bool true) rfl (by kernel_rfl) (by kernel_rfl) (by kernel_rfl) (fun _ _ _ h => h) (Or.inl ⟨by rfl, ?_⟩) hH1 ?_
        · intro w' hSw
          clear hSw
          go_simp
        simp only [Act.put, List.setIfInBounds_toArray, List.set_cons_zero, List.set_cons_succ]
        obtain ⟨⟨g0, gf0⟩, ⟨g1, gf1⟩, ⟨g2, gf2⟩, ⟨g3, gf3⟩⟩ := mem4 HM5.out
        have hz1 : wr.heap.size < w5.heap.size := HM5.out.lt
        refine wpAnyH_ready (rs := [11]) (by kernel_rfl) (by simp) (AllReadyH.cons rfl (fun K hK => ?_) AllReadyH.nil)
        go_simp
        have HV7 := Lib.hid (HV5.out.put4 HM5.out HPW.out.bel.size (by have := HPW.out.x.lt; omega) (.slice b1 sz d1) (.slice b2 sz d2) (.slice b3 sz d3) (.int .i64 (fuseF a' k')))
        have HM7 := Lib.hid (sput4 HM5.out (.slice b1 sz d1) (.slice b2 sz d2) (.slice b3 sz d3) (.int .i64 (fuseF a' k')))
        refine hK.out _ _ ⟨HV7.out.x.range 0 _ (List.prefix_refl _), range_below HRG0.out HV7.out.bel⟩ (fun hH3 => ?_)
        clear hK K hz1 g0 gf0 g1 gf1 g2 gf2 g3 gf3
        refine wpAnyH_take (i := 12) (oi := { dst := some 9, op := Op.assign (Operand.tmp 42), type := 4, pos := "law.go:102", after := #[{ on := 9, ground := Ground.data }, { on := 11, ground := Ground.chain }, { on := 0, ground := Ground.phase }, { on := 1, ground := Ground.phase }, { on := 2, ground := Ground.phase }, { on := 3, ground := Ground.phase }, { on := 4, ground := Ground.phase }, { on := 5, ground := Ground.phase }, { on := 6, ground := Ground.phase }, { on := 7, ground := Ground.phase }, { on := 8, ground := Ground.phase }, { on := 9, ground := Ground.phase }, { on := 10, ground := Ground.phase }, { on := 11, ground := Ground.phase }], guard := none }) (v := .bool true) rfl (by kernel_rfl) (by kernel_rfl) (by kernel_rfl) (fun _ _ _ h => h) (Or.inl ⟨by rfl, ?_⟩) hH3 ?_
        · intro w' hSw
          clear hSw
          go_simp
        simp only [Act.put, List.setIfInBounds_toArray, List.set_cons_zero, List.set_cons_succ]
        refine wpAnyH_done (by kernel_rfl) ?_ _
        rename_i Kz hKz
        refine hKz _ _ ?_
        change Code.wp _ _ _ _ ((((w5.setCell ⟨wr.heap.size, 0, none⟩ (.slice b1 sz d1)).setCell ⟨wr.heap.size, 1, none⟩ (.slice b2 sz d2)).setCell ⟨wr.heap.size, 2, none⟩ (.slice b3 sz d3)).setCell ⟨wr.heap.size, 3, none⟩ (.int .i64 (fuseF a' k')))
        generalize ((((w5.setCell ⟨wr.heap.size, 0, none⟩ (.slice b1 sz d1)).setCell ⟨wr.heap.size, 1, none⟩ (.slice b2 sz d2)).setCell ⟨wr.heap.size, 2, none⟩ (.slice b3 sz d3)).setCell ⟨wr.heap.size, 3, none⟩ (.int .i64 (fuseF a' k'))) = wy at HV7 HM7 ⊢
        obtain ⟨y, hy⟩ : ∃ y, y = wr.heap.size := ⟨_, rfl⟩
        simp only [← hy] at HM7 ⊢
        clear hy
        obtain ⟨⟨g0, gf0⟩, ⟨g1, gf1⟩, ⟨g2, gf2⟩, ⟨g3, gf3⟩⟩ := mem4 HV7.out.x
        obtain ⟨⟨h0, hf0⟩, ⟨h1, hf1⟩, ⟨h2, hf2⟩, ⟨h3, hf3⟩⟩ := mem4 HM7.out
        have hz0 : X < wy.heap.size := HV7.out.x.lt
        have hz1 : y < wy.heap.size := HM7.out.lt
        have HPX := Lib.hid HV7.out.put
        have HFU := Lib.hid (fuse_any _ bs' du' HPX.out.dk HPX.out.rf HPX.out.h0)
        go_wp2_with fail
        refine HFU.out.mono ?_
        rintro e w6 ⟨rfl, hb6⟩
        have HP6 := Lib.hid (HPX.out.below hb6)
        clear hb6 hz0 hz1 g0 gf0 g1 gf1 g2 gf2 g3 gf3 h0 hf0 h1 hf1 h2 hf2 h3 hf3
        obtain ⟨⟨g0, gf0⟩, ⟨g1, gf1⟩, ⟨g2, gf2⟩, ⟨g3, gf3⟩⟩ := mem4 HP6.out.x
        have hz0 : X < w6.heap.size := HP6.out.x.lt
        have HLO := Lib.hid (lawloose_any _ bs' du' (fuseF a' k') HP6.out.dk (by omega) HP6.out.du HP6.out.rf)
        go_wp2_with fail
        refine HLO.out.mono ?_
        rintro e w7 ⟨rfl, hb7⟩
        have HP7 := Lib.hid (HP6.out.below hb7)
        clear hb7 hz0 g0 gf0 g1 gf1 g2 gf2 g3 gf3
        go_wp2_with fail
        refine ⟨⟨j + 1, by omega, by omega, by go_num, a', k', bs', n', D', du', b1, b2, b3, d1, d2, d3, by omega, HP7⟩, ?_⟩
        simp [intOf]; omega
    · by_cases h1 : j < m
      · have hd1 : decide ((j : Int) < (m : Int)) = true := by simp; omega
        have hd2 : decide ((j : Int) < 40) = false := by simp; omega
        obtain ⟨X, hX⟩ : ∃ X, X = w3.heap.size := ⟨_, rfl⟩
        simp only [← hX] at HPW ⊢
        clear hX
        have c0 : wr.cell? ⟨db, 0, none⟩ = some (ptr fb) := HPW.out.dk.d.cell 0
        have HC := Lib.hid (clear_any HPW.out.dk)
        go_wp2_with fail
        refine HC.out.mono ?_
        rintro e w5 ⟨rfl, hd5, ho5, -⟩
        have HV5 := Lib.hid (HPW.out.cleared hd5 ho5)
        clear hd5 ho5 c0 HC
        obtain ⟨⟨g0, gf0⟩, ⟨g1, gf1⟩, ⟨g2, gf2⟩, ⟨g3, gf3⟩⟩ := mem4 HV5.out.x
        have hz0 : X < w5.heap.size := HV5.out.x.lt
        have HP6 := Lib.hid HV5.out.unfuse
        have HRD := Lib.hid (read_ok 0 sz HP6.out.dk (by omega) rfl)
        go_wp2_with fail
        refine HRD.out.mono ?_
        rintro e w7 ⟨rfl, hd7, ho7, -⟩
        rw [leftS_no] at hd7
        have HP7 := Lib.hid (HP6.out.turn hd7 ho7)
        clear hd7 ho7 HRD hz0 g0 gf0 g1 gf1 g2 gf2 g3 gf3
        obtain ⟨⟨g0, gf0⟩, ⟨g1, gf1⟩, ⟨g2, gf2⟩, ⟨g3, gf3⟩⟩ := mem4 HP7.out.x
        have hz0 : X < w7.heap.size := HP7.out.x.lt
        have HRR := Lib.hid (rread_ok a1 a2 a3 c1 c2 c3 sz (-1) bs 0 sz w7 HP7.out.rf.now (by omega) (by omega) (by omega) (by omega) (by omega))
        rw [leftF_no] at HRR
        go_wp2_with fail
        refine HRR.out.mono ?_
        rintro e w8 ⟨rfl, hb8⟩
        have HP8 := Lib.hid (HP7.out.below hb8)
        have HP9 := Lib.hid HP8.out.toV.put
        clear hb8 hz0 HRR g0 gf0 g1 gf1 g2 gf2 g3 gf3
        obtain ⟨⟨g0, gf0⟩, ⟨g1, gf1⟩, ⟨g2, gf2⟩, ⟨g3, gf3⟩⟩ := mem4 HP8.out.x
        have hz0 : X < w8.heap.size := HP8.out.x.lt
        have HCR := Lib.hid (crash_any (.slice none 0 0) [] du ⟨none, 0, rfl, fun i hi => by simp at hi⟩ (fun h => absurd rfl h) (by simp) (by omega) HP9.out.dk HP9.out.du)
        go_wp2_with fail
        refine HCR.out.mono ?_
        rintro e w10 ⟨rfl, hd10, ho10⟩
        have HX10 := Lib.hid (PlV.sput HP9.out.dk ho10 HP9.out.x)
        have HR10 := Lib.hid (HP9.out.rf.only HP9.out.dk ho10)
        have HB10 := Lib.hid (only_base HP9.out.bel ho10 HP9.out.low.1 HP9.out.low.2.1 HP9.out.low.2.2.1)
        have HL := Lib.hid HP9.out.du.lens
        have HBL := Lib.hid HP9.out.dk.len
        have HRD := Lib.hid (read_ok 0 sz hd10 (by omega) rfl)
        have HD10 := Lib.hid hd10
        clear hd10 ho10 HCR hz0 g0 gf0 g1 gf1 g2 gf2 g3 gf3
        go_wp2_with fail
        refine HRD.out.mono ?_
        rintro e w11 ⟨rfl, hd11, ho11, -⟩
        rw [leftS_no] at hd11
        have HX11 := Lib.hid (PlV.sput HD10.out ho11 HX10.out)
        have HR11 := Lib.hid (HR10.out.only HD10.out ho11)
        have HB11 := Lib.hid (only_base HB10.out ho11 HP9.out.low.1 HP9.out.low.2.1 HP9.out.low.2.2.1)
        have HD11 := Lib.hid hd11
        clear hd11 ho11 HRD
        obtain ⟨⟨g0, gf0⟩, ⟨g1, gf1⟩, ⟨g2, gf2⟩, ⟨g3, gf3⟩⟩ := mem4 HX11.out
        have hz0 : X < w11.heap.size := HX11.out.lt
        have HRC := Lib.hid (rcrash_any _ sz bs du (-1) (.slice none 0 0) [] w11 HR11.out ⟨none, 0, rfl, fun i hi => by simp at hi⟩ (by simp) (by omega) HBL.out HL.out)
        go_wp2_with fail
        refine HRC.out.mono ?_
        rintro e w12 ⟨v12, rfl, hr12, hb12⟩
        obtain ⟨b1, b2, b3, d1, d2, d3, rfl, -, hn12, -⟩ := hr12
        have HRR := Lib.hid (rread_ok b1 b2 b3 d1 d2 d3 sz (-1) _ 0 sz w12 hn12 (by omega) (by omega) (by omega) (by omega) (by omega))
        have HB12 := Lib.hid (belowThen HB11.out hb12)
        have HD12 := Lib.hid (HD11.out.below hb12)
        clear hb12 hn12 HRC hz0 g0 gf0 g1 gf1 g2 gf2 g3 gf3
        go_wp2_with fail
        refine HRR.out.mono ?_
        rintro e w13 ⟨rfl, hb13⟩
        have HB13 := Lib.hid (belowThen HB12.out hb13)
        have HLS := Lib.hid (loose_any (HD12.out.below hb13) (by omega))
        clear hb13 HRR
        go_wp2_with fail
        refine HLS.out.mono ?_
        rintro e w14 ⟨v14, ss, rfl, hp14, -, hv14, hb14⟩
        obtain rfl := hv14.2 (intKeys_none hp14)
        clear hv14 hp14
        go_wp2_with fail
        go_ret
        exact ⟨rfl, belowThen HB13.out hb14⟩
      · have hd1 : decide ((j : Int) < (m : Int)) = false := by simp; omega
        obtain ⟨X, hX⟩ : ∃ X, X = w3.heap.size := ⟨_, rfl⟩
        simp only [← hX] at HPW ⊢
        clear hX
        have c0 : wr.cell? ⟨db, 0, none⟩ = some (ptr fb) := HPW.out.dk.d.cell 0
        have HC := Lib.hid (clear_any HPW.out.dk)
        go_wp2_with fail
        refine HC.out.mono ?_
        rintro e w5 ⟨rfl, hd5, ho5, -⟩
        have HV5 := Lib.hid (HPW.out.cleared hd5 ho5)
        clear hd5 ho5 c0 HC
        obtain ⟨⟨g0, gf0⟩, ⟨g1, gf1⟩, ⟨g2, gf2⟩, ⟨g3, gf3⟩⟩ := mem4 HV5.out.x
        have hz0 : X < w5.heap.size := HV5.out.x.lt
        have HP6 := Lib.hid HV5.out.unfuse
        have HRD := Lib.hid (read_ok 0 sz HP6.out.dk (by omega) rfl)
        go_wp2_with fail
        refine HRD.out.mono ?_
        rintro e w7 ⟨rfl, hd7, ho7, -⟩
        rw [leftS_no] at hd7
        have HP7 := Lib.hid (HP6.out.turn hd7 ho7)
        clear hd7 ho7 HRD hz0 g0 gf0 g1 gf1 g2 gf2 g3 gf3
        obtain ⟨⟨g0, gf0⟩, ⟨g1, gf1⟩, ⟨g2, gf2⟩, ⟨g3, gf3⟩⟩ := mem4 HP7.out.x
        have hz0 : X < w7.heap.size := HP7.out.x.lt
        have HRR := Lib.hid (rread_ok a1 a2 a3 c1 c2 c3 sz (-1) bs 0 sz w7 HP7.out.rf.now (by omega) (by omega) (by omega) (by omega) (by omega))
        rw [leftF_no] at HRR
        go_wp2_with fail
        refine HRR.out.mono ?_
        rintro e w8 ⟨rfl, hb8⟩
        have HP8 := Lib.hid (HP7.out.below hb8)
        have HP9 := Lib.hid HP8.out.toV.put
        clear hb8 hz0 HRR g0 gf0 g1 gf1 g2 gf2 g3 gf3
        obtain ⟨⟨g0, gf0⟩, ⟨g1, gf1⟩, ⟨g2, gf2⟩, ⟨g3, gf3⟩⟩ := mem4 HP8.out.x
        have hz0 : X < w8.heap.size := HP8.out.x.lt
        have HCR := Lib.hid (crash_any (.slice none 0 0) [] du ⟨none, 0, rfl, fun i hi => by simp at hi⟩ (fun h => absurd rfl h) (by simp) (by omega) HP9.out.dk HP9.out.du)
        go_wp2_with fail
        refine HCR.out.mono ?_
        rintro e w10 ⟨rfl, hd10, ho10⟩
        have HX10 := Lib.hid (PlV.sput HP9.out.dk ho10 HP9.out.x)
        have HR10 := Lib.hid (HP9.out.rf.only HP9.out.dk ho10)
        have HB10 := Lib.hid (only_base HP9.out.bel ho10 HP9.out.low.1 HP9.out.low.2.1 HP9.out.low.2.2.1)
        have HL := Lib.hid HP9.out.du.lens
        have HBL := Lib.hid HP9.out.dk.len
        have HRD := Lib.hid (read_ok 0 sz hd10 (by omega) rfl)
        have HD10 := Lib.hid hd10
        clear hd10 ho10 HCR hz0 g0 gf0 g1 gf1 g2 gf2 g3 gf3
        go_wp2_with fail
        refine HRD.out.mono ?_
        rintro e w11 ⟨rfl, hd11, ho11, -⟩
        rw [leftS_no] at hd11
        have HX11 := Lib.hid (PlV.sput HD10.out ho11 HX10.out)
        have HR11 := Lib.hid (HR10.out.only HD10.out ho11)
        have HB11 := Lib.hid (only_base HB10.out ho11 HP9.out.low.1 HP9.out.low.2.1 HP9.out.low.2.2.1)
        have HD11 := Lib.hid hd11
        clear hd11 ho11 HRD
        obtain ⟨⟨g0, gf0⟩, ⟨g1, gf1⟩, ⟨g2, gf2⟩, ⟨g3, gf3⟩⟩ := mem4 HX11.out
        have hz0 : X < w11.heap.size := HX11.out.lt
        have HRC := Lib.hid (rcrash_any _ sz bs du (-1) (.slice none 0 0) [] w11 HR11.out ⟨none, 0, rfl, fun i hi => by simp at hi⟩ (by simp) (by omega) HBL.out HL.out)
        go_wp2_with fail
        refine HRC.out.mono ?_
        rintro e w12 ⟨v12, rfl, hr12, hb12⟩
        obtain ⟨b1, b2, b3, d1, d2, d3, rfl, -, hn12, -⟩ := hr12
        have HRR := Lib.hid (rread_ok b1 b2 b3 d1 d2 d3 sz (-1) _ 0 sz w12 hn12 (by omega) (by omega) (by omega) (by omega) (by omega))
        have HB12 := Lib.hid (belowThen HB11.out hb12)
        have HD12 := Lib.hid (HD11.out.below hb12)
        clear hb12 hn12 HRC hz0 g0 gf0 g1 gf1 g2 gf2 g3 gf3
        go_wp2_with fail
        refine HRR.out.mono ?_
        rintro e w13 ⟨rfl, hb13⟩
        have HB13 := Lib.hid (belowThen HB12.out hb13)
        have HLS := Lib.hid (loose_any (HD12.out.below hb13) (by omega))
        clear hb13 HRR
        go_wp2_with fail
        refine HLS.out.mono ?_
        rintro e w14 ⟨v14, ss, rfl, hp14, -, hv14, hb14⟩
        obtain rfl := hv14.2 (intKeys_none hp14)
        clear hv14 hp14
        go_wp2_with fail
        go_ret
        exact ⟨rfl, belowThen HB13.out hb14⟩
end Go.Proofs.Ytjmmbafpiahhiaa

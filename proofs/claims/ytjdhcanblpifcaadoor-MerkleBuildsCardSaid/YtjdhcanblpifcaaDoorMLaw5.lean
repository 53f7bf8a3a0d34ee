/-
  MerkleBuilds.
-/
import Derived.Test.YtjdhcanblpifcaaDoorMRef6
import Derived.Test.YtjdhcanblpifcaaDoorMLaw1
import Derived.Test.YtjdhcanblpifcaaDoorMLaw4
namespace Go.Proofs.YtjdhcanblpifcaaDoor
open Go.RowKit Crv

theorem ofTxt (k : Nat) (hk : k < 256) (x : List UInt8) (hx : x.length ≤ 1000000) (W : World) (hc : Consts (W.alloc (.cells #[tx x] 9))) : Calls Tryd.prog 18 #[.int .i64 (k : Int), .slice (some ⟨W.heap.size, 0, none⟩) 1 1] (W.alloc (.cells #[tx x] 9)) fun e w' => e = .returned (.agg ((oidOf k x).map byteV).toArray) ∧ Below (W.alloc (.cells #[tx x] 9)).heap.size (W.alloc (.cells #[tx x] 9)) w' := by
  have h := ofOid_any k hk (.slice (some ⟨W.heap.size, 0, none⟩) 1 1) [x] (W.alloc (.cells #[tx x] 9)) hc (StrSlice.new (w := W) (t := 9) [x] 1) (by simp) (by simpa using hx)
  rw [show [x].flatten = x from by simp] at h
  exact h
theorem length_txtN (lv : Nat) (g : List Pt) (hlv : lv ≤ 100) (hg : g.length ≤ 8) (h : ∀ p ∈ g, p.1.length = 32 ∧ p.2 < 9223372036854775808) : (txtN (lv : Int) g).length ≤ 1000 := by
  unfold txtN
  have h1 := length_numOf (n := nat0 (lv : Int)) (by unfold nat0; omega)
  have h2 := length_numOf (n := g.length) (by omega)
  have h3 := length_flatTxt g h
  rw [List.length_append, List.length_append]
  omega
theorem mem_bO {ps : List Pt} (hn : ∀ p ∈ ps, p.1.length = 32) (hs : ∀ p ∈ ps, 1 ≤ p.2 ∧ p.2 ≤ 256) : ∀ k, k ≤ 4 → ∀ o ∈ bO ps k, ∃ t, o = mkOb 2 t ∧ t.length ≤ 1000
  | 0, _ => by simp [bO]
  | k + 1, hk => by
    intro o ho
    rw [bO] at ho
    rcases List.mem_append.1 ho with ho | ho
    · exact mem_bO hn hs k (by omega) o ho
    · obtain ⟨g, hg, rfl⟩ := List.mem_map.1 ho
      obtain ⟨g1, g2, g3⟩ := grp_mem _ (bP ps k) (Nat.le_refl _) g hg
      refine ⟨_, rfl, length_txtN (k + 1) g (by omega) g2 (fun p hp => ⟨bP_names hn k p (g3 p hp), ?_⟩)⟩
      have h1 := bP_sizes hs k p (g3 p hp)
      have h2 : 256 * 8 ^ k ≤ 256 * 8 ^ 4 := Nat.mul_le_mul_left _ (Nat.pow_le_pow_right (by omega) (by omega))
      have h3 : 256 * 8 ^ 4 = 1048576 := by decide
      omega
theorem mem_allObs {cs : List (List UInt8)} (h : chkC cs = 0) (hn : cs.length ≤ 1000) : ∀ o ∈ allObs cs, ∃ k t, (k = 1 ∨ k = 2) ∧ o = mkOb k t ∧ t.length ≤ 1000 := by
  obtain ⟨h1, h2, h3⟩ := chkC_zero h
  intro o ho
  unfold allObs at ho
  rcases List.mem_append.1 ho with ho | ho
  · obtain ⟨c, hc, rfl⟩ := List.mem_map.1 ho
    exact ⟨1, c, .inl rfl, rfl, by have := (h2 c hc).2; omega⟩
  · obtain ⟨t, rfl, ht⟩ := mem_bO (chunkPts_names cs) (chunkPts_sizes h2) _ (depthOf_le 3 cs.length (by omega)) o ho
    exact ⟨2, t, .inr rfl, rfl, ht⟩
/-- What the loop of MerkleBuilds reads. -/
def BLW (w : World) (os : List Ob) (p : Pt) (vo vr : Value) (b6 b9 : Nat) (W : World) : Prop := Rd W 34 vo (os.map obCs) ∧ Rd W 3 vr (os.map robC) ∧ Mem W b6 Tpt (ptC p) ∧ Mem W b9 Trp (rpC p) ∧ Below w.heap.size w W
theorem BLW.below {w : World} {os : List Ob} {p : Pt} {vo vr : Value} {b6 b9 : Nat} {W W' : World} (h : BLW w os p vo vr b6 b9 W) (hb : Below W.heap.size W W') : BLW w os p vo vr b6 b9 W' := ⟨h.1.below hb, h.2.1.below hb, h.2.2.1.below hb h.2.2.1.lt, h.2.2.2.1.below hb h.2.2.2.1.lt, belowThen h.2.2.2.2 hb⟩
/-- What a round reads. -/
def B10 (w : World) (os : List Ob) (p : Pt) (vo vr : Value) (b6 b9 bx bo k : Nat) (x t : List UInt8) (W : World) : Prop := BLW w os p vo vr b6 b9 W ∧ Mem W bx Tob (obC k x t) ∧ Mem W bo Trob [.int .i64 (k : Int), .string (str x), .string (str t)]
theorem B10.below {w : World} {os : List Ob} {p : Pt} {vo vr : Value} {b6 b9 bx bo k : Nat} {x t : List UInt8} {W W' : World} (h : B10 w os p vo vr b6 b9 bx bo k x t W) (hb : Below W.heap.size W W') : B10 w os p vo vr b6 b9 bx bo k x t W' := ⟨h.1.below hb, h.2.1.below hb h.2.1.lt, h.2.2.below hb h.2.2.lt⟩
set_option maxRecDepth 100000 in
set_option maxHeartbeats 1000000 in
theorem builds_ok (v : Value) (ls : List (List UInt8)) (n : Int) (w : World) (hc : Consts w) (hv : Txs w v ls) (h1 : -9223372036854775808 ≤ n) (h2 : n < 9223372036854775808) (h0 : chkC (chunksOf ls (max 0 (min n 12)).toNat) = 0) :
    Calls Tryd.prog 4 #[v, .int .i64 n] w fun e w' => e = .returned (.bool true) ∧ Below w.heap.size w w' := by
  have HC := Lib.hid hc
  have HCH := Lib.hid (chunks_any v ls n w hv h1 h2)
  obtain ⟨av, cv, rfl, -⟩ := hv
  have hcl : (chunksOf ls (max 0 (min n 12)).toNat).length ≤ 1000 := by
    have := length_chunksOf ls (max 0 (min n 12)).toNat
    omega
  obtain ⟨cs, hcs⟩ : ∃ c, c = chunksOf ls (max 0 (min n 12)).toNat := ⟨_, rfl⟩
  rw [← hcs] at HCH hcl h0
  obtain ⟨r1, r2, -⟩ := root_is h0 hcl
  have HMEM := Lib.hid (mem_allObs h0 hcl)
  have HBD := Lib.hid (fun (u : Value) (W : World) (hc : Consts W) (hu : Txs W u cs) => build_any u cs W hc hu hcl h0)
  have HRB := Lib.hid (fun (u : Value) (W : World) (hu : Txs W u cs) => rbuild_any u cs W hu hcl)
  have e1 : rbP cs = rpC (rootPt cs) := by unfold rbP; rw [if_pos h0]
  have e2 : rbO cs = allObs cs := by unfold rbO; rw [if_pos h0]
  have hR := length_oidOf 2 (topTxt cs)
  obtain ⟨R, hRe⟩ : ∃ t, t = oidOf 2 (topTxt cs) := ⟨_, rfl⟩
  rw [← hRe] at r1 hR
  have hz : (sumC cs : Int) ≤ 1000000 := by have := (chkC_zero h0).2.2; omega
  obtain ⟨z, hze⟩ : ∃ z, z = (sumC cs : Int) := ⟨_, rfl⟩
  rw [← hze] at r1 hz
  rw [e1, e2, h0, r1, show (rpC (R, z)).toArray = #[.string (str R), .int .i64 z] from rfl] at HRB
  rw [r1] at HBD
  have hall : (allObs cs).length ≤ 10000 := by
    have h1 := length_allObs cs
    have h2 := (nodesTo_le cs.length hcl (depthOf cs.length)).1
    have h3 : depthOf cs.length ≤ 4 := depthOf_le 3 cs.length (by omega)
    omega
  obtain ⟨os, hos⟩ : ∃ o, o = allObs cs := ⟨_, rfl⟩
  rw [← hos] at HBD HRB HMEM hall
  have HRE := Lib.hid hR
  have SZP := Lib.hid (sz_pt (R, z) hR)
  have HZ := Lib.hid (show (List.replicate 32 (byteV 0) ++ [Value.int .i64 0]).length = (ptC (R, z)).length by rw [length_ptC (R, z) hR]; rfl)
  have ONE := Lib.hid (one_ptC (R, z))
  clear hc h1 h2 h0 hcs r1 r2 e1 e2 hR hRe hze hos
  go_enter Tryd.func4, Tryd.ntmps4
  go_wp2_with fail
  refine HCH.out.mono ?_
  rintro e w1 ⟨vc, rfl, hck⟩
  have HTX := Lib.hid (Txs.of_owns hck.1)
  have HB1 := Lib.hid hck.2
  obtain ⟨ac, cc, hvc, -, -, -⟩ := hck.1.form
  rw [List.length_map] at hvc
  subst hvc
  clear hck HCH
  go_wp2_with fail
  refine (HBD.out _ _ (HC.out.below HB1.out) HTX.out).mono ?_
  rintro e w2 ⟨vo, rfl, hro, hb2⟩
  obtain ⟨ao, co, hvo, hco, -⟩ := hro.rd
  rw [List.length_map] at hvo hco
  subst hvo
  have HRO := Lib.hid hro.rd
  have HB2 := Lib.hid hb2
  clear hro hb2 HBD
  go_wp2_with (first
    | (refine wp_store_gen (B := w2.heap.size) (w0 := w2) (belowSelf w2 _) (Nat.le_refl _) (Mem.newAt w2 Tpt (List.replicate 32 (byteV 0) ++ [.int .i64 0]) rfl) (ptC (R, z)) Tpt (.tmp 6) (.tmp 21) rfl rfl rfl rfl SZP.out HZ.out ONE.out ?_
       intro W3 hm3 hb3 hz3 hk3
       have HM3 := Lib.hid hm3
       have HB3 := Lib.hid hb3
       have HTX3 := Lib.hid (HTX.out.below (belowThen HB2.out hb3))
       clear hm3 hb3 hz3 hk3)
    | fail)
  refine (HRB.out _ _ HTX3.out).mono ?_
  rintro e w4 ⟨vr, rfl, hrr, hb4⟩
  obtain ⟨ar, cr, hvr, hcr, -⟩ := hrr.rd
  rw [List.length_map] at hvr hcr
  subst hvr
  have HL0 := Lib.hid (show BLW w os (R, z) (.slice ao os.length co) (.slice ar os.length cr) w2.heap.size w4.heap.size (w4.alloc (.cells #[.string (str R), .int .i64 z] Trp)) from
    ⟨(HRO.out.below (belowThen HB3.out hb4)).below (belowSelf _ _), hrr.rd.below (belowSelf _ _), (HM3.out.below hb4 HM3.out.lt).alloc _, Mem.new w4 Trp [.string (str R), .int .i64 z], belowThen (belowThen (belowThen HB1.out HB2.out) (belowThen HB3.out hb4)) (belowSelf _ _)⟩)
  have HAW := Lib.hid (awake9_any (w4.alloc (.cells #[.string (str R), .int .i64 z] Trp)) (HC.out.below HL0.out.2.2.2.2))
  clear hrr hb4 HRB HRO HTX3 HTX
  go_wp2_with fail
  refine HAW.out.mono ?_
  rintro e w5 ⟨rfl, hb5⟩
  have HL5 := Lib.hid (HL0.out.below hb5)
  clear hb5 HAW HL0
  go_wp2_with fail
  go_loopw [46] (fun i wx => ∃ k : Nat, k ≤ os.length ∧ i = .int .i64 k ∧ Hid (BLW w os (R, z) (.slice ao os.length co) (.slice ar os.length cr) w2.heap.size w4.heap.size wx)) (fun i _ => os.length - (intOf i).toNat)
  case atStart => exact ⟨0, by omega, rfl, HL5⟩
  case round =>
    clear HL5
    obtain ⟨k, hk, rfl, HL⟩ := hrel
    by_cases hlt : k < os.length
    · have hdk : decide (k < os.length) = true := by simpa using hlt
      obtain ⟨kd, t, hkd, hot, htl⟩ := HMEM.out _ (List.getElem_mem hlt)
      obtain ⟨a', cap', hv', -, hc'⟩ := HL.out.1
      injection hv' with e1 e2 e3
      obtain ⟨g, off, ha, hgl, hrn⟩ := hc' k (by rw [List.length_map]; exact hlt)
      rw [← e1] at ha
      subst ha
      rw [List.getElem_map, hot] at hrn
      clear e1 e2 e3 hc'
      obtain ⟨a', cap', hv', -, hc'⟩ := HL.out.2.1
      injection hv' with e1 e2 e3
      obtain ⟨g2, off2, ha, hgl2, hrn2⟩ := hc' k (by rw [List.length_map]; exact hlt)
      rw [← e1] at ha
      subst ha
      rw [List.getElem_map, hot] at hrn2
      rw [show obCs (mkOb kd t) = obC kd (oidOf kd t) t from rfl] at hrn
      have x32 := length_oidOf kd t
      have HOF := Lib.hid (fun (W : World) hc => ofTxt kd (by omega) t (by omega) W hc)
      have HBY := Lib.hid (fun W => bytes_any (oidOf kd t) W x32)
      rw [show robC (mkOb kd t) = [.int .i64 (kd : Int), .string (str (oidOf kd t)), .string (str t)] from rfl] at hrn2
      obtain ⟨x, hx⟩ : ∃ x, x = oidOf kd t := ⟨_, rfl⟩
      rw [← hx] at hrn hrn2 x32 HOF HBY
      have k0 : wr.cell? ⟨g2, off2 + k * 3, none⟩ = some (.int .i64 (kd : Int)) := hrn2 0 _ rfl
      have k1 : wr.cell? ⟨g2, off2 + k * 3 + 1, none⟩ = some (.string (str x)) := hrn2 1 _ rfl
      have k2 : wr.cell? ⟨g2, off2 + k * 3 + 2, none⟩ = some (.string (str t)) := hrn2 2 _ rfl
      have HRN := Lib.hid hrn
      have SZO := Lib.hid (sz_ob kd x t x32)
      have ONEO := Lib.hid (one_obC kd x t)
      have HLN := Lib.hid (show (Value.int .i64 0 :: (List.replicate 32 (byteV 0) ++ [Value.string ⟨#[]⟩])).length = (obC kd x t).length by rw [length_obC kd x t x32]; rfl)
      have HX32 := Lib.hid x32
      obtain ⟨W6, hW6⟩ : ∃ W, W = wr.alloc (.cells #[.int .i64 (kd : Int), .string (str x), .string (str t)] Trob) := ⟨_, rfl⟩
      have HB6 := Lib.hid (show Below wr.heap.size wr W6 by rw [hW6]; exact belowSelf wr _)
      have HM6 := Lib.hid (show Mem W6 wr.heap.size Trob [.int .i64 (kd : Int), .string (str x), .string (str t)] by rw [hW6]; exact Mem.new wr _ _)
      have HRN6 := Lib.hid (show W6.rangeAt g (off + k * 34) (obC kd x t) from fun j u hu => (HB6.out.cell (p := ⟨g, off + k * 34 + j, none⟩) hgl).trans (HRN.out j u hu))
      have hz6 : W6.heap.size = wr.heap.size + 1 := by rw [hW6]; simp
      have HWW6 := Lib.hid hW6
      have HZ6 := Lib.hid hz6
      subst hW6
      clear e1 e2 e3 hc' hx hrn hrn2 hot x32 hz6 HWW6 HZ6
      go_wp2_with (first
        | (refine wp_load_row HRN6.out Tob (.tmp 53) _ rfl rfl rfl Tryd.underlying55 rfl SZO.out ?_)
        | (refine wp_store_gen (B := (wr.alloc (.cells #[.int .i64 (kd : Int), .string (str x), .string (str t)] Trob)).heap.size) (w0 := wr.alloc (.cells #[.int .i64 (kd : Int), .string (str x), .string (str t)] Trob)) (belowSelf _ _) (by simp) (Mem.newAt (wr.alloc (.cells #[.int .i64 (kd : Int), .string (str x), .string (str t)] Trob)) Tob (Value.int .i64 0 :: (List.replicate 32 (byteV 0) ++ [Value.string ⟨#[]⟩])) (g := wr.heap.size + 1) (by simp)) (obC kd x t) Tob (.tmp 14) (.tmp 54) rfl rfl rfl rfl SZO.out HLN.out ONEO.out ?_
           intro W7 hm7 hb7 hz7 hk7
           have HB10 := Lib.hid (show B10 w os (R, z) (.slice (some ⟨g, off, none⟩) os.length co) (.slice (some ⟨g2, off2, none⟩) os.length cr) w2.heap.size w4.heap.size (wr.heap.size + 1) wr.heap.size kd x t W7 from ⟨HL.out.below (belowThen HB6.out hb7), hm7, HM6.out.below hb7 HM6.out.lt⟩)
           clear hm7 hb7 hz7 hk7)
        | fail)
      clear HB6 HM6 HRN6 HRN k0 k1 k2
-- BEGIN1
      have HS0 := Lib.hid (show B10 w os (R, z) (.slice (some ⟨g, off, none⟩) os.length co) (.slice (some ⟨g2, off2, none⟩) os.length cr) w2.heap.size w4.heap.size (wr.heap.size + 1) wr.heap.size kd x t W7.drew from B10.below HB10.out (below_drewN (Below.refl _ _) 1))
      have H33 := Lib.hid (show (obC kd x t)[33]? = some (.string (str t)) by simp [obC, HX32.out])
      have SZX := Lib.hid (sz_id x HX32.out)
      have heX : ∀ W, (binOp .neq TI (.agg (x.map byteV).toArray) (.agg (x.map byteV).toArray)).run Tryd.prog W = .ok (.bool false) W := fun W => by
        rw [run_neq_bytes (P := Tryd.prog) TI 5 32 Tryd.underlying41 Tryd.underlying5 (by kernel_rfl) x x HX32.out HX32.out W]; simp
      refine wp_region_held_drew (S := B10 w os (R, z) (.slice (some ⟨g, off, none⟩) os.length co) (.slice (some ⟨g2, off2, none⟩) os.length cr) w2.heap.size w4.heap.size (wr.heap.size + 1) wr.heap.size kd x t) (by kernel_rfl) HS0.out (fun hHeld => ?_)
      refine wpAnyH_take (i := 0) (oi := { dst := some 55, op := Op.fieldAddr 55 (Operand.tmp 14) 0, type := 0, pos := "law.go:103", after := #[], guard := none }) (v := .pointer (some ⟨wr.heap.size + 1, 0, none⟩)) rfl (by kernel_rfl) (by kernel_rfl) (by kernel_rfl) (fun _ _ _ h => h) (Or.inl ⟨by rfl, ?_⟩) hHeld ?_
      · intro w' hSw
        obtain ⟨-, z2, z3⟩ := hSw
        have y0 : w'.cell? ⟨wr.heap.size, 0, none⟩ = some (.int .i64 (kd : Int)) := z3.cell 0
        have y1 : w'.cell? ⟨wr.heap.size, 1, none⟩ = some (.string (str x)) := z3.cell 1
        have y2 : w'.cell? ⟨wr.heap.size, 2, none⟩ = some (.string (str t)) := z3.cell 2
        have x0 : w'.cell? ⟨wr.heap.size + 1, 0, none⟩ = some (.int .i64 (kd : Int)) := z2.cell 0
        have x33 : w'.cell? ⟨wr.heap.size + 1, 33, none⟩ = some (.string (str t)) := (z2.cell 33).trans H33.out
        clear z2 z3
        go_simp
      simp only [Act.put, List.setIfInBounds_toArray, List.set_cons_zero, List.set_cons_succ]
      refine wpAnyH_take (i := 1) (oi := { dst := some 56, op := Op.load 3 (Operand.tmp 55), type := 3, pos := "law.go:103", after := #[{ on := 0, ground := Ground.data }], guard := none }) (v := .int .i64 (kd : Int)) rfl (by kernel_rfl) (by kernel_rfl) (by kernel_rfl) (fun _ _ _ h => h) (Or.inl ⟨by rfl, ?_⟩) hHeld ?_
      · intro w' hSw
        obtain ⟨-, z2, z3⟩ := hSw
        have y0 : w'.cell? ⟨wr.heap.size, 0, none⟩ = some (.int .i64 (kd : Int)) := z3.cell 0
        have y1 : w'.cell? ⟨wr.heap.size, 1, none⟩ = some (.string (str x)) := z3.cell 1
        have y2 : w'.cell? ⟨wr.heap.size, 2, none⟩ = some (.string (str t)) := z3.cell 2
        have x0 : w'.cell? ⟨wr.heap.size + 1, 0, none⟩ = some (.int .i64 (kd : Int)) := z2.cell 0
        have x33 : w'.cell? ⟨wr.heap.size + 1, 33, none⟩ = some (.string (str t)) := (z2.cell 33).trans H33.out
        clear z2 z3
        go_simp
      simp only [Act.put, List.setIfInBounds_toArray, List.set_cons_zero, List.set_cons_succ]
      refine wpAnyH_take (i := 2) (oi := { dst := some 57, op := Op.fieldAddr 53 (Operand.tmp 13) 0, type := 0, pos := "law.go:103", after := #[], guard := none }) (v := .pointer (some ⟨wr.heap.size, 0, none⟩)) rfl (by kernel_rfl) (by kernel_rfl) (by kernel_rfl) (fun _ _ _ h => h) (Or.inl ⟨by rfl, ?_⟩) hHeld ?_
      · intro w' hSw
        obtain ⟨-, z2, z3⟩ := hSw
        have y0 : w'.cell? ⟨wr.heap.size, 0, none⟩ = some (.int .i64 (kd : Int)) := z3.cell 0
        have y1 : w'.cell? ⟨wr.heap.size, 1, none⟩ = some (.string (str x)) := z3.cell 1
        have y2 : w'.cell? ⟨wr.heap.size, 2, none⟩ = some (.string (str t)) := z3.cell 2
        have x0 : w'.cell? ⟨wr.heap.size + 1, 0, none⟩ = some (.int .i64 (kd : Int)) := z2.cell 0
        have x33 : w'.cell? ⟨wr.heap.size + 1, 33, none⟩ = some (.string (str t)) := (z2.cell 33).trans H33.out
        clear z2 z3
        go_simp
      simp only [Act.put, List.setIfInBounds_toArray, List.set_cons_zero, List.set_cons_succ]
      refine wpAnyH_take (i := 3) (oi := { dst := some 58, op := Op.load 3 (Operand.tmp 57), type := 3, pos := "law.go:103", after := #[{ on := 2, ground := Ground.data }], guard := none }) (v := .int .i64 (kd : Int)) rfl (by kernel_rfl) (by kernel_rfl) (by kernel_rfl) (fun _ _ _ h => h) (Or.inl ⟨by rfl, ?_⟩) hHeld ?_
      · intro w' hSw
        obtain ⟨-, z2, z3⟩ := hSw
        have y0 : w'.cell? ⟨wr.heap.size, 0, none⟩ = some (.int .i64 (kd : Int)) := z3.cell 0
        have y1 : w'.cell? ⟨wr.heap.size, 1, none⟩ = some (.string (str x)) := z3.cell 1
        have y2 : w'.cell? ⟨wr.heap.size, 2, none⟩ = some (.string (str t)) := z3.cell 2
        have x0 : w'.cell? ⟨wr.heap.size + 1, 0, none⟩ = some (.int .i64 (kd : Int)) := z2.cell 0
        have x33 : w'.cell? ⟨wr.heap.size + 1, 33, none⟩ = some (.string (str t)) := (z2.cell 33).trans H33.out
        clear z2 z3
        go_simp
      simp only [Act.put, List.setIfInBounds_toArray, List.set_cons_zero, List.set_cons_succ]
      refine wpAnyH_take (i := 4) (oi := { dst := some 59, op := Op.binOp BinOp.neq 3 (Operand.tmp 56) (Operand.tmp 58) 3, type := 4, pos := "law.go:103", after := #[{ on := 1, ground := Ground.data }, { on := 3, ground := Ground.data }], guard := none }) (v := .bool false) rfl (by kernel_rfl) (by kernel_rfl) (by kernel_rfl) (fun _ _ _ h => h) (Or.inl ⟨by rfl, ?_⟩) hHeld ?_
      · intro w' hSw
        obtain ⟨-, z2, z3⟩ := hSw
        have y0 : w'.cell? ⟨wr.heap.size, 0, none⟩ = some (.int .i64 (kd : Int)) := z3.cell 0
        have y1 : w'.cell? ⟨wr.heap.size, 1, none⟩ = some (.string (str x)) := z3.cell 1
        have y2 : w'.cell? ⟨wr.heap.size, 2, none⟩ = some (.string (str t)) := z3.cell 2
        have x0 : w'.cell? ⟨wr.heap.size + 1, 0, none⟩ = some (.int .i64 (kd : Int)) := z2.cell 0
        have x33 : w'.cell? ⟨wr.heap.size + 1, 33, none⟩ = some (.string (str t)) := (z2.cell 33).trans H33.out
        clear z2 z3
        go_simp
      simp only [Act.put, List.setIfInBounds_toArray, List.set_cons_zero, List.set_cons_succ]
      refine wpAnyH_take (i := 5) (oi := { dst := some 60, op := Op.move (Operand.tmp 59), type := 4, pos := "law.go:103", after := #[{ on := 4, ground := Ground.data }], guard := none }) (v := .bool false) rfl (by kernel_rfl) (by kernel_rfl) (by kernel_rfl) (fun _ _ _ h => h) (Or.inl ⟨by rfl, ?_⟩) hHeld ?_
      · intro w' hSw
        obtain ⟨-, z2, z3⟩ := hSw
        have y0 : w'.cell? ⟨wr.heap.size, 0, none⟩ = some (.int .i64 (kd : Int)) := z3.cell 0
        have y1 : w'.cell? ⟨wr.heap.size, 1, none⟩ = some (.string (str x)) := z3.cell 1
        have y2 : w'.cell? ⟨wr.heap.size, 2, none⟩ = some (.string (str t)) := z3.cell 2
        have x0 : w'.cell? ⟨wr.heap.size + 1, 0, none⟩ = some (.int .i64 (kd : Int)) := z2.cell 0
        have x33 : w'.cell? ⟨wr.heap.size + 1, 33, none⟩ = some (.string (str t)) := (z2.cell 33).trans H33.out
        clear z2 z3
        go_simp
      simp only [Act.put, List.setIfInBounds_toArray, List.set_cons_zero, List.set_cons_succ]
      refine wpAnyH_take (i := 6) (oi := { dst := some 61, op := Op.fieldAddr 55 (Operand.tmp 14) 1, type := 0, pos := "law.go:103", after := #[{ on := 5, ground := Ground.guard }], guard := some (5, false) }) (v := .pointer (some ⟨wr.heap.size + 1, 1, none⟩)) rfl (by kernel_rfl) (by kernel_rfl) (by kernel_rfl) (fun _ _ _ h => h) (Or.inl ⟨by rfl, ?_⟩) hHeld ?_
      · intro w' hSw
        obtain ⟨-, z2, z3⟩ := hSw
        have y0 : w'.cell? ⟨wr.heap.size, 0, none⟩ = some (.int .i64 (kd : Int)) := z3.cell 0
        have y1 : w'.cell? ⟨wr.heap.size, 1, none⟩ = some (.string (str x)) := z3.cell 1
        have y2 : w'.cell? ⟨wr.heap.size, 2, none⟩ = some (.string (str t)) := z3.cell 2
        have x0 : w'.cell? ⟨wr.heap.size + 1, 0, none⟩ = some (.int .i64 (kd : Int)) := z2.cell 0
        have x33 : w'.cell? ⟨wr.heap.size + 1, 33, none⟩ = some (.string (str t)) := (z2.cell 33).trans H33.out
        clear z2 z3
        go_simp
      simp only [Act.put, List.setIfInBounds_toArray, List.set_cons_zero, List.set_cons_succ]
      refine wpAnyH_take (i := 7) (oi := { dst := some 62, op := Op.load 41 (Operand.tmp 61), type := 41, pos := "law.go:103", after := #[{ on := 6, ground := Ground.data }, { on := 5, ground := Ground.guard }], guard := some (5, false) }) (v := _) rfl (by kernel_rfl) (by kernel_rfl) (by kernel_rfl) (fun _ _ _ h => h) (yieldsIf_load_mid (by rfl) TI (.tmp 61) rfl (wr.heap.size + 1) (1) rfl (x.map byteV) (.array 32 5) (fun w hS => fun j u hu => by have := (hS.2.1.cell (1 + j)).trans (show (obC kd x t)[1 + j]? = some u by unfold obC; rw [Nat.add_comm 1 j, List.getElem?_cons_succ, List.getElem?_append_left (List.getElem?_eq_some_iff.1 hu).1]; exact hu); exact this) Tryd.underlying41 rfl SZX.out) hHeld ?_
      simp only [Act.put, List.setIfInBounds_toArray, List.set_cons_zero, List.set_cons_succ]
      refine wpAnyH_take (i := 9) (oi := { dst := some 64, op := Op.fieldAddr 53 (Operand.tmp 13) 1, type := 0, pos := "law.go:103", after := #[{ on := 5, ground := Ground.guard }], guard := some (5, false) }) (v := .pointer (some ⟨wr.heap.size, 1, none⟩)) rfl (by kernel_rfl) (by kernel_rfl) (by kernel_rfl) (fun _ _ _ h => h) (Or.inl ⟨by rfl, ?_⟩) hHeld ?_
      · intro w' hSw
        obtain ⟨-, z2, z3⟩ := hSw
        have y0 : w'.cell? ⟨wr.heap.size, 0, none⟩ = some (.int .i64 (kd : Int)) := z3.cell 0
        have y1 : w'.cell? ⟨wr.heap.size, 1, none⟩ = some (.string (str x)) := z3.cell 1
        have y2 : w'.cell? ⟨wr.heap.size, 2, none⟩ = some (.string (str t)) := z3.cell 2
        have x0 : w'.cell? ⟨wr.heap.size + 1, 0, none⟩ = some (.int .i64 (kd : Int)) := z2.cell 0
        have x33 : w'.cell? ⟨wr.heap.size + 1, 33, none⟩ = some (.string (str t)) := (z2.cell 33).trans H33.out
        clear z2 z3
        go_simp
      simp only [Act.put, List.setIfInBounds_toArray, List.set_cons_zero, List.set_cons_succ]
      refine wpAnyH_take (i := 10) (oi := { dst := some 65, op := Op.load 9 (Operand.tmp 64), type := 9, pos := "law.go:103", after := #[{ on := 9, ground := Ground.data }, { on := 5, ground := Ground.guard }], guard := some (5, false) }) (v := .string (str x)) rfl (by kernel_rfl) (by kernel_rfl) (by kernel_rfl) (fun _ _ _ h => h) (Or.inl ⟨by rfl, ?_⟩) hHeld ?_
      · intro w' hSw
        obtain ⟨-, z2, z3⟩ := hSw
        have y0 : w'.cell? ⟨wr.heap.size, 0, none⟩ = some (.int .i64 (kd : Int)) := z3.cell 0
        have y1 : w'.cell? ⟨wr.heap.size, 1, none⟩ = some (.string (str x)) := z3.cell 1
        have y2 : w'.cell? ⟨wr.heap.size, 2, none⟩ = some (.string (str t)) := z3.cell 2
        have x0 : w'.cell? ⟨wr.heap.size + 1, 0, none⟩ = some (.int .i64 (kd : Int)) := z2.cell 0
        have x33 : w'.cell? ⟨wr.heap.size + 1, 33, none⟩ = some (.string (str t)) := (z2.cell 33).trans H33.out
        clear z2 z3
        go_simp
      simp only [Act.put, List.setIfInBounds_toArray, List.set_cons_zero, List.set_cons_succ]
      refine wpAnyH_ready (rs := [8]) (by kernel_rfl) (by simp) (AllReadyH.cons rfl (fun K hK => ?_) AllReadyH.nil)
      go_simp
      refine (HBY.out _).mono ?_
      rintro e w8 ⟨rfl, hb8⟩
      dsimp only
      have HS1 := Lib.hid (HS0.out.below hb8)
      refine hK.out _ _ HS1.out (fun hH1 => ?_)
      clear hK K hb8
      refine wpAnyH_take (i := 11) (oi := { dst := some 66, op := Op.binOp BinOp.neq 9 (Operand.tmp 63) (Operand.tmp 65) 9, type := 4, pos := "law.go:103", after := #[{ on := 8, ground := Ground.data }, { on := 10, ground := Ground.data }, { on := 5, ground := Ground.guard }], guard := some (5, false) }) (v := .bool false) rfl (by kernel_rfl) (by kernel_rfl) (by kernel_rfl) (fun _ _ _ h => h) (Or.inl ⟨by rfl, ?_⟩) hH1 ?_
      · intro w' hSw
        obtain ⟨-, z2, z3⟩ := hSw
        have y0 : w'.cell? ⟨wr.heap.size, 0, none⟩ = some (.int .i64 (kd : Int)) := z3.cell 0
        have y1 : w'.cell? ⟨wr.heap.size, 1, none⟩ = some (.string (str x)) := z3.cell 1
        have y2 : w'.cell? ⟨wr.heap.size, 2, none⟩ = some (.string (str t)) := z3.cell 2
        have x0 : w'.cell? ⟨wr.heap.size + 1, 0, none⟩ = some (.int .i64 (kd : Int)) := z2.cell 0
        have x33 : w'.cell? ⟨wr.heap.size + 1, 33, none⟩ = some (.string (str t)) := (z2.cell 33).trans H33.out
        clear z2 z3
        go_simp
      simp only [Act.put, List.setIfInBounds_toArray, List.set_cons_zero, List.set_cons_succ]
      refine wpAnyH_take (i := 12) (oi := { dst := some 67, op := Op.pick (Operand.tmp 60) (Operand.const (Value.bool true)) (Operand.tmp 66), type := 4, pos := "law.go:103", after := #[{ on := 5, ground := Ground.data }, { on := 11, ground := Ground.data }], guard := none }) (v := .bool false) rfl (by kernel_rfl) (by kernel_rfl) (by kernel_rfl) (fun _ _ _ h => h) (Or.inl ⟨by rfl, ?_⟩) hH1 ?_
      · intro w' hSw
        obtain ⟨-, z2, z3⟩ := hSw
        have y0 : w'.cell? ⟨wr.heap.size, 0, none⟩ = some (.int .i64 (kd : Int)) := z3.cell 0
        have y1 : w'.cell? ⟨wr.heap.size, 1, none⟩ = some (.string (str x)) := z3.cell 1
        have y2 : w'.cell? ⟨wr.heap.size, 2, none⟩ = some (.string (str t)) := z3.cell 2
        have x0 : w'.cell? ⟨wr.heap.size + 1, 0, none⟩ = some (.int .i64 (kd : Int)) := z2.cell 0
        have x33 : w'.cell? ⟨wr.heap.size + 1, 33, none⟩ = some (.string (str t)) := (z2.cell 33).trans H33.out
        clear z2 z3
        go_simp
      simp only [Act.put, List.setIfInBounds_toArray, List.set_cons_zero, List.set_cons_succ]
      refine wpAnyH_take (i := 13) (oi := { dst := some 68, op := Op.move (Operand.tmp 67), type := 4, pos := "law.go:103", after := #[{ on := 12, ground := Ground.data }, { on := 8, ground := Ground.chain }], guard := none }) (v := .bool false) rfl (by kernel_rfl) (by kernel_rfl) (by kernel_rfl) (fun _ _ _ h => h) (Or.inl ⟨by rfl, ?_⟩) hH1 ?_
      · intro w' hSw
        obtain ⟨-, z2, z3⟩ := hSw
        have y0 : w'.cell? ⟨wr.heap.size, 0, none⟩ = some (.int .i64 (kd : Int)) := z3.cell 0
        have y1 : w'.cell? ⟨wr.heap.size, 1, none⟩ = some (.string (str x)) := z3.cell 1
        have y2 : w'.cell? ⟨wr.heap.size, 2, none⟩ = some (.string (str t)) := z3.cell 2
        have x0 : w'.cell? ⟨wr.heap.size + 1, 0, none⟩ = some (.int .i64 (kd : Int)) := z2.cell 0
        have x33 : w'.cell? ⟨wr.heap.size + 1, 33, none⟩ = some (.string (str t)) := (z2.cell 33).trans H33.out
        clear z2 z3
        go_simp
      simp only [Act.put, List.setIfInBounds_toArray, List.set_cons_zero, List.set_cons_succ]
      refine wpAnyH_take (i := 14) (oi := { dst := some 69, op := Op.fieldAddr 55 (Operand.tmp 14) 2, type := 0, pos := "law.go:103", after := #[{ on := 13, ground := Ground.guard }], guard := some (13, false) }) (v := .pointer (some ⟨wr.heap.size + 1, 33, none⟩)) rfl (by kernel_rfl) (by kernel_rfl) (by kernel_rfl) (fun _ _ _ h => h) (Or.inl ⟨by rfl, ?_⟩) hH1 ?_
      · intro w' hSw
        obtain ⟨-, z2, z3⟩ := hSw
        have y0 : w'.cell? ⟨wr.heap.size, 0, none⟩ = some (.int .i64 (kd : Int)) := z3.cell 0
        have y1 : w'.cell? ⟨wr.heap.size, 1, none⟩ = some (.string (str x)) := z3.cell 1
        have y2 : w'.cell? ⟨wr.heap.size, 2, none⟩ = some (.string (str t)) := z3.cell 2
        have x0 : w'.cell? ⟨wr.heap.size + 1, 0, none⟩ = some (.int .i64 (kd : Int)) := z2.cell 0
        have x33 : w'.cell? ⟨wr.heap.size + 1, 33, none⟩ = some (.string (str t)) := (z2.cell 33).trans H33.out
        clear z2 z3
        go_simp
      simp only [Act.put, List.setIfInBounds_toArray, List.set_cons_zero, List.set_cons_succ]
      refine wpAnyH_take (i := 15) (oi := { dst := some 70, op := Op.load 9 (Operand.tmp 69), type := 9, pos := "law.go:103", after := #[{ on := 14, ground := Ground.data }, { on := 13, ground := Ground.guard }], guard := some (13, false) }) (v := .string (str t)) rfl (by kernel_rfl) (by kernel_rfl) (by kernel_rfl) (fun _ _ _ h => h) (Or.inl ⟨by rfl, ?_⟩) hH1 ?_
      · intro w' hSw
        obtain ⟨-, z2, z3⟩ := hSw
        have y0 : w'.cell? ⟨wr.heap.size, 0, none⟩ = some (.int .i64 (kd : Int)) := z3.cell 0
        have y1 : w'.cell? ⟨wr.heap.size, 1, none⟩ = some (.string (str x)) := z3.cell 1
        have y2 : w'.cell? ⟨wr.heap.size, 2, none⟩ = some (.string (str t)) := z3.cell 2
        have x0 : w'.cell? ⟨wr.heap.size + 1, 0, none⟩ = some (.int .i64 (kd : Int)) := z2.cell 0
        have x33 : w'.cell? ⟨wr.heap.size + 1, 33, none⟩ = some (.string (str t)) := (z2.cell 33).trans H33.out
        clear z2 z3
        go_simp
      simp only [Act.put, List.setIfInBounds_toArray, List.set_cons_zero, List.set_cons_succ]
      refine wpAnyH_take (i := 16) (oi := { dst := some 71, op := Op.fieldAddr 53 (Operand.tmp 13) 2, type := 0, pos := "law.go:103", after := #[{ on := 13, ground := Ground.guard }], guard := some (13, false) }) (v := .pointer (some ⟨wr.heap.size, 2, none⟩)) rfl (by kernel_rfl) (by kernel_rfl) (by kernel_rfl) (fun _ _ _ h => h) (Or.inl ⟨by rfl, ?_⟩) hH1 ?_
      · intro w' hSw
        obtain ⟨-, z2, z3⟩ := hSw
        have y0 : w'.cell? ⟨wr.heap.size, 0, none⟩ = some (.int .i64 (kd : Int)) := z3.cell 0
        have y1 : w'.cell? ⟨wr.heap.size, 1, none⟩ = some (.string (str x)) := z3.cell 1
        have y2 : w'.cell? ⟨wr.heap.size, 2, none⟩ = some (.string (str t)) := z3.cell 2
        have x0 : w'.cell? ⟨wr.heap.size + 1, 0, none⟩ = some (.int .i64 (kd : Int)) := z2.cell 0
        have x33 : w'.cell? ⟨wr.heap.size + 1, 33, none⟩ = some (.string (str t)) := (z2.cell 33).trans H33.out
        clear z2 z3
        go_simp
      simp only [Act.put, List.setIfInBounds_toArray, List.set_cons_zero, List.set_cons_succ]
      refine wpAnyH_take (i := 17) (oi := { dst := some 72, op := Op.load 9 (Operand.tmp 71), type := 9, pos := "law.go:103", after := #[{ on := 16, ground := Ground.data }, { on := 13, ground := Ground.guard }], guard := some (13, false) }) (v := .string (str t)) rfl (by kernel_rfl) (by kernel_rfl) (by kernel_rfl) (fun _ _ _ h => h) (Or.inl ⟨by rfl, ?_⟩) hH1 ?_
      · intro w' hSw
        obtain ⟨-, z2, z3⟩ := hSw
        have y0 : w'.cell? ⟨wr.heap.size, 0, none⟩ = some (.int .i64 (kd : Int)) := z3.cell 0
        have y1 : w'.cell? ⟨wr.heap.size, 1, none⟩ = some (.string (str x)) := z3.cell 1
        have y2 : w'.cell? ⟨wr.heap.size, 2, none⟩ = some (.string (str t)) := z3.cell 2
        have x0 : w'.cell? ⟨wr.heap.size + 1, 0, none⟩ = some (.int .i64 (kd : Int)) := z2.cell 0
        have x33 : w'.cell? ⟨wr.heap.size + 1, 33, none⟩ = some (.string (str t)) := (z2.cell 33).trans H33.out
        clear z2 z3
        go_simp
      simp only [Act.put, List.setIfInBounds_toArray, List.set_cons_zero, List.set_cons_succ]
      refine wpAnyH_take (i := 18) (oi := { dst := some 73, op := Op.binOp BinOp.neq 9 (Operand.tmp 70) (Operand.tmp 72) 9, type := 4, pos := "law.go:103", after := #[{ on := 15, ground := Ground.data }, { on := 17, ground := Ground.data }, { on := 13, ground := Ground.guard }], guard := some (13, false) }) (v := .bool false) rfl (by kernel_rfl) (by kernel_rfl) (by kernel_rfl) (fun _ _ _ h => h) (Or.inl ⟨by rfl, ?_⟩) hH1 ?_
      · intro w' hSw
        obtain ⟨-, z2, z3⟩ := hSw
        have y0 : w'.cell? ⟨wr.heap.size, 0, none⟩ = some (.int .i64 (kd : Int)) := z3.cell 0
        have y1 : w'.cell? ⟨wr.heap.size, 1, none⟩ = some (.string (str x)) := z3.cell 1
        have y2 : w'.cell? ⟨wr.heap.size, 2, none⟩ = some (.string (str t)) := z3.cell 2
        have x0 : w'.cell? ⟨wr.heap.size + 1, 0, none⟩ = some (.int .i64 (kd : Int)) := z2.cell 0
        have x33 : w'.cell? ⟨wr.heap.size + 1, 33, none⟩ = some (.string (str t)) := (z2.cell 33).trans H33.out
        clear z2 z3
        go_simp
      simp only [Act.put, List.setIfInBounds_toArray, List.set_cons_zero, List.set_cons_succ]
      refine wpAnyH_take (i := 19) (oi := { dst := some 74, op := Op.pick (Operand.tmp 68) (Operand.const (Value.bool true)) (Operand.tmp 73), type := 4, pos := "law.go:103", after := #[{ on := 13, ground := Ground.data }, { on := 18, ground := Ground.data }], guard := none }) (v := .bool false) rfl (by kernel_rfl) (by kernel_rfl) (by kernel_rfl) (fun _ _ _ h => h) (Or.inl ⟨by rfl, ?_⟩) hH1 ?_
      · intro w' hSw
        obtain ⟨-, z2, z3⟩ := hSw
        have y0 : w'.cell? ⟨wr.heap.size, 0, none⟩ = some (.int .i64 (kd : Int)) := z3.cell 0
        have y1 : w'.cell? ⟨wr.heap.size, 1, none⟩ = some (.string (str x)) := z3.cell 1
        have y2 : w'.cell? ⟨wr.heap.size, 2, none⟩ = some (.string (str t)) := z3.cell 2
        have x0 : w'.cell? ⟨wr.heap.size + 1, 0, none⟩ = some (.int .i64 (kd : Int)) := z2.cell 0
        have x33 : w'.cell? ⟨wr.heap.size + 1, 33, none⟩ = some (.string (str t)) := (z2.cell 33).trans H33.out
        clear z2 z3
        go_simp
      simp only [Act.put, List.setIfInBounds_toArray, List.set_cons_zero, List.set_cons_succ]
      refine wpAnyH_take (i := 20) (oi := { dst := some 75, op := Op.move (Operand.tmp 74), type := 4, pos := "law.go:103", after := #[{ on := 19, ground := Ground.data }, { on := 13, ground := Ground.chain }], guard := none }) (v := .bool false) rfl (by kernel_rfl) (by kernel_rfl) (by kernel_rfl) (fun _ _ _ h => h) (Or.inl ⟨by rfl, ?_⟩) hH1 ?_
      · intro w' hSw
        obtain ⟨-, z2, z3⟩ := hSw
        have y0 : w'.cell? ⟨wr.heap.size, 0, none⟩ = some (.int .i64 (kd : Int)) := z3.cell 0
        have y1 : w'.cell? ⟨wr.heap.size, 1, none⟩ = some (.string (str x)) := z3.cell 1
        have y2 : w'.cell? ⟨wr.heap.size, 2, none⟩ = some (.string (str t)) := z3.cell 2
        have x0 : w'.cell? ⟨wr.heap.size + 1, 0, none⟩ = some (.int .i64 (kd : Int)) := z2.cell 0
        have x33 : w'.cell? ⟨wr.heap.size + 1, 33, none⟩ = some (.string (str t)) := (z2.cell 33).trans H33.out
        clear z2 z3
        go_simp
      simp only [Act.put, List.setIfInBounds_toArray, List.set_cons_zero, List.set_cons_succ]
      refine wpAnyH_take (i := 21) (oi := { dst := some 76, op := Op.fieldAddr 55 (Operand.tmp 14) 0, type := 0, pos := "law.go:103", after := #[{ on := 20, ground := Ground.guard }], guard := some (20, false) }) (v := .pointer (some ⟨wr.heap.size + 1, 0, none⟩)) rfl (by kernel_rfl) (by kernel_rfl) (by kernel_rfl) (fun _ _ _ h => h) (Or.inl ⟨by rfl, ?_⟩) hH1 ?_
      · intro w' hSw
        obtain ⟨-, z2, z3⟩ := hSw
        have y0 : w'.cell? ⟨wr.heap.size, 0, none⟩ = some (.int .i64 (kd : Int)) := z3.cell 0
        have y1 : w'.cell? ⟨wr.heap.size, 1, none⟩ = some (.string (str x)) := z3.cell 1
        have y2 : w'.cell? ⟨wr.heap.size, 2, none⟩ = some (.string (str t)) := z3.cell 2
        have x0 : w'.cell? ⟨wr.heap.size + 1, 0, none⟩ = some (.int .i64 (kd : Int)) := z2.cell 0
        have x33 : w'.cell? ⟨wr.heap.size + 1, 33, none⟩ = some (.string (str t)) := (z2.cell 33).trans H33.out
        clear z2 z3
        go_simp
      simp only [Act.put, List.setIfInBounds_toArray, List.set_cons_zero, List.set_cons_succ]
      refine wpAnyH_take (i := 22) (oi := { dst := some 77, op := Op.load 3 (Operand.tmp 76), type := 3, pos := "law.go:103", after := #[{ on := 21, ground := Ground.data }, { on := 20, ground := Ground.guard }], guard := some (20, false) }) (v := .int .i64 (kd : Int)) rfl (by kernel_rfl) (by kernel_rfl) (by kernel_rfl) (fun _ _ _ h => h) (Or.inl ⟨by rfl, ?_⟩) hH1 ?_
      · intro w' hSw
        obtain ⟨-, z2, z3⟩ := hSw
        have y0 : w'.cell? ⟨wr.heap.size, 0, none⟩ = some (.int .i64 (kd : Int)) := z3.cell 0
        have y1 : w'.cell? ⟨wr.heap.size, 1, none⟩ = some (.string (str x)) := z3.cell 1
        have y2 : w'.cell? ⟨wr.heap.size, 2, none⟩ = some (.string (str t)) := z3.cell 2
        have x0 : w'.cell? ⟨wr.heap.size + 1, 0, none⟩ = some (.int .i64 (kd : Int)) := z2.cell 0
        have x33 : w'.cell? ⟨wr.heap.size + 1, 33, none⟩ = some (.string (str t)) := (z2.cell 33).trans H33.out
        clear z2 z3
        go_simp
      simp only [Act.put, List.setIfInBounds_toArray, List.set_cons_zero, List.set_cons_succ]
      refine wpAnyH_take (i := 23) (oi := { dst := some 78, op := Op.fieldAddr 55 (Operand.tmp 14) 2, type := 0, pos := "law.go:103", after := #[{ on := 20, ground := Ground.guard }], guard := some (20, false) }) (v := .pointer (some ⟨wr.heap.size + 1, 33, none⟩)) rfl (by kernel_rfl) (by kernel_rfl) (by kernel_rfl) (fun _ _ _ h => h) (Or.inl ⟨by rfl, ?_⟩) hH1 ?_
      · intro w' hSw
        obtain ⟨-, z2, z3⟩ := hSw
        have y0 : w'.cell? ⟨wr.heap.size, 0, none⟩ = some (.int .i64 (kd : Int)) := z3.cell 0
        have y1 : w'.cell? ⟨wr.heap.size, 1, none⟩ = some (.string (str x)) := z3.cell 1
        have y2 : w'.cell? ⟨wr.heap.size, 2, none⟩ = some (.string (str t)) := z3.cell 2
        have x0 : w'.cell? ⟨wr.heap.size + 1, 0, none⟩ = some (.int .i64 (kd : Int)) := z2.cell 0
        have x33 : w'.cell? ⟨wr.heap.size + 1, 33, none⟩ = some (.string (str t)) := (z2.cell 33).trans H33.out
        clear z2 z3
        go_simp
      simp only [Act.put, List.setIfInBounds_toArray, List.set_cons_zero, List.set_cons_succ]
      refine wpAnyH_take (i := 24) (oi := { dst := some 79, op := Op.load 9 (Operand.tmp 78), type := 9, pos := "law.go:103", after := #[{ on := 23, ground := Ground.data }, { on := 20, ground := Ground.guard }], guard := some (20, false) }) (v := .string (str t)) rfl (by kernel_rfl) (by kernel_rfl) (by kernel_rfl) (fun _ _ _ h => h) (Or.inl ⟨by rfl, ?_⟩) hH1 ?_
      · intro w' hSw
        obtain ⟨-, z2, z3⟩ := hSw
        have y0 : w'.cell? ⟨wr.heap.size, 0, none⟩ = some (.int .i64 (kd : Int)) := z3.cell 0
        have y1 : w'.cell? ⟨wr.heap.size, 1, none⟩ = some (.string (str x)) := z3.cell 1
        have y2 : w'.cell? ⟨wr.heap.size, 2, none⟩ = some (.string (str t)) := z3.cell 2
        have x0 : w'.cell? ⟨wr.heap.size + 1, 0, none⟩ = some (.int .i64 (kd : Int)) := z2.cell 0
        have x33 : w'.cell? ⟨wr.heap.size + 1, 33, none⟩ = some (.string (str t)) := (z2.cell 33).trans H33.out
        clear z2 z3
        go_simp
      simp only [Act.put, List.setIfInBounds_toArray, List.set_cons_zero, List.set_cons_succ]
      refine wpAnyH_take (i := 27) (oi := { dst := some 82, op := Op.fieldAddr 55 (Operand.tmp 14) 1, type := 0, pos := "law.go:103", after := #[{ on := 20, ground := Ground.guard }], guard := some (20, false) }) (v := .pointer (some ⟨wr.heap.size + 1, 1, none⟩)) rfl (by kernel_rfl) (by kernel_rfl) (by kernel_rfl) (fun _ _ _ h => h) (Or.inl ⟨by rfl, ?_⟩) hH1 ?_
      · intro w' hSw
        obtain ⟨-, z2, z3⟩ := hSw
        have y0 : w'.cell? ⟨wr.heap.size, 0, none⟩ = some (.int .i64 (kd : Int)) := z3.cell 0
        have y1 : w'.cell? ⟨wr.heap.size, 1, none⟩ = some (.string (str x)) := z3.cell 1
        have y2 : w'.cell? ⟨wr.heap.size, 2, none⟩ = some (.string (str t)) := z3.cell 2
        have x0 : w'.cell? ⟨wr.heap.size + 1, 0, none⟩ = some (.int .i64 (kd : Int)) := z2.cell 0
        have x33 : w'.cell? ⟨wr.heap.size + 1, 33, none⟩ = some (.string (str t)) := (z2.cell 33).trans H33.out
        clear z2 z3
        go_simp
      simp only [Act.put, List.setIfInBounds_toArray, List.set_cons_zero, List.set_cons_succ]
      refine wpAnyH_take (i := 28) (oi := { dst := some 83, op := Op.load 41 (Operand.tmp 82), type := 41, pos := "law.go:103", after := #[{ on := 27, ground := Ground.data }, { on := 20, ground := Ground.guard }], guard := some (20, false) }) (v := _) rfl (by kernel_rfl) (by kernel_rfl) (by kernel_rfl) (fun _ _ _ h => h) (yieldsIf_load_mid (by rfl) TI (.tmp 82) rfl (wr.heap.size + 1) (1) rfl (x.map byteV) (.array 32 5) (fun w hS => fun j u hu => by have := (hS.2.1.cell (1 + j)).trans (show (obC kd x t)[1 + j]? = some u by unfold obC; rw [Nat.add_comm 1 j, List.getElem?_cons_succ, List.getElem?_append_left (List.getElem?_eq_some_iff.1 hu).1]; exact hu); exact this) Tryd.underlying41 rfl SZX.out) hH1 ?_
      simp only [Act.put, List.setIfInBounds_toArray, List.set_cons_zero, List.set_cons_succ]
      refine wpAnyH_ready (rs := [25]) (by kernel_rfl) (by simp) (AllReadyH.cons rfl (fun K hK => ?_) AllReadyH.nil)
      go_simp
      have HS2 := Lib.hid (HS1.out.below (belowSelf w8 (.cells #[tx t] 9)))
      refine hK.out _ _ HS2.out (fun hH2 => ?_)
      clear hK K
      refine wpAnyH_ready (rs := [26]) (by kernel_rfl) (by simp) (AllReadyH.cons rfl (fun K hK => ?_) AllReadyH.nil)
      go_simp
      refine (HOF.out w8 (HC.out.below HS2.out.1.2.2.2.2)).mono ?_
      rintro e w9 ⟨rfl, hb9⟩
      dsimp only
      have HS3 := Lib.hid (HS2.out.below hb9)
      refine hK.out _ _ HS3.out (fun hH3 => ?_)
      clear hK K hb9
      refine wpAnyH_take (i := 29) (oi := { dst := some 84, op := Op.binOp BinOp.neq 41 (Operand.tmp 81) (Operand.tmp 83) 41, type := 4, pos := "law.go:103", after := #[{ on := 26, ground := Ground.data }, { on := 28, ground := Ground.data }, { on := 20, ground := Ground.guard }], guard := some (20, false) }) (v := .bool false) rfl (by kernel_rfl) (by kernel_rfl) (by kernel_rfl) (fun _ _ _ h => h) (Or.inl ⟨by rfl, ?_⟩) hH3 ?_
      · intro w' hSw
        obtain ⟨-, z2, z3⟩ := hSw
        have y0 : w'.cell? ⟨wr.heap.size, 0, none⟩ = some (.int .i64 (kd : Int)) := z3.cell 0
        have y1 : w'.cell? ⟨wr.heap.size, 1, none⟩ = some (.string (str x)) := z3.cell 1
        have y2 : w'.cell? ⟨wr.heap.size, 2, none⟩ = some (.string (str t)) := z3.cell 2
        have x0 : w'.cell? ⟨wr.heap.size + 1, 0, none⟩ = some (.int .i64 (kd : Int)) := z2.cell 0
        have x33 : w'.cell? ⟨wr.heap.size + 1, 33, none⟩ = some (.string (str t)) := (z2.cell 33).trans H33.out
        clear z2 z3
        go_simp
      simp only [Act.put, List.setIfInBounds_toArray, List.set_cons_zero, List.set_cons_succ]
      refine wpAnyH_take (i := 30) (oi := { dst := some 85, op := Op.pick (Operand.tmp 75) (Operand.const (Value.bool true)) (Operand.tmp 84), type := 4, pos := "law.go:103", after := #[{ on := 20, ground := Ground.data }, { on := 29, ground := Ground.data }], guard := none }) (v := .bool false) rfl (by kernel_rfl) (by kernel_rfl) (by kernel_rfl) (fun _ _ _ h => h) (Or.inl ⟨by rfl, ?_⟩) hH3 ?_
      · intro w' hSw
        obtain ⟨-, z2, z3⟩ := hSw
        have y0 : w'.cell? ⟨wr.heap.size, 0, none⟩ = some (.int .i64 (kd : Int)) := z3.cell 0
        have y1 : w'.cell? ⟨wr.heap.size, 1, none⟩ = some (.string (str x)) := z3.cell 1
        have y2 : w'.cell? ⟨wr.heap.size, 2, none⟩ = some (.string (str t)) := z3.cell 2
        have x0 : w'.cell? ⟨wr.heap.size + 1, 0, none⟩ = some (.int .i64 (kd : Int)) := z2.cell 0
        have x33 : w'.cell? ⟨wr.heap.size + 1, 33, none⟩ = some (.string (str t)) := (z2.cell 33).trans H33.out
        clear z2 z3
        go_simp
      simp only [Act.put, List.setIfInBounds_toArray, List.set_cons_zero, List.set_cons_succ]
      refine wpAnyH_done (by kernel_rfl) ?_ _
      have HE := Lib.hid HS3.out.1
      clear hHeld hH1 hH2 hH3 HS0 HS1 HS2 HS3
      rename_i Kz hKz
      refine hKz _ _ ?_
      go_wp2_with fail
      go_roundw
      case rel => exact ⟨k + 1, by omega, by go_num, HE⟩
      case measure => simp [intOf]; omega
-- END1
    · have ek : k = os.length := by omega
      have HEK := Lib.hid ek
      have hdk : decide (k < os.length) = false := by simp; omega
      clear ek
      go_wp2_with fail
-- BEGIN2
      have HS0 := Lib.hid (show BLW w os (R, z) (.slice ao os.length co) (.slice ar os.length cr) w2.heap.size w4.heap.size wr.drew from BLW.below HL.out (below_drewN (Below.refl _ _) 1))
      have H32 := Lib.hid (show (ptC (R, z))[32]? = some (.int .i64 z) by simp [ptC, HRE.out])
      have SZR := Lib.hid (sz_id R HRE.out)
      have HBY := Lib.hid (fun W => bytes_any R W HRE.out)
      refine wp_region_held_drew (S := BLW w os (R, z) (.slice ao os.length co) (.slice ar os.length cr) w2.heap.size w4.heap.size) (by kernel_rfl) HS0.out (fun hHeld => ?_)
      refine wpAnyH_take (i := 0) (oi := { dst := some 87, op := Op.move (Operand.tmp 11), type := 3, pos := "law.go:107", after := #[], guard := none }) (v := .int .i64 0) rfl (by kernel_rfl) (by kernel_rfl) (by kernel_rfl) (fun _ _ _ h => h) (Or.inl ⟨by rfl, ?_⟩) hHeld ?_
      · intro w' hSw
        obtain ⟨-, -, z3, z4, -⟩ := hSw
        have y0 : w'.cell? ⟨w2.heap.size, 32, none⟩ = some (.int .i64 z) := (z3.cell 32).trans H32.out
        have y1 : w'.cell? ⟨w4.heap.size, 0, none⟩ = some (.string (str R)) := z4.cell 0
        have y2 : w'.cell? ⟨w4.heap.size, 1, none⟩ = some (.int .i64 z) := z4.cell 1
        clear z3 z4
        go_simp
      simp only [Act.put, List.setIfInBounds_toArray, List.set_cons_zero, List.set_cons_succ]
      refine wpAnyH_take (i := 1) (oi := { dst := some 88, op := Op.binOp BinOp.neq 3 (Operand.tmp 87) (Operand.const (Value.int IntKind.i64 0)) 3, type := 4, pos := "law.go:107", after := #[{ on := 0, ground := Ground.data }], guard := none }) (v := .bool false) rfl (by kernel_rfl) (by kernel_rfl) (by kernel_rfl) (fun _ _ _ h => h) (Or.inl ⟨by rfl, ?_⟩) hHeld ?_
      · intro w' hSw
        obtain ⟨-, -, z3, z4, -⟩ := hSw
        have y0 : w'.cell? ⟨w2.heap.size, 32, none⟩ = some (.int .i64 z) := (z3.cell 32).trans H32.out
        have y1 : w'.cell? ⟨w4.heap.size, 0, none⟩ = some (.string (str R)) := z4.cell 0
        have y2 : w'.cell? ⟨w4.heap.size, 1, none⟩ = some (.int .i64 z) := z4.cell 1
        clear z3 z4
        go_simp
      simp only [Act.put, List.setIfInBounds_toArray, List.set_cons_zero, List.set_cons_succ]
      refine wpAnyH_take (i := 2) (oi := { dst := some 89, op := Op.move (Operand.tmp 88), type := 4, pos := "law.go:107", after := #[{ on := 1, ground := Ground.data }], guard := none }) (v := .bool false) rfl (by kernel_rfl) (by kernel_rfl) (by kernel_rfl) (fun _ _ _ h => h) (Or.inl ⟨by rfl, ?_⟩) hHeld ?_
      · intro w' hSw
        obtain ⟨-, -, z3, z4, -⟩ := hSw
        have y0 : w'.cell? ⟨w2.heap.size, 32, none⟩ = some (.int .i64 z) := (z3.cell 32).trans H32.out
        have y1 : w'.cell? ⟨w4.heap.size, 0, none⟩ = some (.string (str R)) := z4.cell 0
        have y2 : w'.cell? ⟨w4.heap.size, 1, none⟩ = some (.int .i64 z) := z4.cell 1
        clear z3 z4
        go_simp
      simp only [Act.put, List.setIfInBounds_toArray, List.set_cons_zero, List.set_cons_succ]
      refine wpAnyH_take (i := 3) (oi := { dst := some 90, op := Op.fieldAddr 43 (Operand.tmp 6) 0, type := 0, pos := "law.go:107", after := #[{ on := 2, ground := Ground.guard }], guard := some (2, false) }) (v := .pointer (some ⟨w2.heap.size, 0, none⟩)) rfl (by kernel_rfl) (by kernel_rfl) (by kernel_rfl) (fun _ _ _ h => h) (Or.inl ⟨by rfl, ?_⟩) hHeld ?_
      · intro w' hSw
        obtain ⟨-, -, z3, z4, -⟩ := hSw
        have y0 : w'.cell? ⟨w2.heap.size, 32, none⟩ = some (.int .i64 z) := (z3.cell 32).trans H32.out
        have y1 : w'.cell? ⟨w4.heap.size, 0, none⟩ = some (.string (str R)) := z4.cell 0
        have y2 : w'.cell? ⟨w4.heap.size, 1, none⟩ = some (.int .i64 z) := z4.cell 1
        clear z3 z4
        go_simp
      simp only [Act.put, List.setIfInBounds_toArray, List.set_cons_zero, List.set_cons_succ]
      refine wpAnyH_take (i := 4) (oi := { dst := some 91, op := Op.load 41 (Operand.tmp 90), type := 41, pos := "law.go:107", after := #[{ on := 3, ground := Ground.data }, { on := 2, ground := Ground.guard }], guard := some (2, false) }) (v := _) rfl (by kernel_rfl) (by kernel_rfl) (by kernel_rfl) (fun _ _ _ h => h) (yieldsIf_load_mid (by rfl) TI (.tmp 90) rfl w2.heap.size (0) rfl (R.map byteV) (.array 32 5) (fun w hS => mem_rng hS.2.2.1) Tryd.underlying41 rfl SZR.out) hHeld ?_
      simp only [Act.put, List.setIfInBounds_toArray, List.set_cons_zero, List.set_cons_succ]
      refine wpAnyH_take (i := 6) (oi := { dst := some 93, op := Op.fieldAddr 48 (Operand.tmp 9) 0, type := 0, pos := "law.go:107", after := #[{ on := 2, ground := Ground.guard }], guard := some (2, false) }) (v := .pointer (some ⟨w4.heap.size, 0, none⟩)) rfl (by kernel_rfl) (by kernel_rfl) (by kernel_rfl) (fun _ _ _ h => h) (Or.inl ⟨by rfl, ?_⟩) hHeld ?_
      · intro w' hSw
        obtain ⟨-, -, z3, z4, -⟩ := hSw
        have y0 : w'.cell? ⟨w2.heap.size, 32, none⟩ = some (.int .i64 z) := (z3.cell 32).trans H32.out
        have y1 : w'.cell? ⟨w4.heap.size, 0, none⟩ = some (.string (str R)) := z4.cell 0
        have y2 : w'.cell? ⟨w4.heap.size, 1, none⟩ = some (.int .i64 z) := z4.cell 1
        clear z3 z4
        go_simp
      simp only [Act.put, List.setIfInBounds_toArray, List.set_cons_zero, List.set_cons_succ]
      refine wpAnyH_take (i := 7) (oi := { dst := some 94, op := Op.load 9 (Operand.tmp 93), type := 9, pos := "law.go:107", after := #[{ on := 6, ground := Ground.data }, { on := 2, ground := Ground.guard }], guard := some (2, false) }) (v := .string (str R)) rfl (by kernel_rfl) (by kernel_rfl) (by kernel_rfl) (fun _ _ _ h => h) (Or.inl ⟨by rfl, ?_⟩) hHeld ?_
      · intro w' hSw
        obtain ⟨-, -, z3, z4, -⟩ := hSw
        have y0 : w'.cell? ⟨w2.heap.size, 32, none⟩ = some (.int .i64 z) := (z3.cell 32).trans H32.out
        have y1 : w'.cell? ⟨w4.heap.size, 0, none⟩ = some (.string (str R)) := z4.cell 0
        have y2 : w'.cell? ⟨w4.heap.size, 1, none⟩ = some (.int .i64 z) := z4.cell 1
        clear z3 z4
        go_simp
      simp only [Act.put, List.setIfInBounds_toArray, List.set_cons_zero, List.set_cons_succ]
      refine wpAnyH_ready (rs := [5]) (by kernel_rfl) (by simp) (AllReadyH.cons rfl (fun K hK => ?_) AllReadyH.nil)
      go_simp
      refine (HBY.out _).mono ?_
      rintro e w8 ⟨rfl, hb8⟩
      dsimp only
      have HS1 := Lib.hid (HS0.out.below hb8)
      refine hK.out _ _ HS1.out (fun hH1 => ?_)
      clear hK K hb8
      refine wpAnyH_take (i := 8) (oi := { dst := some 95, op := Op.binOp BinOp.eql 9 (Operand.tmp 92) (Operand.tmp 94) 9, type := 4, pos := "law.go:107", after := #[{ on := 5, ground := Ground.data }, { on := 7, ground := Ground.data }, { on := 2, ground := Ground.guard }], guard := some (2, false) }) (v := .bool true) rfl (by kernel_rfl) (by kernel_rfl) (by kernel_rfl) (fun _ _ _ h => h) (Or.inl ⟨by rfl, ?_⟩) hH1 ?_
      · intro w' hSw
        obtain ⟨-, -, z3, z4, -⟩ := hSw
        have y0 : w'.cell? ⟨w2.heap.size, 32, none⟩ = some (.int .i64 z) := (z3.cell 32).trans H32.out
        have y1 : w'.cell? ⟨w4.heap.size, 0, none⟩ = some (.string (str R)) := z4.cell 0
        have y2 : w'.cell? ⟨w4.heap.size, 1, none⟩ = some (.int .i64 z) := z4.cell 1
        clear z3 z4
        go_simp
      simp only [Act.put, List.setIfInBounds_toArray, List.set_cons_zero, List.set_cons_succ]
      refine wpAnyH_take (i := 9) (oi := { dst := some 96, op := Op.move (Operand.tmp 95), type := 4, pos := "law.go:107", after := #[{ on := 8, ground := Ground.data }, { on := 5, ground := Ground.chain }, { on := 2, ground := Ground.guard }], guard := some (2, false) }) (v := .bool true) rfl (by kernel_rfl) (by kernel_rfl) (by kernel_rfl) (fun _ _ _ h => h) (Or.inl ⟨by rfl, ?_⟩) hH1 ?_
      · intro w' hSw
        obtain ⟨-, -, z3, z4, -⟩ := hSw
        have y0 : w'.cell? ⟨w2.heap.size, 32, none⟩ = some (.int .i64 z) := (z3.cell 32).trans H32.out
        have y1 : w'.cell? ⟨w4.heap.size, 0, none⟩ = some (.string (str R)) := z4.cell 0
        have y2 : w'.cell? ⟨w4.heap.size, 1, none⟩ = some (.int .i64 z) := z4.cell 1
        clear z3 z4
        go_simp
      simp only [Act.put, List.setIfInBounds_toArray, List.set_cons_zero, List.set_cons_succ]
      refine wpAnyH_take (i := 10) (oi := { dst := some 97, op := Op.fieldAddr 43 (Operand.tmp 6) 1, type := 0, pos := "law.go:107", after := #[{ on := 9, ground := Ground.guard }], guard := some (9, true) }) (v := .pointer (some ⟨w2.heap.size, 32, none⟩)) rfl (by kernel_rfl) (by kernel_rfl) (by kernel_rfl) (fun _ _ _ h => h) (Or.inl ⟨by rfl, ?_⟩) hH1 ?_
      · intro w' hSw
        obtain ⟨-, -, z3, z4, -⟩ := hSw
        have y0 : w'.cell? ⟨w2.heap.size, 32, none⟩ = some (.int .i64 z) := (z3.cell 32).trans H32.out
        have y1 : w'.cell? ⟨w4.heap.size, 0, none⟩ = some (.string (str R)) := z4.cell 0
        have y2 : w'.cell? ⟨w4.heap.size, 1, none⟩ = some (.int .i64 z) := z4.cell 1
        clear z3 z4
        go_simp
      simp only [Act.put, List.setIfInBounds_toArray, List.set_cons_zero, List.set_cons_succ]
      refine wpAnyH_take (i := 11) (oi := { dst := some 98, op := Op.load 3 (Operand.tmp 97), type := 3, pos := "law.go:107", after := #[{ on := 10, ground := Ground.data }, { on := 9, ground := Ground.guard }], guard := some (9, true) }) (v := .int .i64 z) rfl (by kernel_rfl) (by kernel_rfl) (by kernel_rfl) (fun _ _ _ h => h) (Or.inl ⟨by rfl, ?_⟩) hH1 ?_
      · intro w' hSw
        obtain ⟨-, -, z3, z4, -⟩ := hSw
        have y0 : w'.cell? ⟨w2.heap.size, 32, none⟩ = some (.int .i64 z) := (z3.cell 32).trans H32.out
        have y1 : w'.cell? ⟨w4.heap.size, 0, none⟩ = some (.string (str R)) := z4.cell 0
        have y2 : w'.cell? ⟨w4.heap.size, 1, none⟩ = some (.int .i64 z) := z4.cell 1
        clear z3 z4
        go_simp
      simp only [Act.put, List.setIfInBounds_toArray, List.set_cons_zero, List.set_cons_succ]
      refine wpAnyH_take (i := 12) (oi := { dst := some 99, op := Op.fieldAddr 48 (Operand.tmp 9) 1, type := 0, pos := "law.go:107", after := #[{ on := 9, ground := Ground.guard }], guard := some (9, true) }) (v := .pointer (some ⟨w4.heap.size, 1, none⟩)) rfl (by kernel_rfl) (by kernel_rfl) (by kernel_rfl) (fun _ _ _ h => h) (Or.inl ⟨by rfl, ?_⟩) hH1 ?_
      · intro w' hSw
        obtain ⟨-, -, z3, z4, -⟩ := hSw
        have y0 : w'.cell? ⟨w2.heap.size, 32, none⟩ = some (.int .i64 z) := (z3.cell 32).trans H32.out
        have y1 : w'.cell? ⟨w4.heap.size, 0, none⟩ = some (.string (str R)) := z4.cell 0
        have y2 : w'.cell? ⟨w4.heap.size, 1, none⟩ = some (.int .i64 z) := z4.cell 1
        clear z3 z4
        go_simp
      simp only [Act.put, List.setIfInBounds_toArray, List.set_cons_zero, List.set_cons_succ]
      refine wpAnyH_take (i := 13) (oi := { dst := some 100, op := Op.load 3 (Operand.tmp 99), type := 3, pos := "law.go:107", after := #[{ on := 12, ground := Ground.data }, { on := 9, ground := Ground.guard }], guard := some (9, true) }) (v := .int .i64 z) rfl (by kernel_rfl) (by kernel_rfl) (by kernel_rfl) (fun _ _ _ h => h) (Or.inl ⟨by rfl, ?_⟩) hH1 ?_
      · intro w' hSw
        obtain ⟨-, -, z3, z4, -⟩ := hSw
        have y0 : w'.cell? ⟨w2.heap.size, 32, none⟩ = some (.int .i64 z) := (z3.cell 32).trans H32.out
        have y1 : w'.cell? ⟨w4.heap.size, 0, none⟩ = some (.string (str R)) := z4.cell 0
        have y2 : w'.cell? ⟨w4.heap.size, 1, none⟩ = some (.int .i64 z) := z4.cell 1
        clear z3 z4
        go_simp
      simp only [Act.put, List.setIfInBounds_toArray, List.set_cons_zero, List.set_cons_succ]
      refine wpAnyH_take (i := 14) (oi := { dst := some 101, op := Op.binOp BinOp.eql 3 (Operand.tmp 98) (Operand.tmp 100) 3, type := 4, pos := "law.go:107", after := #[{ on := 11, ground := Ground.data }, { on := 13, ground := Ground.data }, { on := 9, ground := Ground.guard }], guard := some (9, true) }) (v := .bool true) rfl (by kernel_rfl) (by kernel_rfl) (by kernel_rfl) (fun _ _ _ h => h) (Or.inl ⟨by rfl, ?_⟩) hH1 ?_
      · intro w' hSw
        obtain ⟨-, -, z3, z4, -⟩ := hSw
        have y0 : w'.cell? ⟨w2.heap.size, 32, none⟩ = some (.int .i64 z) := (z3.cell 32).trans H32.out
        have y1 : w'.cell? ⟨w4.heap.size, 0, none⟩ = some (.string (str R)) := z4.cell 0
        have y2 : w'.cell? ⟨w4.heap.size, 1, none⟩ = some (.int .i64 z) := z4.cell 1
        clear z3 z4
        go_simp
      simp only [Act.put, List.setIfInBounds_toArray, List.set_cons_zero, List.set_cons_succ]
      refine wpAnyH_take (i := 15) (oi := { dst := some 102, op := Op.pick (Operand.tmp 96) (Operand.tmp 101) (Operand.const (Value.bool false)), type := 4, pos := "law.go:107", after := #[{ on := 9, ground := Ground.data }, { on := 14, ground := Ground.data }, { on := 2, ground := Ground.guard }], guard := some (2, false) }) (v := .bool true) rfl (by kernel_rfl) (by kernel_rfl) (by kernel_rfl) (fun _ _ _ h => h) (Or.inl ⟨by rfl, ?_⟩) hH1 ?_
      · intro w' hSw
        obtain ⟨-, -, z3, z4, -⟩ := hSw
        have y0 : w'.cell? ⟨w2.heap.size, 32, none⟩ = some (.int .i64 z) := (z3.cell 32).trans H32.out
        have y1 : w'.cell? ⟨w4.heap.size, 0, none⟩ = some (.string (str R)) := z4.cell 0
        have y2 : w'.cell? ⟨w4.heap.size, 1, none⟩ = some (.int .i64 z) := z4.cell 1
        clear z3 z4
        go_simp
      simp only [Act.put, List.setIfInBounds_toArray, List.set_cons_zero, List.set_cons_succ]
      refine wpAnyH_take (i := 16) (oi := { dst := some 103, op := Op.pick (Operand.tmp 89) (Operand.const (Value.bool true)) (Operand.tmp 102), type := 4, pos := "law.go:107", after := #[{ on := 2, ground := Ground.data }, { on := 15, ground := Ground.data }], guard := none }) (v := .bool true) rfl (by kernel_rfl) (by kernel_rfl) (by kernel_rfl) (fun _ _ _ h => h) (Or.inl ⟨by rfl, ?_⟩) hH1 ?_
      · intro w' hSw
        obtain ⟨-, -, z3, z4, -⟩ := hSw
        have y0 : w'.cell? ⟨w2.heap.size, 32, none⟩ = some (.int .i64 z) := (z3.cell 32).trans H32.out
        have y1 : w'.cell? ⟨w4.heap.size, 0, none⟩ = some (.string (str R)) := z4.cell 0
        have y2 : w'.cell? ⟨w4.heap.size, 1, none⟩ = some (.int .i64 z) := z4.cell 1
        clear z3 z4
        go_simp
      simp only [Act.put, List.setIfInBounds_toArray, List.set_cons_zero, List.set_cons_succ]
      refine wpAnyH_ready (rs := [17]) (by kernel_rfl) (by simp) (AllReadyH.cons rfl (fun K hK => ?_) AllReadyH.nil)
      go_simp
      refine hK.out _ _ HS1.out (fun hH2 => ?_)
      clear hK K
      refine wpAnyH_done (by kernel_rfl) ?_ _
      have HE := Lib.hid HS1.out.2.2.2.2
      clear hHeld hH1 hH2 HS0 HS1
      rename_i Kz hKz
      refine hKz _ _ ?_
      go_wp2_with fail
      go_ret
      exact ⟨rfl, HE.out⟩
-- END2
end Go.Proofs.YtjdhcanblpifcaaDoor

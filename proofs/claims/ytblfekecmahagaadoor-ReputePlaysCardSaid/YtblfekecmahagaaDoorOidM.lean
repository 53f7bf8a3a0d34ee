/-
  Package oid without the rest of layer 2: Bytes, Of; the reference's Of.
-/
import Derived.Test.YtblfekecmahagaaDoorHash
import Derived.Test.YtblfekecmahagaaDoorRef4
import Derived.Test.YtblfekecmahagaaDoorNam
namespace Go.Proofs.YtblfekecmahagaaDoor
open Go.RowKit Crv

theorem Holds.alloc {w : World} {s : Nat} {m : List UInt8} (h : Holds w s m) (o : Obj) : Holds (w.alloc o) s m := h.below ((Below.refl _ _).alloc (Nat.le_refl _) o)
theorem StrSlice.new {w : World} {t : TypeId} (ls : List (List UInt8)) (cap : Nat) : StrSlice (w.alloc (.cells (ls.map fun l => Value.string (str l)).toArray t)) (.slice (some ⟨w.heap.size, 0, none⟩) ls.length cap) ls :=
  ⟨_, cap, rfl, fun i hi => ⟨w.heap.size, 0, rfl, by
    rw [Nat.zero_add, (Mem.new w t (ls.map fun l => Value.string (str l))).cell, List.getElem?_map, List.getD_eq_getElem?_getD, List.getElem?_eq_getElem hi]
    rfl⟩⟩
theorem StrSlice.newAt {w : World} {t : TypeId} {g : Nat} (ls : List (List UInt8)) (cap : Nat) (hg : g = w.heap.size) : StrSlice (w.alloc (.cells (ls.map fun l => Value.string (str l)).toArray t)) (.slice (some ⟨g, 0, none⟩) ls.length cap) ls := hg ▸ StrSlice.new ls cap
theorem bytes_string {P : Program} {w : World} {g n : Nat} {t src dst e : TypeId} {l : List UInt8} (h : Mem w g t (l.map byteV)) (hs : P.underlying src = some (.slice e)) (he : P.underlying e = some (.int .u8)) (hd : P.underlying dst = some .string) (hn : l.length = n) :
    (convert src dst (.slice (some ⟨g, 0, none⟩) n n)).run P w = .ok (.string (str l)) w := by
  subst hn
  have hnums : strOfNums (l.map fun b => (b.toNat : Int)) = str l := by
    simp only [strOfNums, List.map_map, str]
    congr 2
    have : ((fun n : Int => UInt8.ofNat n.toNat) ∘ fun b : UInt8 => (b.toNat : Int)) = id := by
      funext b; simp
    rw [this, List.map_id]
  have := run_convert_bytes_arg w src e hs he g 0 l.length l.length (l.map fun b => (b.toNat : Int)) (by simp) (fun i hi => by
    rw [Nat.zero_add, h.cell, List.getElem?_map, List.getElem?_eq_getElem hi, List.getD_eq_getElem?_getD, List.getElem?_map, List.getElem?_eq_getElem hi]
    rfl) dst hd
  rw [this, hnums]

abbrev TI : TypeId := 35
set_option maxRecDepth 100000 in
theorem bytes_any (x : List UInt8) (w : World) (hx : x.length = 32) :
    Calls Tryd.prog 31 #[.agg (x.map byteV).toArray] w fun e w' => e = .returned (.string (str x)) ∧ Below w.heap.size w w' := by
  have hcv := bytes_string (P := Tryd.prog) (src := 79) (dst := 9) (Mem.newAt w 35 (x.map byteV) rfl) Tryd.underlying79 Tryd.underlying5 Tryd.underlying9 hx
  have HX := Lib.hid hx
  clear hx
  go_enter Tryd.func31, Tryd.ntmps31
  go_wp2
  go_ret
  exact ⟨rfl, (Below.refl _ _).alloc (Nat.le_refl _) _⟩


/-- What stands ahead of an object's bytes. -/
def headOf (kind L : Nat) : List UInt8 := UInt8.ofNat kind :: be4 L
theorem head_cells (kind L : Nat) (hk : kind < 256) (hL : L < 16777216) : #[Value.int .u8 (kind : Int), .int .u8 ((L : Int) / 16777216), .int .u8 ((L : Int) / 65536), .int .u8 ((L : Int) / 256 % 256), .int .u8 ((L : Int) % 256)] = ((headOf kind L).map byteV).toArray := by
  have c : (kind : Int) = ((UInt8.ofNat kind).toNat : Int) := by rw [UInt8.toNat_ofNat']; omega
  have c0 : (L : Int) / 16777216 = ((UInt8.ofNat (L / 16777216)).toNat : Int) := by rw [UInt8.toNat_ofNat']; omega
  have c1 : (L : Int) / 65536 = ((UInt8.ofNat (L / 65536)).toNat : Int) := by rw [UInt8.toNat_ofNat']; omega
  have c2 : (L : Int) / 256 % 256 = ((UInt8.ofNat (L / 256)).toNat : Int) := by rw [UInt8.toNat_ofNat']; omega
  have c3 : (L : Int) % 256 = ((UInt8.ofNat L).toNat : Int) := by rw [UInt8.toNat_ofNat']; omega
  rw [c, c0, c1, c2, c3]
  rfl

/-- A store of a whole array as one step of a region that draws its order. -/
theorem step_store_mem {P : Program} {ops : Array Oper} {o : Oper} {a : Act} {w : World} {Q : Exit → Act → World → Prop} {K : Act → World → Prop} {E : Prop} {g : Nat} {t : TypeId} {old : List Value} (hm : Mem w g t old) (cs : List Value) (ty : TypeId) (x y : Operand)
    (hgd : o.guard = none) (ho : o.op = .store ty x y) (hx : a.eval x = .pointer (some ⟨g, 0, none⟩)) (hy : a.eval y = .agg cs.toArray) (hi : (P.info? ty).map (·.size) = some cs.length) (hl : old.length = cs.length) (h1 : ∀ v ∈ cs, v.oneCell' = true)
    (h : ∀ W, Mem W g t cs → w.grownBy W (some g) → K (a.put o.dst undef) W) : if Region.wanted o (yielded ops a.tmps) = true then Oper.wp P o a w K Q else E := by
  have hw : Region.wanted o (yielded ops a.tmps) = true := by simp [Region.wanted, hgd]
  rw [if_pos hw]
  have hr := run_store_rowOf (P := P) (n := cs.length) hi w g 0 cs rfl h1 (hm.hasRow 0 cs.length (by omega))
  unfold Oper.wp execOp
  simp only [ho, hx, hy, hr, Sem.run_bind, Sem.run_pure, Result.andThen_ok]
  have h2 := setCells_row cs 0 w old hm (by omega)
  rw [List.take_zero, List.nil_append, List.drop_of_length_le (by omega), List.append_nil] at h2
  exact h _ h2 (grown_cells cs 0 w (grownRefl _ _))

/-- The memory of Of's last statement. -/
def OfW (w0 : World) (Hb : Nat) (hd : List UInt8) (v : Value) (ls : List (List UInt8)) (w : World) : Prop :=
  Mem w Hb 5 (hd.map byteV) ∧ (∃ cs : List Value, cs.length = 32 ∧ Mem w w0.heap.size TI cs) ∧ Consts w ∧ StrSlice w v ls ∧ Below w0.heap.size w0 w
theorem OfW.below {w0 w w' : World} {Hb : Nat} {hd : List UInt8} {v : Value} {ls : List (List UInt8)} (h : OfW w0 Hb hd v ls w) (hb : Below w.heap.size w w') : OfW w0 Hb hd v ls w' := by
  obtain ⟨h1, ⟨cs, hl, h2⟩, h3, h4, h5⟩ := h
  exact ⟨h1.below hb h1.lt, ⟨cs, hl, h2.below hb h2.lt⟩, h3.below hb, h4.below hb, belowThen h5 hb⟩
theorem OfW.write {w0 w w' : World} {Hb b : Nat} {hd m : List UInt8} {v : Value} {ls : List (List UInt8)} (h : OfW w0 Hb hd v ls w) (hh : Holds w b m) (hg : w.grownBy w' (some b)) (h1 : Hb < b) (h2 : w0.heap.size < b) (h3 : 2 ≤ b) : OfW w0 Hb hd v ls w' := by
  obtain ⟨q1, ⟨cs, hl, q2⟩, q3, q4, q5⟩ := h
  exact ⟨q1.grown hg (fun e => by injection e with e; omega), ⟨cs, hl, q2.grown hg (fun e => by injection e with e; omega)⟩, q3.grown hg h3, q4.grown hh hg, belowNew q5 hg (by omega)⟩
theorem StrSlice.aside {w w' : World} {N : Nat} {cs : List Value} {t : TypeId} {v : Value} {ls : List (List UInt8)} (h : StrSlice w v ls) (hm : Mem w N t cs) (hns : ∀ u ∈ cs, ∀ s, u ≠ .string s) (hg : w.grownBy w' (some N)) : StrSlice w' v ls := by
  obtain ⟨a, cap, hv, hc⟩ := h
  refine ⟨a, cap, hv, fun i hi => ?_⟩
  obtain ⟨b', off, ha, hcell⟩ := hc i hi
  refine ⟨b', off, ha, hg.cell hcell (fun e => ?_)⟩
  injection e with e
  have e' : b' = N := e
  subst e'
  rw [hm.cell] at hcell
  exact hns _ (List.mem_of_getElem? hcell) _ rfl

set_option maxHeartbeats 2000000 in
set_option maxRecDepth 100000 in
theorem ofOid_any (kind : Nat) (hk : kind < 256) (v : Value) (ls : List (List UInt8)) (w : World) (hc : Consts w) (hv : StrSlice w v ls) (hn : ls.length ≤ 1000) (hl : ls.flatten.length ≤ 1000000) :
    Calls Tryd.prog 28 #[.int .i64 (kind : Int), v] w fun e w' => e = .returned (.agg ((sha ([99, 114, 118] ++ headOf kind ls.flatten.length ++ ls.flatten)).map byteV).toArray) ∧ Below w.heap.size w w' := by
  obtain ⟨a, cap, rfl, hcell⟩ := hv
  have HV := Lib.hid (show StrSlice w (.slice a ls.length cap) ls from ⟨a, cap, rfl, hcell⟩)
  have HC := Lib.hid hc
  have hN2 : 2 ≤ w.heap.size := hc.2.lt
  clear hcell hc
  have hB0 : Below w.heap.size w (w.alloc (.cells zs32 TI)) := (Below.refl _ _).alloc (Nat.le_refl _) _
  obtain ⟨W0, hW0⟩ : ∃ W0, W0 = w.alloc (.cells zs32 TI) := ⟨_, rfl⟩
  have HM0 := Lib.hid (show Mem W0 w.heap.size TI (List.replicate 32 (byteV 0)) by rw [hW0, zs32_eq]; exact Mem.newAt w TI (List.replicate 32 (byteV 0)) rfl)
  rw [← hW0] at hB0
  go_enter Tryd.func28, Tryd.ntmps28
  go_wp2_with fail
  rw [← hW0]
  clear hW0
  go_loop [5, 11] (fun l i => ∃ k : Nat, k ≤ ls.length ∧ i = .int .i64 k ∧ l = .int .u32 ((ls.take k).flatten.length : Int)) (fun _ i => ls.length - (intOf i).toNat)
  case atStart => exact ⟨0, by omega, rfl, rfl⟩
  case round =>
    obtain ⟨k, hk1, rfl, rfl⟩ := hrel
    have hle := flatten_take_le ls k
    by_cases hlt : k < ls.length
    · obtain ⟨s, hs⟩ : ∃ s, s = ls.getD k [] := ⟨_, rfl⟩
      obtain ⟨a', cap', hv', hc'⟩ := HV.out.below hB0
      injection hv' with h1 h2 h3
      obtain ⟨b, off, ha, hcell⟩ := hc' k hlt
      rw [← h1] at ha
      subst ha
      rw [← hs] at hcell
      have HSUM := Lib.hid (show (ls.take (k + 1)).flatten.length = (ls.take k).flatten.length + s.length by rw [flatten_take_succ ls k hlt, List.length_append, hs])
      have hle2 := flatten_take_le ls (k + 1)
      rw [HSUM.out] at hle2
      obtain ⟨q, hq⟩ : ∃ q, q = (ls.take k).flatten.length := ⟨_, rfl⟩
      rw [← hq] at HSUM hle hle2 ⊢
      have hsl : s.length ≤ 1000000 := by omega
      have hd : decide (k < ls.length) = true := by simpa using hlt
      clear hs h1 h2 h3 hc' hq
      go_wp2_with fail
      go_round
      case rel => exact ⟨k + 1, by omega, by go_num, by rw [HSUM.out]; go_num⟩
      case measure => simp [intOf]; omega
    · have ek : k = ls.length := by omega
      subst ek
      rw [List.take_length]
      obtain ⟨L, hL⟩ : ∃ L, L = ls.flatten.length := ⟨_, rfl⟩
      rw [List.take_length, ← hL] at hle
      rw [← hL] at hl ⊢
      have HHC := Lib.hid (head_cells kind L hk (by omega))
      have hkI : (kind : Int) < 256 := by omega
      have hLI : (L : Int) < 16777216 := by omega
      have HLL := Lib.hid hL
      clear hL hle hlt hk1
      obtain ⟨hd, hhd⟩ : ∃ hd, hd = headOf kind L := ⟨_, rfl⟩
      have hhl : hd.length = 5 := by rw [hhd]; rfl
      have HHD := Lib.hid hhd
      rw [← hhd] at HHC
      clear hhd
      go_wp2_with fail
      rw [HHC.out]
      have hBW : Below w.heap.size w (W0.alloc (.cells (hd.map byteV).toArray 5)) := belowThen hB0 (belowSelf _ _)
      have HOW := Lib.hid (show OfW w W0.heap.size hd (.slice a ls.length cap) ls (W0.alloc (.cells (hd.map byteV).toArray 5)).drew from ⟨Mem.newAt W0 5 (hd.map byteV) rfl, ⟨_, by simp, HM0.out.alloc _⟩, HC.out.below (below_drewN hBW 1), HV.out.below (below_drewN hBW 1), below_drewN hBW 1⟩)
      have hNW : w.heap.size < W0.heap.size := HM0.out.lt
      obtain ⟨Hb, hHb⟩ : ∃ Hb, Hb = W0.heap.size := ⟨_, rfl⟩
      obtain ⟨W1, hW1⟩ : ∃ W1, W1 = W0.alloc (.cells (hd.map byteV).toArray 5) := ⟨_, rfl⟩
      have hWs : Hb < W1.heap.size := by rw [hW1, hHb]; simp
      rw [← hW1, ← hHb] at HOW
      rw [← hHb] at hNW
      rw [← hW1, ← hHb]
      clear hBW hW1 hHb HM0 hB0
      have HHL := Lib.hid hhl
      clear hhl
      refine wp_region_held_drew (S := fun w' => OfW w Hb hd (.slice a ls.length cap) ls w') (by kernel_rfl) HOW.out (fun hHeld => ?_)
      refine wpAnyH_take (i := 1) (oi := ⟨some 36, .move (.tmp 8), 79, "oid.go:36", #[], none⟩) (v := ?_) rfl (by kernel_rfl) (by kernel_rfl) (by kernel_rfl) (fun _ _ _ h => h) (Or.inl ⟨by rfl, ?_⟩) hHeld ?_
      rotate_left
      · (intro w hSw; go_simp; with_reducible rfl)
      simp only [Act.put, List.setIfInBounds_toArray, List.set_cons_zero, List.set_cons_succ]
      refine wpAnyH_take (i := 2) (oi := ⟨some 37, .convert 79 9 (.tmp 36), 9, "oid.go:36", #[⟨1, .data⟩], none⟩) (v := .string (str hd)) rfl (by kernel_rfl) (by kernel_rfl) (by kernel_rfl) (fun _ _ _ h => h) (Or.inl ⟨by rfl, ?_⟩) hHeld ?_
      · intro w' hSw
        have hcv := bytes_string (P := Tryd.prog) (src := 79) (dst := 9) hSw.1 Tryd.underlying79 Tryd.underlying5 Tryd.underlying9 HHL.out
        go_simp
      simp only [Act.put, List.setIfInBounds_toArray, List.set_cons_zero, List.set_cons_succ]
      refine wpAnyH_take (i := 5) (oi := ⟨some 40, .move (.tmp 1), 76, "oid.go:36", #[], none⟩) (v := ?_) rfl (by kernel_rfl) (by kernel_rfl) (by kernel_rfl) (fun _ _ _ h => h) (Or.inl ⟨by rfl, ?_⟩) hHeld ?_
      rotate_left
      · (intro w hSw; go_simp; with_reducible rfl)
      simp only [Act.put, List.setIfInBounds_toArray, List.set_cons_zero, List.set_cons_succ]
      have h2b : 2 ≤ W1.heap.size := by omega
      refine wpAnyH_ready (rs := [0, 3]) (by kernel_rfl) (by simp) (AllReadyH.cons rfl (fun K hK => ?_) (AllReadyH.cons rfl (fun K hK => ?_) AllReadyH.nil))
      · go_simp
        refine (new_any _ hHeld.2.2.1).mono ?_
        rintro e w2 ⟨rfl, hh2, hb2, hz2⟩
        dsimp only
        refine hK.out _ _ (hHeld.below hb2) (fun hHeld2 => ?_)
        clear hK K
        refine wpAnyH_ready (rs := [3]) (by kernel_rfl) (by simp) (AllReadyH.cons rfl (fun K hK => ?_) AllReadyH.nil)
        go_simp
        have HH := Lib.hid (hh2.alloc (.cells #[tx [99, 114, 118], tx hd] 9))
        have HSS := Lib.hid (show StrSlice (w2.alloc (.cells #[tx [99, 114, 118], tx hd] 9)) (.slice (some ⟨W1.heap.size + 1, 0, none⟩) 2 2) [[99, 114, 118], hd] by
          have h := StrSlice.new (w := w2) (t := 9) [[99, 114, 118], hd] 2
          rw [hz2] at h
          exact h)
        refine hK.out _ _ (hHeld2.below (belowSelf _ _)) (fun hHeld3 => ?_)
        clear hK K hh2 hb2 hz2
        have hB1 : Hb < W1.heap.size := by omega
        have hB0 : w.heap.size < W1.heap.size := by omega
        have hB2 : 2 ≤ W1.heap.size := by omega
        refine wpAnyH_ready (rs := [4]) (by kernel_rfl) (by simp) (AllReadyH.cons rfl (fun K hK => ?_) AllReadyH.nil)
        go_simp
        refine (write_any _ (W1.heap.size) [] _ [[99, 114, 118], hd] hHeld3.2.2.1 hB2 HH.out HSS.out (by simp) (by simp; rw [HHL.out]; omega)).mono ?_
        rintro e w4 ⟨rfl, hh4, hg4⟩
        dsimp only
        refine hK.out _ _ (OfW.write hHeld3 HH.out hg4 hB1 hB0 hB2) (fun hHeld4 => ?_)
        clear hK K
        rw [show ([] : List UInt8) ++ ([[99, 114, 118], hd] : List (List UInt8)).flatten = [99, 114, 118] ++ hd from by simp] at hh4
        have HH4 := Lib.hid hh4
        clear hh4 hg4 HH HSS
        refine wpAnyH_ready (rs := [6]) (by kernel_rfl) (by simp) (AllReadyH.cons rfl (fun K hK => ?_) AllReadyH.nil)
        go_simp
        refine (write_any _ (W1.heap.size) _ _ ls hHeld4.2.2.1 hB2 HH4.out hHeld4.2.2.2.1 (by omega) (by rw [← HLL.out]; simp; rw [HHL.out]; omega)).mono ?_
        rintro e w5 ⟨rfl, hh5, hg5⟩
        dsimp only
        refine hK.out _ _ (OfW.write hHeld4 HH4.out hg5 hB1 hB0 hB2) (fun hHeld5 => ?_)
        clear hK K
        have HH5 := Lib.hid hh5
        clear hh5 hg5 HH4
        refine wpAnyH_ready (rs := [7]) (by kernel_rfl) (by simp) (AllReadyH.cons rfl (fun K hK => ?_) AllReadyH.nil)
        go_simp
        refine (sum_any _ (W1.heap.size) _ hHeld5.2.2.1 HH5.out (by rw [List.length_append, ← HLL.out]; simp; rw [HHL.out]; omega)).mono ?_
        rintro e w6 ⟨rfl, hb6⟩
        dsimp only
        refine hK.out _ _ (hHeld5.below hb6) (fun hHeld6 => ?_)
        clear hK K HH5
        obtain ⟨d, hd'⟩ : ∃ d, d = sha ([99, 114, 118] ++ hd ++ ls.flatten) := ⟨_, rfl⟩
        have hdl : d.length = 32 := by rw [hd']; rfl
        have HD := Lib.hid (show d = sha ([99, 114, 118] ++ headOf kind ls.flatten.length ++ ls.flatten) by rw [hd', HHD.out, HLL.out])
        rw [← hd']
        clear hd'
        refine wpAnyH_ready (rs := [8]) (by kernel_rfl) (by simp) (AllReadyH.cons rfl (fun K hK => ?_) AllReadyH.nil)
        obtain ⟨q1, ⟨cs, hcl, q2⟩, q3, q4, q5⟩ := hHeld6
        refine step_store_mem q2 (d.map byteV) TI (.tmp 4) (.tmp 42) rfl rfl rfl rfl (sz_id d hdl) (by rw [List.length_map, hcl, hdl]) (one_bytes d) ?_
        intro W7 hm7 hg7
        have hb7 : Below w.heap.size w W7 := belowNew q5 hg7 (Nat.le_refl _)
        refine hK.out _ _ ⟨q1.grown hg7 (fun e => by injection e with e; omega), ⟨d.map byteV, by rw [List.length_map, hdl], hm7⟩, HC.out.below hb7, HV.out.below hb7, hb7⟩ (fun hHeld7 => ?_)
        clear hK K
        refine wpAnyH_done (by kernel_rfl) ?_ _
        rename_i K hK hTr
        refine hK _ _ ?_
        go_wp2
        exact bodyPost_ret (v := .agg (d.map byteV).toArray) (results_mem hm7 rfl _ (.array 32 5) rfl Tryd.underlying35 rfl (sz_id d hdl)) rfl ⟨by rw [HD.out]; simp, hb7⟩
      · go_simp
        have HSS0 := Lib.hid (show StrSlice (W1.alloc (.cells #[tx [99, 114, 118], tx hd] 9)).drew (.slice (some ⟨W1.heap.size, 0, none⟩) 2 2) [[99, 114, 118], hd] from StrSlice.new (w := W1) (t := 9) [[99, 114, 118], hd] 2)
        refine hK.out _ _ (OfW.below (w := W1.drew) hHeld (belowSelf W1.drew _)) (fun hHeld2 => ?_)
        clear hK K
        refine wpAnyH_ready (rs := [0]) (by kernel_rfl) (by simp) (AllReadyH.cons rfl (fun K hK => ?_) AllReadyH.nil)
        go_simp
        refine (new_any _ hHeld2.2.2.1).mono ?_
        rintro e w3 ⟨rfl, hh3, hb3, hz3⟩
        dsimp only
        refine hK.out _ _ (hHeld2.below hb3) (fun hHeld3 => ?_)
        clear hK K
        have hse : (W1.alloc (.cells #[tx [99, 114, 118], tx hd] 9)).drew.heap.size = W1.heap.size + 1 := by simp
        rw [hse] at hh3
        have HH := Lib.hid hh3
        have HSS := Lib.hid (HSS0.out.below hb3)
        clear hh3 hb3 hz3 HSS0
        have hB1 : Hb < W1.heap.size + 1 := by omega
        have hB0 : w.heap.size < W1.heap.size + 1 := by omega
        have hB2 : 2 ≤ W1.heap.size + 1 := by omega
        refine wpAnyH_ready (rs := [4]) (by kernel_rfl) (by simp) (AllReadyH.cons rfl (fun K hK => ?_) AllReadyH.nil)
        go_simp
        refine (write_any _ (W1.heap.size + 1) [] _ [[99, 114, 118], hd] hHeld3.2.2.1 hB2 HH.out HSS.out (by simp) (by simp; rw [HHL.out]; omega)).mono ?_
        rintro e w4 ⟨rfl, hh4, hg4⟩
        dsimp only
        refine hK.out _ _ (OfW.write hHeld3 HH.out hg4 hB1 hB0 hB2) (fun hHeld4 => ?_)
        clear hK K
        rw [show ([] : List UInt8) ++ ([[99, 114, 118], hd] : List (List UInt8)).flatten = [99, 114, 118] ++ hd from by simp] at hh4
        have HH4 := Lib.hid hh4
        clear hh4 hg4 HH HSS
        refine wpAnyH_ready (rs := [6]) (by kernel_rfl) (by simp) (AllReadyH.cons rfl (fun K hK => ?_) AllReadyH.nil)
        go_simp
        refine (write_any _ (W1.heap.size + 1) _ _ ls hHeld4.2.2.1 hB2 HH4.out hHeld4.2.2.2.1 (by omega) (by rw [← HLL.out]; simp; rw [HHL.out]; omega)).mono ?_
        rintro e w5 ⟨rfl, hh5, hg5⟩
        dsimp only
        refine hK.out _ _ (OfW.write hHeld4 HH4.out hg5 hB1 hB0 hB2) (fun hHeld5 => ?_)
        clear hK K
        have HH5 := Lib.hid hh5
        clear hh5 hg5 HH4
        refine wpAnyH_ready (rs := [7]) (by kernel_rfl) (by simp) (AllReadyH.cons rfl (fun K hK => ?_) AllReadyH.nil)
        go_simp
        refine (sum_any _ (W1.heap.size + 1) _ hHeld5.2.2.1 HH5.out (by rw [List.length_append, ← HLL.out]; simp; rw [HHL.out]; omega)).mono ?_
        rintro e w6 ⟨rfl, hb6⟩
        dsimp only
        refine hK.out _ _ (hHeld5.below hb6) (fun hHeld6 => ?_)
        clear hK K HH5
        obtain ⟨d, hd'⟩ : ∃ d, d = sha ([99, 114, 118] ++ hd ++ ls.flatten) := ⟨_, rfl⟩
        have hdl : d.length = 32 := by rw [hd']; rfl
        have HD := Lib.hid (show d = sha ([99, 114, 118] ++ headOf kind ls.flatten.length ++ ls.flatten) by rw [hd', HHD.out, HLL.out])
        rw [← hd']
        clear hd'
        refine wpAnyH_ready (rs := [8]) (by kernel_rfl) (by simp) (AllReadyH.cons rfl (fun K hK => ?_) AllReadyH.nil)
        obtain ⟨q1, ⟨cs, hcl, q2⟩, q3, q4, q5⟩ := hHeld6
        refine step_store_mem q2 (d.map byteV) TI (.tmp 4) (.tmp 42) rfl rfl rfl rfl (sz_id d hdl) (by rw [List.length_map, hcl, hdl]) (one_bytes d) ?_
        intro W7 hm7 hg7
        have hb7 : Below w.heap.size w W7 := belowNew q5 hg7 (Nat.le_refl _)
        refine hK.out _ _ ⟨q1.grown hg7 (fun e => by injection e with e; omega), ⟨d.map byteV, by rw [List.length_map, hdl], hm7⟩, HC.out.below hb7, HV.out.below hb7, hb7⟩ (fun hHeld7 => ?_)
        clear hK K
        refine wpAnyH_done (by kernel_rfl) ?_ _
        rename_i K hK hTr
        refine hK _ _ ?_
        go_wp2
        exact bodyPost_ret (v := .agg (d.map byteV).toArray) (results_mem hm7 rfl _ (.array 32 5) rfl Tryd.underlying35 rfl (sz_id d hdl)) rfl ⟨by rw [HD.out]; simp, hb7⟩
attribute [local go_sem] ByteArray.mk_append_mk

theorem byteStr (x : Int) (b : UInt8) (hx : x = (b.toNat : Int)) (W : World) {g : Nat} (hm : Mem W g 5 [.int .u8 x]) :
    (convert 79 9 (.slice (some ⟨g, 0, none⟩) 1 1)).run Tryd.prog W = .ok (.string (str [b])) W := by
  subst hx
  exact (Owns.of_mem (cs := [b].map byteV) hm (Nat.zero_le _) 1 1 (Nat.le_refl _) rfl (by simp [maxLen]) rfl).string Tryd.underlying79 Tryd.underlying5 Tryd.underlying9

set_option maxHeartbeats 2000000 in
set_option maxRecDepth 100000 in
theorem refOfOid_any (s : List UInt8) (w : World) (hs : s.length ≤ 1000000) :
    Calls Tryd.prog 32 #[.int .i64 1, .string (str s)] w fun e w' => e = .returned (.string (str (sha ([99, 114, 118] ++ headOf 1 s.length ++ s)))) ∧ Below w.heap.size w w' := by
  have hcv : ∀ W : World, (convert 79 9 (.slice (some ⟨W.heap.size, 0, none⟩) 1 1)).run Tryd.prog (W.alloc (.cells #[.int .u8 1] 5)) = .ok (.string (str [1])) (W.alloc (.cells #[.int .u8 1] 5)) := fun W => byteStr 1 1 rfl _ (Mem.new W _ _)
  have hcd : ∀ W : World, (convert 79 9 (.slice (some ⟨W.heap.size, 0, none⟩) 1 1)).run Tryd.prog (W.alloc (.cells #[.int .u8 1] 5)).drew = .ok (.string (str [1])) (W.alloc (.cells #[.int .u8 1] 5)).drew := fun W => byteStr 1 1 rfl _ (Mem.new W _ _).drew
  obtain ⟨L, hL⟩ : ∃ L, L = s.length := ⟨_, rfl⟩
  have HL := Lib.hid hL
  have hLI : L ≤ 1000000 := by omega
  have HBY := Lib.hid (fun W => refBytes_any s.length W (by omega))
  have HSZ := Lib.hid (show w.heap.size < ((w.alloc (.cells #[.int .u8 1] 5)).drew).heap.size by simp)
  have u0 : IntKind.u8.wrap 1 = 1 := by decide
  have u1 : IntKind.u32.wrap (s.length : Int) = (s.length : Int) := IntWalk.u32_in _ (by omega)
  have HREF := Lib.hid (fun W => refOf_any ([99, 114, 118] ++ headOf 1 s.length ++ s) W (by simp [headOf, be4]; omega))
  obtain ⟨b4, hb4⟩ : ∃ b4, b4 = be4 s.length := ⟨_, rfl⟩
  have hb4l : b4.length = 4 := by rw [hb4]; rfl
  have HHD := Lib.hid (show [99, 114, 118] ++ headOf 1 s.length ++ s = ([99, 114, 118, 1] : List UInt8) ++ (b4 ++ s) by rw [hb4]; simp [headOf])
  rw [← hb4] at HBY
  obtain ⟨D, hD⟩ : ∃ D, D = sha ([99, 114, 118] ++ headOf 1 s.length ++ s) := ⟨_, rfl⟩
  rw [← hD, HHD.out] at HREF
  rw [← hD]
  clear hL hb4 hD
  go_enter Tryd.func32, Tryd.ntmps32
  go_wp2_with fail
  go_region_with (first
      | (go_at_call 41; refine (HBY.out _).mono ?_; rintro e w1 ⟨rfl, hb1⟩; (first | have hc1 := byteStr 1 1 rfl w1 (Mem.below (Mem.drew (Mem.new w 5 [.int .u8 1])) hb1 HSZ.out) | skip))
      | (go_at_call 40; refine (HREF.out _).mono ?_; rintro e w2 ⟨rfl, hb2⟩)
      | fail)
  all_goals
    rename_i K hK hov
    refine hK _ _ ?_
    go_wp2
    go_ret
    first
      | exact ⟨rfl, belowThen (belowThen (below_drewN (belowSelf w _) 1) hb1) hb2⟩
      | exact ⟨rfl, belowThen (belowThen (belowThen (below_drewN (Below.refl w.heap.size w) 1) hb1) (belowSelf _ _)) hb2⟩
end Go.Proofs.YtblfekecmahagaaDoor

/-
  Several texts in one: their sentences stand at their heads.
-/
import Derived.Test.YtjdhcanblpifcaaDoorLeaf
import Derived.Test.YtjdhcanblpifcaaDoorApp
import Derived.Test.YtjdhcanblpifcaaDoorMix
import Derived.Test.YtjdhcanblpifcaaDoorStr2
import Derived.Laws.Concat
/-
  The reference of layer 1: word, key, Bytes, schedule.
-/
namespace Go.Proofs.YtjdhcanblpifcaaDoor
open Go.RowKit Crv

theorem ret_str {a b : List UInt8} (h : a = b) : Ending.returned (.string (str a)) = .returned (.string (str b)) := by rw [h]

set_option maxHeartbeats 400000 in
theorem word_any (l : List UInt8) (w : World) (hl : 4 ≤ l.length) :
    Calls Tryd.prog 90 #[.string (str l)] w fun e w' => e = .returned (.int .u32 (wordAt l 0)) ∧ ∃ k, w' = w.drewN k := by
  obtain ⟨b0, h0⟩ : ∃ b, b = l.getD 0 0 := ⟨_, rfl⟩
  obtain ⟨b1, h1⟩ : ∃ b, b = l.getD 1 0 := ⟨_, rfl⟩
  obtain ⟨b2, h2⟩ : ∃ b, b = l.getD 2 0 := ⟨_, rfl⟩
  obtain ⟨b3, h3⟩ : ∃ b, b = l.getD 3 0 := ⟨_, rfl⟩
  have i0 : ∀ W, (Instr.index 9 (.string (str l)) (.int .i64 0)).run Tryd.prog W = .ok (.int .u8 (b0.toNat : Int)) W := fun W => by rw [h0]; exact run_index_str 9 Tryd.underlying9 l .i64 0 (by omega) W
  have i1 : ∀ W, (Instr.index 9 (.string (str l)) (.int .i64 1)).run Tryd.prog W = .ok (.int .u8 (b1.toNat : Int)) W := fun W => by rw [h1]; exact run_index_str 9 Tryd.underlying9 l .i64 1 (by omega) W
  have i2 : ∀ W, (Instr.index 9 (.string (str l)) (.int .i64 2)).run Tryd.prog W = .ok (.int .u8 (b2.toNat : Int)) W := fun W => by rw [h2]; exact run_index_str 9 Tryd.underlying9 l .i64 2 (by omega) W
  have i3 : ∀ W, (Instr.index 9 (.string (str l)) (.int .i64 3)).run Tryd.prog W = .ok (.int .u8 (b3.toNat : Int)) W := fun W => by rw [h3]; exact run_index_str 9 Tryd.underlying9 l .i64 3 (by omega) W
  have HW := Lib.hid (show wordAt l 0 = b0.toNat * 16777216 + b1.toNat * 65536 + b2.toNat * 256 + b3.toNat by rw [h0, h1, h2, h3]; rfl)
  clear h0 h1 h2 h3
  have l0 := b0.toNat_lt
  have l1 := b1.toNat_lt
  have l2 := b2.toNat_lt
  have l3 := b3.toNat_lt
  go_enter Tryd.func90, Tryd.ntmps90
  go_wp2
  go_quiet (fail)
  go_wp2
  go_ret
  refine ⟨ret_u32 ?_, _, rfl⟩
  rw [HW.out]
  show (b0.toNat : Int) * 16777216 + (b1.toNat : Int) * 65536 + (b2.toNat : Int) * 256 + (b3.toNat : Int) = _
  omega

set_option maxHeartbeats 400000 in
theorem key_any (i : Nat) (w : World) (hi : i < 64) :
    Calls Tryd.prog 87 #[.int .i64 i] w fun e w' => e = .returned (.int .u32 (key i)) ∧ Below w.heap.size w w' := by
  go_enter Tryd.func87, Tryd.ntmps87
  go_wp2
  go_ret
  refine ⟨?_, (Below.refl _ _).alloc (Nat.le_refl _) _⟩
  have hk : (keyList.map wordV)[i]'(by simpa [keyList] using hi) = .int .u32 (key i) := by
    simp [key, List.getElem?_eq_getElem (show i < keyList.length by simpa [keyList] using hi)]
  rw [← hk]
  rfl

set_option maxHeartbeats 400000 in
theorem refBytes_any (x : Nat) (w : World) (hx : x < 4294967296) :
    Calls Tryd.prog 68 #[.int .u32 x] w fun e w' => e = .returned (.string (str (be4 x))) ∧ Below w.heap.size w w' := by
  have hcv : (convert 59 9 (.slice (some ⟨w.heap.size, 0, none⟩) 4 4)).run Tryd.prog (w.alloc (.cells #[.int .u8 ((x : Int) / 16777216), .int .u8 ((x : Int) / 65536 % 256), .int .u8 ((x : Int) / 256 % 256), .int .u8 ((x : Int) % 256)] 5)) =
      .ok (.string (str (be4 x))) (w.alloc (.cells #[.int .u8 ((x : Int) / 16777216), .int .u8 ((x : Int) / 65536 % 256), .int .u8 ((x : Int) / 256 % 256), .int .u8 ((x : Int) % 256)] 5)) := by
    have e : #[Value.int .u8 ((x : Int) / 16777216), .int .u8 ((x : Int) / 65536 % 256), .int .u8 ((x : Int) / 256 % 256), .int .u8 ((x : Int) % 256)] = ((be4 x).map byteV).toArray := by
      have c0 : (x : Int) / 16777216 = ((UInt8.ofNat (x / 16777216)).toNat : Int) := by rw [UInt8.toNat_ofNat']; omega
      have c1 : (x : Int) / 65536 % 256 = ((UInt8.ofNat (x / 65536)).toNat : Int) := by rw [UInt8.toNat_ofNat']; omega
      have c2 : (x : Int) / 256 % 256 = ((UInt8.ofNat (x / 256)).toNat : Int) := by rw [UInt8.toNat_ofNat']; omega
      have c3 : (x : Int) % 256 = ((UInt8.ofNat x).toNat : Int) := by rw [UInt8.toNat_ofNat']; omega
      rw [c0, c1, c2, c3]
      rfl
    rw [e]
    exact (Owns.of_mem (Mem.new w _ _) (Nat.zero_le _) 4 4 (Nat.le_refl _) rfl (by simp [maxLen]) rfl).string Tryd.underlying59 Tryd.underlying5 Tryd.underlying9
  go_enter Tryd.func68, Tryd.ntmps68
  go_wp2
  go_ret
  exact ⟨rfl, (Below.refl _ _).alloc (Nat.le_refl _) _⟩

/-- The contract of ror as the walk writes the amount. -/
theorem ror_int (x : Nat) (k : Int) (w : World) (hx : x < 4294967296) (h1 : 0 < k) (h2 : k < 32) :
    Calls Tryd.prog 86 #[.int .u32 x, .int .i64 k] w fun e w' => e = .returned (.int .u32 (rotr k.toNat x)) ∧ ∃ n, w' = w.drewN n := by
  obtain ⟨n, rfl⟩ := Int.eq_ofNat_of_zero_le (Int.le_of_lt h1)
  exact ror_any x n w hx (by omega) (by omega)
end Go.Proofs.YtjdhcanblpifcaaDoor

/-
  The reference of layer 1: schedule.
-/
namespace Go.Proofs.YtjdhcanblpifcaaDoor
open Go.RowKit Crv

theorem words_take_succ (m : List UInt8) (k : Nat) (h : k < 16) : (words16 m).take (k + 1) = (words16 m).take k ++ [wordAt m k] := by
  rw [List.take_succ_eq_append_getElem (by rw [length_words16]; exact h)]
  simp [words16]
theorem wordAt_drop (m : List UInt8) (k : Nat) : wordAt (m.drop (4 * k)) 0 = wordAt m k := by
  simp [wordAt, List.getElem?_drop]

theorem index_facts2 (x : Int) (i n : Nat) (h : x = i) (hi : i < n) (hn : n ≤ 1099511627776) : IntKind.i64.wrap x = (i : Int) ∧ (0 : Int) ≤ (i : Int) ∧ (i : Int) < (n : Int) ∧ (i : Int).toNat = i :=
  ⟨by rw [IntWalk.i64_in _ (by omega), h], by omega, by omega, by omega⟩

theorem ss0_ref (x : Nat) (h : x < 4294967296) : bits .xor .u32 (bits .xor .u32 (rotr 7 x : Int) (rotr 18 x : Int)) ((x : Int) / 8) = ((ss0 x : Nat) : Int) := by
  have l1 := rotr_lt (n := 7) (by omega) h
  have l2 := rotr_lt (n := 18) (by omega) h
  rw [xor_u32 _ _ l1 l2, show (x : Int) / 8 = ((x / 8 : Nat) : Int) from by omega, xor_u32 _ _ (xor_lt l1 l2) (by omega)]
  rfl
theorem ss1_ref (x : Nat) (h : x < 4294967296) : bits .xor .u32 (bits .xor .u32 (rotr 17 x : Int) (rotr 19 x : Int)) ((x : Int) / 1024) = ((ss1 x : Nat) : Int) := by
  have l1 := rotr_lt (n := 17) (by omega) h
  have l2 := rotr_lt (n := 19) (by omega) h
  rw [xor_u32 _ _ l1 l2, show (x : Int) / 1024 = ((x / 1024 : Nat) : Int) from by omega, xor_u32 _ _ (xor_lt l1 l2) (by omega)]
  rfl
/-- Two cells of an older world behind a draw, a new block and an append. -/
theorem keeps_two {wr w3 : World} {d : Nat} {ob : Obj} {v : Value} {n g i j : Nat} {x y : Value} (h : Keeps ((wr.drewN d).alloc ob) v n w3) (hx : wr.cell? ⟨g, i, none⟩ = some x) (hy : wr.cell? ⟨g, j, none⟩ = some y)
    (hg : g < wr.heap.size) (hij : i < n ∧ j < n) : w3.cell? ⟨g, i, none⟩ = some x ∧ w3.cell? ⟨g, j, none⟩ = some y :=
  ⟨h _ _ _ ((World.cell?_alloc_lt (wr.drewN d) ob ⟨g, i, none⟩ hg).trans hx) (fun _ => hij.1), h _ _ _ ((World.cell?_alloc_lt (wr.drewN d) ob ⟨g, j, none⟩ hg).trans hy) (fun _ => hij.2)⟩

set_option maxHeartbeats 1000000 in
set_option maxRecDepth 100000 in
theorem refSchedule_any (m : List UInt8) (w : World) (hm : m.length = 64) :
    Calls Tryd.prog 85 #[.string (str m)] w fun e w' => ∃ v, e = .returned v ∧ Owns w' w.heap.size 106 v ((schedule m).map wordV) ∧ Below w.heap.size w w' := by
  have HM := Lib.hid hm
  clear hm
  obtain ⟨i, hi, hz, hs, hby⟩ : ∃ i, Tryd.prog.info? 106 = some i ∧ i.zero = some (.int .u32 0) ∧ i.size = 1 ∧ i.bytes = 4 := info_of (by kernel_rfl)
  have HBY : i.bytes ≤ 64 := by omega
  have HI := Lib.hid hi
  have HZ := Lib.hid hz
  have HS := Lib.hid hs
  clear hi hz hs hby
  go_enter Tryd.func85, Tryd.ntmps85
  go_wp2
  go_loopw [3, 4] (fun v i wr => ∃ k : Nat, k ≤ 16 ∧ i = .int .i64 k ∧ Owns wr w.heap.size 106 v (((words16 m).take k).map wordV) ∧ Below w.heap.size w wr) (fun _ i _ => 16 - (intOf i).toNat)
  case atStart => exact ⟨0, by omega, rfl, Owns.of_mem (Mem.new w 106 []) (Nat.le_refl _) 0 0 (Nat.le_refl _) rfl (by simp [maxLen]) rfl, (Below.refl _ _).alloc (Nat.le_refl _) _⟩
  case round =>
    obtain ⟨k, hk, rfl, hown, hb⟩ := hrel
    have HO := Lib.hid hown
    clear hown
    have hbz := hb.size
    by_cases hlt : k < 16
    · have hd : decide ((k : Int) < 16) = true := by simp; omega
      have e4 : 4 * (k : Int) = ((4 * k : Nat) : Int) := by omega
      have hsl := fun W => slice_str_from (P := Tryd.prog) Tryd.underlying9 m .i64 (4 * k) (by rw [HM.out]; omega) W
      rw [← e4] at hsl
      clear e4
      go_wp2_with fail
      refine (word_any _ _ (by rw [List.length_drop, HM.out]; omega)).mono ?_
      rintro e w2 ⟨rfl, n, rfl⟩
      rw [wordAt_drop]
      go_wp2_with (first
        | (at_builtin; refine wp_append_keep ((HO.out.drewN n).alloc _) w.heap.size ((below_drewN hb n).alloc hbz _) (Nat.le_refl _) [wordV (wordAt m k)] (.tmp 13) (.tmp 19) 163 i (.int .u32 0) rfl rfl Tryd.underlying163 HI.out HZ.out HS.out HBY rfl rfl rfl ?news ?one ?len ?base ?_)
        | fail)
      case news => intro j u hu; exact cell_news_one _ _ _ j u hu
      case one => intro u hu; simp at hu; subst hu; rfl
      case len => simp; omega
      case base => simp; omega
      intro v' w3 hown' hb3 hz3 _
      have HO3 := Lib.hid hown'
      clear hown'
      go_wp2
      go_roundw
      case rel => exact ⟨k + 1, by omega, by go_num, by rw [words_take_succ m k hlt, List.map_append, List.map_take]; exact HO3.out, hb3⟩
      case measure => simp [intOf]; omega
    · have e16 : k = 16 := by omega
      subst e16
      have h16 : (words16 m).take 16 = sched (words16 m) 0 := by rw [List.take_of_length_le (by rw [length_words16]; exact Nat.le_refl _)]; rfl
      rw [h16] at HO
      clear h16 hk hlt
      go_wp2
      go_loopw [3, 5] (fun v i wr => ∃ k : Nat, k ≤ 48 ∧ i = .int .i64 (16 + (k : Int)) ∧ Owns wr w.heap.size 106 v ((sched (words16 m) k).map wordV) ∧ Below w.heap.size w wr) (fun _ i _ => 64 - (intOf i).toNat)
      case atStart => exact ⟨0, by omega, rfl, HO.out, hb⟩
      case round =>
        clear HO hb hbz
        obtain ⟨k, hk, rfl, hown, hb⟩ := hrel
        have hbz := hb.size
        have hlen := length_sched (length_words16 m) k
        by_cases hlt : k < 48
        · obtain ⟨a, cap, hv, hcap, hcm, hcell⟩ := hown.form
          rw [List.length_map, hlen] at hcap hcell hv
          obtain ⟨g, rfl, hgb, _⟩ := hcell 0 (by omega)
          subst hv
          have hat : ∀ j, j < 16 + k → wr.cell? ⟨g, j, none⟩ = some (.int .u32 (((sched (words16 m) k).getD j 0 : Nat) : Int)) := fun j hj => by
            obtain ⟨g', hg', _, hc⟩ := hcell j hj
            injection hg' with hg'
            injection hg' with hg'
            subst hg'
            rw [hc, List.getElem?_map, List.getD_eq_getElem?_getD, List.getElem?_eq_getElem (by omega)]
            rfl
          have hlt4 := getD_lt (sched_lt (words16_lt m) k)
          obtain ⟨x0, hx0⟩ : ∃ x, x = (sched (words16 m) k).getD k 0 := ⟨_, rfl⟩
          obtain ⟨x1, hx1⟩ : ∃ x, x = (sched (words16 m) k).getD (k + 1) 0 := ⟨_, rfl⟩
          obtain ⟨x9, hx9⟩ : ∃ x, x = (sched (words16 m) k).getD (k + 9) 0 := ⟨_, rfl⟩
          obtain ⟨x14, hx14⟩ : ∃ x, x = (sched (words16 m) k).getD (k + 14) 0 := ⟨_, rfl⟩
          have c0 := hat k (by omega)
          have c1 := hat (k + 1) (by omega)
          have c9 := hat (k + 9) (by omega)
          have c14 := hat (k + 14) (by omega)
          rw [← hx0] at c0
          rw [← hx1] at c1
          rw [← hx9] at c9
          rw [← hx14] at c14
          have l1 : x1 < 4294967296 := by rw [hx1]; exact hlt4 _
          have l14 : x14 < 4294967296 := by rw [hx14]; exact hlt4 _
          have l0 : x0 < 4294967296 := by rw [hx0]; exact hlt4 _
          have l9 : x9 < 4294967296 := by rw [hx9]; exact hlt4 _
          have HX := Lib.hid (show nextWord (sched (words16 m) k) k = (x0 + ss0 x1 + x9 + ss1 x14) % 4294967296 by rw [hx0, hx1, hx9, hx14]; rfl)
          have HO := Lib.hid hown
          have HL := Lib.hid hlen
          clear hx0 hx1 hx9 hx14 hat hcell hown hlt4 hlen
          have hd : decide (16 + (k : Int) < 64) = true := by simp; omega
          obtain ⟨i15, p15, q15, t15⟩ := index_facts2 (16 + (k : Int) - 15) (k + 1) (16 + k) (by omega) (by omega) (by omega)
          obtain ⟨i2, p2, q2, t2⟩ := index_facts2 (16 + (k : Int) - 2) (k + 14) (16 + k) (by omega) (by omega) (by omega)
          obtain ⟨i16, p16, q16, t16⟩ := index_facts2 (16 + (k : Int) - 16) k (16 + k) (by omega) (by omega) (by omega)
          obtain ⟨i7, p7, q7, t7⟩ := index_facts2 (16 + (k : Int) - 7) (k + 9) (16 + k) (by omega) (by omega) (by omega)
          rw [show ((k + 1 : Nat) : Int) = (k : Int) + 1 from by omega] at i15 p15 q15 t15
          rw [show ((k + 14 : Nat) : Int) = (k : Int) + 14 from by omega] at i2 p2 q2 t2
          rw [show ((k + 9 : Nat) : Int) = (k : Int) + 9 from by omega] at i7 p7 q7 t7
          rw [show ((16 + k : Nat) : Int) = 16 + (k : Int) from by omega] at q15 q2 q16 q7
          have wk : IntKind.i64.wrap (k : Int) = (k : Int) := IntWalk.i64_in _ (by omega)
          have d8 : IntKind.u32.wrap ((x1 : Int) / 8) = (x1 : Int) / 8 := IntWalk.u32_in _ (by omega)
          have d1024 : IntKind.u32.wrap ((x14 : Int) / 1024) = (x14 : Int) / 1024 := IntWalk.u32_in _ (by omega)
          have hs0 := ss0_ref x1 l1
          have hs1 := ss1_ref x14 l14
          obtain ⟨nx, hnx⟩ : ∃ x, x = nextWord (sched (words16 m) k) k := ⟨_, rfl⟩
          have hsum : IntKind.u32.wrap (IntKind.u32.wrap (IntKind.u32.wrap ((x0 : Int) + (ss0 x1 : Int)) + (x9 : Int)) + (ss1 x14 : Int)) = (nx : Int) := by
            rw [hnx, HX.out]; simp only [IntKind.wrap_u32']; omega
          have HNX := Lib.hid hnx
          have hone : ∀ u ∈ [wordV nx], u.oneCell' = true := by intro u hu; simp at hu; subst hu; rfl
          have hcg := World.block_lt_of_cell? wr _ c0
          clear hnx
          go_wp2_with fail
          go_region_held3 (fun w' => w'.cell? ⟨g, k, none⟩ = some (.int .u32 (x0 : Int)) ∧ w'.cell? ⟨g, k + 9, none⟩ = some (.int .u32 (x9 : Int)))
            (first
              | go_keep
              | (exact keeps_two hkp c0 c9 hcg (by rw [List.length_map, HL.out]; omega)))
            (first
              | (go_at_call 86; refine (ror_int _ _ _ ?_ (by decide) (by decide)).mono ?_; (first | exact l1 | exact l14); rintro e w2 ⟨rfl, n, rfl⟩)
              | (refine step_append_keep ((HO.out.drewN _).alloc _) w.heap.size ((below_drewN hb _).alloc hbz _) (Nat.le_refl _) [wordV nx] (.tmp 35) (.tmp 65) 163 i (.int .u32 0) rfl rfl Tryd.underlying163 HI.out HZ.out HS.out HBY rfl rfl rfl (fun j u hu => cell_news_one _ _ _ j u hu) hone (by rw [List.length_map, HL.out]; simp; omega) (by simp; omega) ?_; intro v' w3 hown' hb3 hz3 hkp; have HO3 := Lib.hid hown'; clear hown'))
          have hrel2 : Owns w3 w.heap.size 106 v' ((sched (words16 m) (k + 1)).map wordV) := by
            have := HO3.out
            rw [HNX.out] at this
            simp only [sched, List.map_append]
            exact this
          have HR2 := Lib.hid hrel2
          clear hrel2 hkp hz3 d8 d1024 hs0 hs1 hsum hone i15 p15 q15 t15 i2 p2 q2 t2 i16 p16 q16 t16 i7 p7 q7 t7 wk
          go_wp2
          go_roundw
          case rel =>
            first
              | exact ⟨k + 1, by omega, by go_num, HR2.out, hb3⟩
              | ((repeat apply Exists.intro); exact ⟨⟨k + 1, by omega, by go_num, HR2.out, hb3⟩, rfl⟩)
          case measure => simp [intOf]; omega
        · have e48 : k = 48 := by omega
          subst e48
          have HO := Lib.hid hown
          clear hown
          go_wp2
          go_ret
          exact ⟨_, rfl, HO.out, hb⟩
end Go.Proofs.YtjdhcanblpifcaaDoor

/-
  The reference of layer 1: Mixed.
-/
namespace Go.Proofs.YtjdhcanblpifcaaDoor
open Go.RowKit Crv

/-- Eight words lie at the head of block g. -/
def Eight (w : World) (g : Nat) (s : St) : Prop := ∀ j u, (s.list.map wordV)[j]? = some u → w.cell? ⟨g, j, none⟩ = some u
theorem Eight.below {w w' : World} {g : Nat} {s : St} (h : Eight w g s) (hb : Below w.heap.size w w') : Eight w' g s := fun j u hu =>
  (hb.cell (p := ⟨g, j, none⟩) (World.block_lt_of_cell? w _ (h j u hu))).trans (h j u hu)
theorem Eight.words {w : World} {g : Nat} {s : St} (h : Eight w g s) :
    w.cell? ⟨g, 0, none⟩ = some (.int .u32 s.a) ∧ w.cell? ⟨g, 1, none⟩ = some (.int .u32 s.b) ∧ w.cell? ⟨g, 2, none⟩ = some (.int .u32 s.c) ∧ w.cell? ⟨g, 3, none⟩ = some (.int .u32 s.d) ∧
    w.cell? ⟨g, 4, none⟩ = some (.int .u32 s.e) ∧ w.cell? ⟨g, 5, none⟩ = some (.int .u32 s.f) ∧ w.cell? ⟨g, 6, none⟩ = some (.int .u32 s.g) ∧ w.cell? ⟨g, 7, none⟩ = some (.int .u32 s.h) :=
  ⟨h 0 _ rfl, h 1 _ rfl, h 2 _ rfl, h 3 _ rfl, h 4 _ rfl, h 5 _ rfl, h 6 _ rfl, h 7 _ rfl⟩
/-- A slice of eight words of the call's own, laid open. -/
theorem owns_eight {w : World} {base : Nat} {e : TypeId} {v : Value} {s : St} (h : Owns w base e v (s.list.map wordV)) : ∃ g cap, v = .slice (some ⟨g, 0, none⟩) 8 cap ∧ base ≤ g ∧ Eight w g s := by
  obtain ⟨a, cap, hv, _, _, hc⟩ := h.form
  have hl : (s.list.map wordV).length = 8 := rfl
  obtain ⟨g, rfl, hg, _⟩ := hc 0 (by rw [hl]; omega)
  refine ⟨g, cap, hv, hg, fun j u hu => ?_⟩
  obtain ⟨g', hg', _, hcell⟩ := hc j (List.getElem?_eq_some_iff.1 hu).1
  injection hg' with hg'
  injection hg' with hg'
  subst hg'
  rw [hcell, hu]

theorem bs_bits (n m o x : Nat) (hx : x < 4294967296) (hn : n ≤ 32) (hm : m ≤ 32) (ho : o ≤ 32) : bits .xor .u32 (bits .xor .u32 (rotr n x : Int) (rotr m x : Int)) (rotr o x : Int) = ((rotr n x ^^^ rotr m x ^^^ rotr o x : Nat) : Int) := by
  have l1 := rotr_lt (n := n) hn hx
  have l2 := rotr_lt (n := m) hm hx
  have l3 := rotr_lt (n := o) ho hx
  rw [xor_u32 _ _ l1 l2, xor_u32 _ _ (xor_lt l1 l2) l3]
theorem keeps_eight {W w3 : World} {gv gw k : Nat} {x0 x1 x2 x3 x5 x6 x7 y : Value} (hb : Below W.heap.size W w3)
    (h : W.cell? ⟨gv, 0, none⟩ = some x0 ∧ W.cell? ⟨gv, 1, none⟩ = some x1 ∧ W.cell? ⟨gv, 2, none⟩ = some x2 ∧ W.cell? ⟨gv, 3, none⟩ = some x3 ∧ W.cell? ⟨gv, 5, none⟩ = some x5 ∧ W.cell? ⟨gv, 6, none⟩ = some x6 ∧ W.cell? ⟨gv, 7, none⟩ = some x7 ∧ W.cell? ⟨gw, k, none⟩ = some y) :
    w3.cell? ⟨gv, 0, none⟩ = some x0 ∧ w3.cell? ⟨gv, 1, none⟩ = some x1 ∧ w3.cell? ⟨gv, 2, none⟩ = some x2 ∧ w3.cell? ⟨gv, 3, none⟩ = some x3 ∧ w3.cell? ⟨gv, 5, none⟩ = some x5 ∧ w3.cell? ⟨gv, 6, none⟩ = some x6 ∧ w3.cell? ⟨gv, 7, none⟩ = some x7 ∧ w3.cell? ⟨gw, k, none⟩ = some y := by
  have hk : ∀ (p : Addr) (v : Value), W.cell? p = some v → w3.cell? p = some v := fun p v hp => (hb.cell (World.block_lt_of_cell? W p hp)).trans hp
  exact ⟨hk _ _ h.1, hk _ _ h.2.1, hk _ _ h.2.2.1, hk _ _ h.2.2.2.1, hk _ _ h.2.2.2.2.1, hk _ _ h.2.2.2.2.2.1, hk _ _ h.2.2.2.2.2.2.1, hk _ _ h.2.2.2.2.2.2.2⟩

theorem round_cells (S : St) (k x : Nat) : #[Value.int .u32 (((((((S.h : Int) + (bs1 S.e : Int)) % 4294967296 + (ch S.e S.f S.g : Int)) % 4294967296 + (key k : Int)) % 4294967296 + (x : Int)) % 4294967296 + ((bs0 S.a : Int) + (maj S.a S.b S.c : Int)) % 4294967296) % 4294967296),
      .int .u32 (S.a : Int), .int .u32 (S.b : Int), .int .u32 (S.c : Int), .int .u32 (((S.d : Int) + (((((S.h : Int) + (bs1 S.e : Int)) % 4294967296 + (ch S.e S.f S.g : Int)) % 4294967296 + (key k : Int)) % 4294967296 + (x : Int)) % 4294967296) % 4294967296),
      .int .u32 (S.e : Int), .int .u32 (S.f : Int), .int .u32 (S.g : Int)] = ((round S (key k) x).list.map wordV).toArray := by
  have e1 : (((((S.h : Int) + (bs1 S.e : Int)) % 4294967296 + (ch S.e S.f S.g : Int)) % 4294967296 + (key k : Int)) % 4294967296 + (x : Int)) % 4294967296 = ((t1 S (key k) x : Nat) : Int) := by unfold t1; omega
  have e2 : ((bs0 S.a : Int) + (maj S.a S.b S.c : Int)) % 4294967296 = ((t2 S : Nat) : Int) := by unfold t2; omega
  rw [e1, e2, show (((t1 S (key k) x : Nat) : Int) + ((t2 S : Nat) : Int)) % 4294967296 = (((t1 S (key k) x + t2 S) % 4294967296 : Nat) : Int) from by omega, show ((S.d : Int) + ((t1 S (key k) x : Nat) : Int)) % 4294967296 = (((S.d + t1 S (key k) x) % 4294967296 : Nat) : Int) from by omega]
  rfl
theorem eight_get (s : St) (j : Nat) (h : j < 8) : (s.list.map wordV)[j]? = some (.int .u32 ((s.list.getD j 0 : Nat) : Int)) := by
  rw [List.getElem?_map, List.getD_eq_getElem?_getD, List.getElem?_eq_getElem (show j < s.list.length from h)]
  rfl
theorem plus_get (s t : St) (j : Nat) (h : j < 8) : (s.plus t).list.getD j 0 = (s.list.getD j 0 + t.list.getD j 0) % 4294967296 := by
  match j, h with
  | 0, _ => rfl | 1, _ => rfl | 2, _ => rfl | 3, _ => rfl | 4, _ => rfl | 5, _ => rfl | 6, _ => rfl | 7, _ => rfl
theorem list_take_succ (s : St) (j : Nat) (h : j < 8) : s.list.take (j + 1) = s.list.take j ++ [s.list.getD j 0] := by
  rw [List.take_succ_eq_append_getElem (show j < s.list.length from h), List.getD_eq_getElem?_getD, List.getElem?_eq_getElem (show j < s.list.length from h)]
  rfl
theorem owns_base {w : World} {base base' : Nat} {e : TypeId} {v : Value} {xs : List Value} (h : Owns w base e v xs) (hb : base' ≤ base) : Owns w base' e v xs := by
  refine ⟨h.1, ?_⟩
  rcases h.2 with h0 | ⟨g, cap, cur, h1, h2, h3⟩
  · exact .inl h0
  · exact .inr ⟨g, cap, cur, h1, Nat.le_trans hb h2, h3⟩

theorem Eight.lt0 {w : World} {g : Nat} {s : St} (h : Eight w g s) : g < w.heap.size := World.block_lt_of_cell? w _ (h 0 _ rfl)
/-- A slice of younger memory lies in no older block. -/
theorem own_other {w : World} {base g B : Nat} {e : TypeId} {v : Value} {xs : List Value} (h : Owns w base e v xs) (hg : g < base) (_hB : base ≤ B) : v.ownBlock ≠ some g := fun e => by
  have := (h.lt g e).2
  omega
theorem keeps_both {wr w5 : World} {d : Nat} {ob : Obj} {v : Value} {n g g' i : Nat} {x y : Value} (h : Keeps ((wr.drewN d).alloc ob) v n w5) (hx : wr.cell? ⟨g, i, none⟩ = some x) (hy : wr.cell? ⟨g', i, none⟩ = some y)
    (h1 : v.ownBlock ≠ some g) (h2 : v.ownBlock ≠ some g') : w5.cell? ⟨g, i, none⟩ = some x ∧ w5.cell? ⟨g', i, none⟩ = some y :=
  ⟨h _ _ _ ((World.cell?_alloc_lt (wr.drewN d) ob ⟨g, i, none⟩ (World.block_lt_of_cell? wr _ hx)).trans hx) (fun e => absurd e h1), h _ _ _ ((World.cell?_alloc_lt (wr.drewN d) ob ⟨g', i, none⟩ (World.block_lt_of_cell? wr _ hy)).trans hy) (fun e => absurd e h2)⟩

set_option maxHeartbeats 2000000 in
set_option maxRecDepth 100000 in
theorem refMixed_any (s : St) (g cap : Nat) (m : List UInt8) (w : World) (hs : s.ok) (hm : m.length = 64) (hv : Eight w g s) :
    Calls Tryd.prog 80 #[.slice (some ⟨g, 0, none⟩) 8 cap, .string (str m)] w fun e w' => ∃ v', e = .returned v' ∧ Owns w' w.heap.size 106 v' ((mix s m).list.map wordV) ∧ Below w.heap.size w w' := by
  have HM := Lib.hid hm
  have HV := Lib.hid hv
  clear hm hv
  obtain ⟨i, hi, hz, hs1, hby⟩ : ∃ i, Tryd.prog.info? 106 = some i ∧ i.zero = some (.int .u32 0) ∧ i.size = 1 ∧ i.bytes = 4 := info_of (by kernel_rfl)
  have HBY : i.bytes ≤ 64 := by omega
  have HI := Lib.hid hi
  have HZ := Lib.hid hz
  have HS := Lib.hid hs1
  clear hi hz hs1 hby
  go_enter Tryd.func80, Tryd.ntmps80
  go_wp2_with fail
  refine (refSchedule_any m _ HM.out).mono ?_
  rintro e w1 ⟨ws, rfl, hws, hb1⟩
  have hv1 := HV.out.below hb1
  have HWS := Lib.hid hws
  have HV1 := Lib.hid hv1
  clear hws hv1
  have hbz1 := hb1.size
  go_wp2_with (first
    | (at_builtin; refine wp_append_keep (Owns.of_mem (Mem.new w1 106 []) (Nat.le_refl _) 0 0 (Nat.le_refl _) rfl (by simp [maxLen]) rfl) w1.heap.size ((Below.refl w1.heap.size w1).alloc (Nat.le_refl _) _) (Nat.le_refl _) (s.list.map wordV) (.tmp 16) (.tmp 17) 163 i (.int .u32 0) rfl rfl Tryd.underlying163 HI.out HZ.out HS.out HBY rfl rfl rfl ?news ?one ?len ?base ?_)
    | fail)
  case news => intro j u hu; exact (World.cell?_alloc_lt w1 _ ⟨g, j, none⟩ (World.block_lt_of_cell? w1 _ (HV1.out j u hu))).trans (HV1.out j u hu)
  case one => intro u hu; obtain ⟨x, _, rfl⟩ := List.mem_map.1 hu; rfl
  case len => simp [St.list]
  case base => simp
  intro v0 w2 hown2 hb2 hz2 _
  have HO2 := Lib.hid hown2
  clear hown2
  obtain ⟨aw, capw, hwv, hcw1, hcw2, hcw⟩ := HWS.out.form
  rw [List.length_map, length_schedule] at hwv hcw1 hcw
  obtain ⟨gw, rfl, hgw, _⟩ := hcw 0 (by omega)
  subst hwv
  have hwat : ∀ j, j < 64 → w1.cell? ⟨gw, j, none⟩ = some (.int .u32 (((schedule m).getD j 0 : Nat) : Int)) := fun j hj => by
    obtain ⟨g', hg', _, hc⟩ := hcw j hj
    injection hg' with hg'
    injection hg' with hg'
    subst hg'
    rw [hc, List.getElem?_map, List.getD_eq_getElem?_getD, List.getElem?_eq_getElem (by rw [length_schedule]; exact hj)]
    rfl
  have HWAT := Lib.hid hwat
  clear hwat hcw HWS
  have hb02 := hb1.trans (hb2.mono (Nat.le_trans (Nat.le_refl _) hbz1))
  go_wp2
  go_loopw [6, 7] (fun v i wr => ∃ (k gv capv : Nat), k ≤ 64 ∧ i = .int .i64 k ∧ v = .slice (some ⟨gv, 0, none⟩) 8 capv ∧ Hid (Eight wr gv (rounds (schedule m) s k)) ∧ Below w1.heap.size w1 wr) (fun _ i _ => 64 - (intOf i).toNat)
  case atStart =>
    obtain ⟨g0, cap0, rfl, _, h8⟩ := owns_eight HO2.out
    exact ⟨0, g0, cap0, by omega, rfl, rfl, Lib.hid h8, hb2⟩
  case round =>
    clear HO2 hz2 hb2 hb02
    obtain ⟨k, gv, capv, hk, rfl, rfl, H8, hbr⟩ := hrel
    by_cases hlt : k < 64
    · have HR := Lib.hid (show rounds (schedule m) s (k + 1) = round (rounds (schedule m) s k) (key k) ((schedule m).getD k 0) from rfl)
      have hok := rounds_ok hs (schedule m) k
      have hws := (hbr.cell (p := ⟨gw, k, none⟩) (World.block_lt_of_cell? w1 _ (HWAT.out k hlt))).trans (HWAT.out k hlt)
      revert HR hok H8 hws
      generalize rounds (schedule m) s k = S
      generalize (schedule m).getD k 0 = x
      intro H8 HR hok hws
      obtain ⟨c0, c1, c2, c3, c4, c5, c6, c7⟩ := H8.out.words
      obtain ⟨la, lb, lc, ld, le_, lf, lg, lh⟩ := ok_iff.1 hok
      have hd : decide ((k : Int) < 64) = true := by simp; omega
      have hch := ch_bits S.e S.f S.g le_ lf lg
      have hbs1 : bits .xor .u32 (bits .xor .u32 (rotr 6 S.e : Int) (rotr 11 S.e : Int)) (rotr 25 S.e : Int) = ((bs1 S.e : Nat) : Int) := bs_bits _ _ _ _ le_ (by omega) (by omega) (by omega)
      have hk64 : (k : Int) < 64 := by omega
      go_wp2_with fail
      go_region_held3 (fun w' => w'.cell? ⟨gv, 0, none⟩ = some (.int .u32 S.a) ∧ w'.cell? ⟨gv, 1, none⟩ = some (.int .u32 S.b) ∧ w'.cell? ⟨gv, 2, none⟩ = some (.int .u32 S.c) ∧ w'.cell? ⟨gv, 3, none⟩ = some (.int .u32 S.d) ∧
          w'.cell? ⟨gv, 5, none⟩ = some (.int .u32 S.f) ∧ w'.cell? ⟨gv, 6, none⟩ = some (.int .u32 S.g) ∧ w'.cell? ⟨gv, 7, none⟩ = some (.int .u32 S.h) ∧ w'.cell? ⟨gw, k, none⟩ = some (.int .u32 x))
        (first
          | go_keep
          | (exact keeps_eight hbk (by assumption)))
        (first
          | (go_at_call 86; refine (ror_int _ _ _ le_ (by decide) (by decide)).mono ?_; rintro e w3 ⟨rfl, n, rfl⟩)
          | (go_at_call 87; refine (key_any k _ hlt).mono ?_; rintro e w3 ⟨rfl, hbk⟩))
      have hb3 : Below w1.heap.size w1 w3 := (below_drewN hbr _).trans (hbk.mono hbr.size)
      obtain ⟨d0, d1, d2, d3, d5, d6, d7, dw⟩ := keeps_eight hbk ⟨c0, c1, c2, c3, c5, c6, c7, hws⟩
      have hmaj := maj_bits S.a S.b S.c la lb lc
      have hbs0 : bits .xor .u32 (bits .xor .u32 (rotr 2 S.a : Int) (rotr 13 S.a : Int)) (rotr 22 S.a : Int) = ((bs0 S.a : Nat) : Int) := bs_bits _ _ _ _ la (by omega) (by omega) (by omega)
      clear c0 c1 c2 c3 c4 c5 c6 c7 hws hbr hch hbs1 hbk d7 dw hk64
      go_wp2_with fail
      go_quiet ((go_at_call 86; exact Calls.quiet_of (ror_int S.a _ _ la (by decide) (by decide))))
      go_wp2_with fail
      clear hmaj hbs0
      go_region_held3 (fun w' => w'.cell? ⟨gv, 1, none⟩ = some (.int .u32 S.b) ∧ w'.cell? ⟨gv, 2, none⟩ = some (.int .u32 S.c) ∧ w'.cell? ⟨gv, 3, none⟩ = some (.int .u32 S.d) ∧ w'.cell? ⟨gv, 5, none⟩ = some (.int .u32 S.f) ∧ w'.cell? ⟨gv, 6, none⟩ = some (.int .u32 S.g))
        (go_keep) (fail)
      go_wp2
      go_roundw
      case rel =>
        rw [round_cells]
        refine ⟨k + 1, w3.heap.size, 8, by omega, by go_num, rfl, Lib.hid ?_, (below_drewN hb3 _).alloc hb3.size _⟩
        rw [HR.out]
        intro j u hu
        exact (Mem.cell (Mem.newAt (w3.drewN _) 106 _ rfl) j).trans hu
      case measure => simp [intOf]; omega
    · have e64 : k = 64 := by omega
      subst e64
      have hmx := Lib.hid (show mix s m = s.plus (rounds (schedule m) s 64) from rfl)
      have hok := rounds_ok hs (schedule m) 64
      revert hmx hok H8
      generalize rounds (schedule m) s 64 = S
      intro H8 hmx hok
      have HV2 := Lib.hid (HV1.out.below hbr)
      have hbw := hb1.trans (hbr.mono hbz1)
      have hbwz := hbw.size
      clear hbr HV1 HWAT
      obtain ⟨We, hWe⟩ : ∃ We : World, We = wr := ⟨_, rfl⟩
      subst hWe
      go_wp2
      go_loopw [12, 13] (fun v i w4 => ∃ j : Nat, j ≤ 8 ∧ i = .int .i64 j ∧ Owns w4 We.heap.size 106 v (((mix s m).list.take j).map wordV) ∧ Below We.heap.size We w4) (fun _ i _ => 8 - (intOf i).toNat)
      case atStart => exact ⟨0, by omega, rfl, Owns.of_mem (Mem.new We 106 []) (Nat.le_refl _) 0 0 (Nat.le_refl _) rfl (by simp [maxLen]) rfl, (Below.refl _ _).alloc (Nat.le_refl _) _⟩
      case round =>
        obtain ⟨j, hj, rfl, hown, hb⟩ := hrel
        have HO := Lib.hid hown
        clear hown
        have hbz := hb.size
        by_cases hjl : j < 8
        · have hd : decide ((j : Int) < 8) = true := by simp; omega
          have hj8 : (j : Int) < 8 := by omega
          have hj0 : (0 : Int) ≤ (j : Int) := by omega
          obtain ⟨x, hx⟩ : ∃ x, x = s.list.getD j 0 := ⟨_, rfl⟩
          obtain ⟨y, hy⟩ : ∃ y, y = S.list.getD j 0 := ⟨_, rfl⟩
          have cx : wr.cell? ⟨g, j, none⟩ = some (.int .u32 (x : Int)) := (HV2.out.below hb) j _ (by rw [hx]; exact eight_get s j hjl)
          have cy : wr.cell? ⟨gv, j, none⟩ = some (.int .u32 (y : Int)) := (H8.out.below hb) j _ (by rw [hy]; exact eight_get S j hjl)
          obtain ⟨nx, hnx⟩ : ∃ z, z = (mix s m).list.getD j 0 := ⟨_, rfl⟩
          have hsum : IntKind.u32.wrap ((x : Int) + (y : Int)) = (nx : Int) := by rw [hnx, hmx.out, plus_get s S j hjl, ← hx, ← hy, IntKind.wrap_u32']; omega
          have HNX := Lib.hid hnx
          have hone : ∀ u ∈ [wordV nx], u.oneCell' = true := by intro u hu; simp at hu; subst hu; rfl
          have hlo : ((mix s m).list.take j).length = j := by rw [List.length_take]; exact Nat.min_eq_left (show j ≤ 8 from hj)
          have HLO := Lib.hid hlo
          clear hx hy hnx hlo
          go_wp2_with fail
          go_region_held3 (fun w' => w'.cell? ⟨g, j, none⟩ = some (.int .u32 (x : Int)) ∧ w'.cell? ⟨gv, j, none⟩ = some (.int .u32 (y : Int)))
            (first
              | go_keep
              | (exact keeps_both hkp cx cy (own_other HO.out HV2.out.lt0 hbz) (own_other HO.out H8.out.lt0 hbz)))
            (first
              | (refine step_append_keep ((HO.out.drewN _).alloc _) We.heap.size ((below_drewN hb _).alloc hbz _) (Nat.le_refl _) [wordV nx] (.tmp 118) (.tmp 128) 163 i (.int .u32 0) rfl rfl Tryd.underlying163 HI.out HZ.out HS.out HBY rfl rfl rfl (fun j u hu => cell_news_one _ _ _ j u hu) hone (by rw [List.length_map, HLO.out]; simp; omega) (by simp; omega) ?_; intro v' w5 hown' hb5 hz5 hkp; have HO5 := Lib.hid hown'; clear hown'))
          have HR2 : Hid (Owns w5 We.heap.size 106 v' (((mix s m).list.take (j + 1)).map wordV)) := Lib.hid (by
            have := HO5.out
            rw [HNX.out] at this
            rw [list_take_succ _ j hjl, List.map_append]
            exact this)
          clear hkp hz5 hsum hone
          go_wp2
          go_roundw
          case rel =>
            first
              | exact ⟨j + 1, by omega, by go_num, HR2.out, hb5⟩
              | ((repeat apply Exists.intro); exact ⟨⟨j + 1, by omega, by go_num, HR2.out, hb5⟩, rfl⟩)
          case measure => simp [intOf]; omega
        · have e8 : j = 8 := by omega
          subst e8
          rw [show (mix s m).list.take 8 = (mix s m).list from rfl] at HO
          go_wp2
          go_ret
          exact ⟨_, rfl, owns_base HO.out hbwz, hbw.trans (hb.mono hbwz)⟩
end Go.Proofs.YtjdhcanblpifcaaDoor

/-
  The reference of layer 1: Padded, Of.
-/
namespace Go.Proofs.YtjdhcanblpifcaaDoor
open Go.RowKit Crv

attribute [local go_sem] ByteArray.mk_append_mk

def padSoFar (m : List UInt8) (k : Nat) : List UInt8 := m ++ 128 :: List.replicate k 0
theorem length_padSoFar (m : List UInt8) (k : Nat) : (padSoFar m k).length = m.length + 1 + k := by simp [padSoFar]; omega
theorem padSoFar_succ (m : List UInt8) (k : Nat) : padSoFar m k ++ [0] = padSoFar m (k + 1) := by
  simp [padSoFar, List.replicate_succ']

theorem be4_mod (x : Nat) : be4 (x % 4294967296) = be4 x := by
  simp only [be4]
  have h : ∀ a b : Nat, a % 256 = b % 256 → UInt8.ofNat a = UInt8.ofNat b := fun a b hab => by
    apply UInt8.toNat_inj.1
    rw [UInt8.toNat_ofNat', UInt8.toNat_ofNat']
    exact hab
  rw [h (x % 4294967296 / 16777216) (x / 16777216) (by omega), h (x % 4294967296 / 65536) (x / 65536) (by omega), h (x % 4294967296 / 256) (x / 256) (by omega), h (x % 4294967296) x (by omega)]
theorem padded_split (m : List UInt8) : padded m = padSoFar m (zeros m.length) ++ (be4 (m.length / 536870912) ++ be4 (m.length % 536870912 * 8)) := by
  have e : be8 (8 * m.length) = be4 (m.length / 536870912) ++ be4 (m.length % 536870912 * 8) := by
    unfold be8
    rw [show 8 * m.length / 4294967296 = m.length / 536870912 from by omega, show m.length % 536870912 * 8 = 8 * m.length % 4294967296 from by omega, be4_mod (8 * m.length)]
  simp [padded, padding, padSoFar, e]

set_option maxHeartbeats 1000000 in
theorem padded_any (m : List UInt8) (w : World) (hm : m.length < 1099511627776) :
    Calls Tryd.prog 79 #[.string (str m)] w fun e w' => e = .returned (.string (str (padded m))) ∧ Below w.heap.size w w' := by
  have hz : zeros m.length < 64 := Nat.mod_lt _ (by omega)
  go_enter Tryd.func79, Tryd.ntmps79
  go_wp2
  go_loop [4, 5] (fun o i => ∃ (k : Nat), k ≤ zeros m.length ∧ i = .int .i64 k ∧ o = .string (str (padSoFar m k))) (fun _ i => 64 - (intOf i).toNat)
  case atStart => exact ⟨0, Nat.zero_le _, rfl, rfl⟩
  case round =>
    obtain ⟨k, hk, rfl, rfl⟩ := hrel
    obtain ⟨q, hq⟩ : ∃ q, q = padSoFar m k := ⟨_, rfl⟩
    rw [← hq]
    have hql : q.length = m.length + 1 + k := by rw [hq, length_padSoFar]
    have HQ := Lib.hid hq
    have HQL := Lib.hid hql
    clear hq hql
    have hd : decide ((k : Int) < 64) = true := by simp; omega
    have hk64 : (k : Int) < 64 := by omega
    have hqb : q.length + 1 ≤ 1099511627900 := by rw [HQL.out]; omega
    by_cases hlt : k < zeros m.length
    · have ht : ((q.length : Int) % 64 != 56) = true := by
        have := HQL.out
        have hzd : zeros m.length = (119 - m.length % 64) % 64 := rfl
        rw [bne_iff_ne]; omega
      go_wp2
      go_round
      case rel => exact ⟨k + 1, by omega, by go_num, by rw [HQ.out, padSoFar_succ]⟩
      case measure => simp [intOf]; omega
    · have ek : k = zeros m.length := by omega
      have ht : ((q.length : Int) % 64 != 56) = false := by
        have := HQL.out
        have hzd : zeros m.length = (119 - m.length % 64) % 64 := rfl
        rw [bne_eq_false_iff_eq]; omega
      have HK := Lib.hid ek
      clear ek
      go_wp2_with fail
      have e1 : (m.length : Int) / 536870912 = ((m.length / 536870912 : Nat) : Int) := by omega
      rw [e1]
      clear e1
      refine (refBytes_any _ _ (by omega)).mono ?_
      rintro e w1 ⟨rfl, hb1⟩
      have hlb : (be4 (m.length / 536870912)).length = 4 := rfl
      go_wp2_with fail
      have e2 : (m.length : Int) % 536870912 * 8 = ((m.length % 536870912 * 8 : Nat) : Int) := by omega
      rw [e2]
      clear e2
      refine (refBytes_any _ _ (by omega)).mono ?_
      rintro e w2 ⟨rfl, hb2⟩
      have hlb2 : (be4 (m.length % 536870912 * 8)).length = 4 := rfl
      go_wp2
      go_ret
      refine ⟨?_, hb1.trans (hb2.mono hb1.size)⟩
      rw [padded_split, ← HK.out, ← HQ.out]
      rfl

theorem flatMap_be4_le (l : List Nat) (h : l.length ≤ 8) : (l.flatMap be4).length ≤ 32 := by
  have : (l.flatMap be4).length = 4 * l.length := by
    clear h
    induction l with
    | nil => rfl
    | cons x r ih => simp only [List.flatMap_cons, List.length_append, List.length_cons, ih]; simp [be4]; omega
  omega
theorem padded_blocks (m : List UInt8) : ∃ n, (padded m).length = 64 * n := by
  refine ⟨(padded m).length / 64, ?_⟩
  have : (padded m).length % 64 = 0 := by
    simp only [padded, padding, List.length_append, List.length_cons, List.length_replicate, be8, be4, zeros]
    simp
    omega
  omega

set_option maxHeartbeats 1000000 in
set_option maxRecDepth 100000 in
theorem refOf_any (m : List UInt8) (w : World) (hm : m.length < 1099511627776) :
    Calls Tryd.prog 67 #[.string (str m)] w fun e w' => e = .returned (.string (str (sha m))) ∧ Below w.heap.size w w' := by
  obtain ⟨nb, hnb⟩ := padded_blocks m
  have hshort : (padded m).length < 1099511628000 := by rw [padded_split]; simp [length_padSoFar, be4]; have : zeros m.length < 64 := Nat.mod_lt _ (by omega); omega
  go_enter Tryd.func67, Tryd.ntmps67
  go_wp2_with fail
  refine (padded_any m _ hm).mono ?_
  rintro e w1 ⟨rfl, hb1⟩
  obtain ⟨p, hp⟩ : ∃ p, p = padded m := ⟨_, rfl⟩
  rw [← hp] at hnb hshort ⊢
  have HP := Lib.hid hp
  have HNB := Lib.hid hnb
  have hnbs : 64 * nb < 1099511628000 := by rw [← hnb]; exact hshort
  clear hp hnb
  have hst : Eight (w1.alloc (.cells (init.list.map wordV).toArray 106)) w1.heap.size init := fun j u hu => by rw [(Mem.new w1 106 (init.list.map wordV)).cell j, hu]
  go_wp2
  go_loopw [4, 5] (fun h i wr => ∃ (k g cap : Nat), k ≤ nb ∧ i = .int .i64 (64 * (k : Int)) ∧ h = .slice (some ⟨g, 0, none⟩) 8 cap ∧ Hid (Eight wr g (blocks init p k)) ∧ Below w.heap.size w wr) (fun _ i _ => 64 * nb - (intOf i).toNat)
  case atStart => exact ⟨0, w1.heap.size, 8, Nat.zero_le _, rfl, rfl, Lib.hid hst, hb1.alloc hb1.size _⟩
  case round =>
    clear hst hb1
    obtain ⟨k, g, cap, hk, rfl, rfl, H8, hb⟩ := hrel
    have hpl : (p.length : Int) = 64 * (nb : Int) := by rw [HNB.out]; omega
    by_cases hlt : k < nb
    · have hd : decide (64 * (k : Int) < (p.length : Int)) = true := by simp; omega
      have hli : 64 * (k : Int) < (p.length : Int) := by omega
      have hsl := fun W => slice_str_mid (P := Tryd.prog) Tryd.underlying9 p .i64 .i64 (64 * k) (64 * k + 64) (by omega) (by omega) W
      rw [show ((64 * k : Nat) : Int) = 64 * (k : Int) from by omega, show ((64 * k + 64 : Nat) : Int) = 64 * (k : Int) + 64 from by omega] at hsl
      clear hpl
      have hok := blocks_ok init_ok p k
      go_wp2_with fail
      refine (refMixed_any (blocks init p k) g cap _ _ hok (by have := HNB.out; simp; omega) H8.out).mono ?_
      rintro e w2 ⟨v', rfl, ho2, hb2⟩
      obtain ⟨g', cap', rfl, _, h8'⟩ := owns_eight ho2
      have H8' : Hid (Eight w2 g' (blocks init p (k + 1))) := Lib.hid (by
        have e : (p.take (64 * k + 64)).drop (64 * k) = (p.drop (64 * k)).take 64 := by rw [List.drop_take]; congr 1; omega
        rw [e] at h8'
        exact h8')
      have hbb := hb.trans (hb2.mono hb.size)
      clear h8' ho2 hb2 hsl hb
      go_wp2
      go_roundw
      case rel =>
        first
          | exact ⟨k + 1, g', cap', by omega, by go_num, rfl, H8', hbb⟩
          | ((repeat apply Exists.intro); exact ⟨⟨k + 1, g', cap', by omega, by go_num, rfl, H8', hbb⟩, rfl⟩)
      case measure => simp [intOf]; omega
    · have ek : k = nb := by omega
      subst ek
      have hd : decide (64 * (k : Int) < (p.length : Int)) = false := by simp; omega
      have hS : sha m = (blocks init p k).bytes := by
        have := HNB.out
        rw [show sha m = (blocks init (padded m) ((padded m).length / 64)).bytes from rfl, ← HP.out, this]
        rw [show 64 * k / 64 = k from by omega]
      have HSH := Lib.hid hS
      have hok := blocks_ok init_ok p k
      clear hS hpl
      revert H8 HSH hok
      generalize blocks init p k = S
      intro H8 HSH hok
      obtain ⟨We, hWe⟩ : ∃ We : World, We = wr := ⟨_, rfl⟩
      subst hWe
      go_wp2
      clear hd
      go_loopw [6, 27] (fun o i w4 => ∃ j : Nat, j ≤ 8 ∧ i = .int .i64 j ∧ o = .string (str ((S.list.take j).flatMap be4)) ∧ Below We.heap.size We w4) (fun _ i _ => 8 - (intOf i).toNat)
      case atStart => exact ⟨0, by omega, rfl, rfl, Below.refl _ _⟩
      case round =>
        obtain ⟨j, hj, rfl, rfl, hb4⟩ := hrel
        by_cases hjl : j < 8
        · obtain ⟨x, hx⟩ : ∃ x, x = S.list.getD j 0 := ⟨_, rfl⟩
          have cx : wr.cell? ⟨g, j, none⟩ = some (.int .u32 (x : Int)) := (H8.out.below hb4) j _ (by rw [hx]; exact eight_get S j hjl)
          have lx : x < 4294967296 := by rw [hx]; exact getD_lt hok j
          have hd : decide ((j : Int) < 8) = true := by simp; omega
          have hj8 : (j : Int) < 8 := by omega
          obtain ⟨q, hq⟩ : ∃ q, q = (S.list.take j).flatMap be4 := ⟨_, rfl⟩
          have hql : q.length ≤ 32 := by rw [hq]; exact flatMap_be4_le _ (by rw [List.length_take]; omega)
          have hqs : q ++ be4 x = (S.list.take (j + 1)).flatMap be4 := by rw [hq, hx, list_take_succ S j hjl]; simp
          rw [← hq]
          have HX := Lib.hid hx
          have HQ := Lib.hid hqs
          clear hx hq hqs
          have hb4l : (be4 x).length = 4 := rfl
          go_wp2_with fail
          refine (refBytes_any x _ lx).mono ?_
          rintro e w5 ⟨rfl, hb5⟩
          go_wp2
          go_roundw
          case rel => exact ⟨j + 1, by omega, by go_num, by rw [← HQ.out], hb4.trans (hb5.mono hb4.size)⟩
          case measure => simp [intOf]; omega
        · have e8 : j = 8 := by omega
          subst e8
          go_wp2
          go_ret
          exact ⟨by rw [HSH.out]; rfl, hb.trans (hb4.mono hb.size)⟩
end Go.Proofs.YtjdhcanblpifcaaDoor

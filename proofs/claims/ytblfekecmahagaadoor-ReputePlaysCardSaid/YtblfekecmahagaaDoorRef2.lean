/-
  The reference of layer 1: schedule.
-/
import Derived.Test.YtblfekecmahagaaDoorRef1
namespace Go.Proofs.YtblfekecmahagaaDoor
open Go.RowKit Crv

theorem words_take_succ (m : List UInt8) (k : Nat) (h : k < 16) : (words16 m).take (k + 1) = (words16 m).take k ++ [wordAt m k] := by
  rw [List.take_succ_eq_append_getElem (by rw [length_words16]; exact h)]
  simp [words16]
theorem wordAt_drop (m : List UInt8) (k : Nat) : wordAt (m.drop (4 * k)) 0 = wordAt m k := by
  simp [wordAt, List.getElem?_drop]

theorem index_facts2 (x : Int) (i n : Nat) (h : x = i) (hi : i < n) (hn : n ≤ 1099511627776) : IntKind.i64.wrap x = (i : Int) ∧ (0 : Int) ≤ (i : Int) ∧ (i : Int) < (n : Int) ∧ (i : Int).toNat = i :=
  ⟨by rw [IntWalk.i64_in _ (by omega), h], by omega, by omega, by omega⟩

theorem ss0_ref (x : Nat) (h : x < 4294967296) : bits .xor .u32 (bits .xor .u32 (rotr 7 x : Int) (rotr 18 x : Int)) ((x : Int) / 8) = ((ss0 x : Nat) : Int) := by
  have l1 := rotr_lt (n := 7) (by omega) h
  have l2 := rotr_lt (n := 18) (by omega) h
  rw [xor_u32 _ _ l1 l2, show (x : Int) / 8 = ((x / 8 : Nat) : Int) from by omega, xor_u32 _ _ (xor_lt l1 l2) (by omega)]
  rfl
theorem ss1_ref (x : Nat) (h : x < 4294967296) : bits .xor .u32 (bits .xor .u32 (rotr 17 x : Int) (rotr 19 x : Int)) ((x : Int) / 1024) = ((ss1 x : Nat) : Int) := by
  have l1 := rotr_lt (n := 17) (by omega) h
  have l2 := rotr_lt (n := 19) (by omega) h
  rw [xor_u32 _ _ l1 l2, show (x : Int) / 1024 = ((x / 1024 : Nat) : Int) from by omega, xor_u32 _ _ (xor_lt l1 l2) (by omega)]
  rfl
/-- Two cells of an older world behind a draw, a new block and an append. -/
theorem keeps_two {wr w3 : World} {d : Nat} {ob : Obj} {v : Value} {n g i j : Nat} {x y : Value} (h : Keeps ((wr.drewN d).alloc ob) v n w3) (hx : wr.cell? ⟨g, i, none⟩ = some x) (hy : wr.cell? ⟨g, j, none⟩ = some y)
    (hg : g < wr.heap.size) (hij : i < n ∧ j < n) : w3.cell? ⟨g, i, none⟩ = some x ∧ w3.cell? ⟨g, j, none⟩ = some y :=
  ⟨h _ _ _ ((World.cell?_alloc_lt (wr.drewN d) ob ⟨g, i, none⟩ hg).trans hx) (fun _ => hij.1), h _ _ _ ((World.cell?_alloc_lt (wr.drewN d) ob ⟨g, j, none⟩ hg).trans hy) (fun _ => hij.2)⟩

set_option maxHeartbeats 1000000 in
set_option maxRecDepth 100000 in
theorem refSchedule_any (m : List UInt8) (w : World) (hm : m.length = 64) :
    Calls Tryd.prog 60 #[.string (str m)] w fun e w' => ∃ v, e = .returned v ∧ Owns w' w.heap.size 77 v ((schedule m).map wordV) ∧ Below w.heap.size w w' := by
  have HM := Lib.hid hm
  clear hm
  obtain ⟨i, hi, hz, hs, hby⟩ : ∃ i, Tryd.prog.info? 77 = some i ∧ i.zero = some (.int .u32 0) ∧ i.size = 1 ∧ i.bytes = 4 := info_of (by kernel_rfl)
  have HBY : i.bytes ≤ 64 := by omega
  have HI := Lib.hid hi
  have HZ := Lib.hid hz
  have HS := Lib.hid hs
  clear hi hz hs hby
  go_enter Tryd.func60, Tryd.ntmps60
  go_wp2
  go_loopw [3, 4] (fun v i wr => ∃ k : Nat, k ≤ 16 ∧ i = .int .i64 k ∧ Owns wr w.heap.size 77 v (((words16 m).take k).map wordV) ∧ Below w.heap.size w wr) (fun _ i _ => 16 - (intOf i).toNat)
  case atStart => exact ⟨0, by omega, rfl, Owns.of_mem (Mem.new w 77 []) (Nat.le_refl _) 0 0 (Nat.le_refl _) rfl (by simp [maxLen]) rfl, (Below.refl _ _).alloc (Nat.le_refl _) _⟩
  case round =>
    obtain ⟨k, hk, rfl, hown, hb⟩ := hrel
    have HO := Lib.hid hown
    clear hown
    have hbz := hb.size
    by_cases hlt : k < 16
    · have hd : decide ((k : Int) < 16) = true := by simp; omega
      have e4 : 4 * (k : Int) = ((4 * k : Nat) : Int) := by omega
      have hsl := fun W => slice_str_from (P := Tryd.prog) Tryd.underlying9 m .i64 (4 * k) (by rw [HM.out]; omega) W
      rw [← e4] at hsl
      clear e4
      go_wp2_with fail
      refine (word_any _ _ (by rw [List.length_drop, HM.out]; omega)).mono ?_
      rintro e w2 ⟨rfl, n, rfl⟩
      rw [wordAt_drop]
      go_wp2_with (first
        | (at_builtin; refine wp_append_keep ((HO.out.drewN n).alloc _) w.heap.size ((below_drewN hb n).alloc hbz _) (Nat.le_refl _) [wordV (wordAt m k)] (.tmp 13) (.tmp 19) 96 i (.int .u32 0) rfl rfl Tryd.underlying96 HI.out HZ.out HS.out HBY rfl rfl rfl ?news ?one ?len ?base ?_)
        | fail)
      case news => intro j u hu; exact cell_news_one _ _ _ j u hu
      case one => intro u hu; simp at hu; subst hu; rfl
      case len => simp; omega
      case base => simp; omega
      intro v' w3 hown' hb3 hz3 _
      have HO3 := Lib.hid hown'
      clear hown'
      go_wp2
      go_roundw
      case rel => exact ⟨k + 1, by omega, by go_num, by rw [words_take_succ m k hlt, List.map_append, List.map_take]; exact HO3.out, hb3⟩
      case measure => simp [intOf]; omega
    · have e16 : k = 16 := by omega
      subst e16
      have h16 : (words16 m).take 16 = sched (words16 m) 0 := by rw [List.take_of_length_le (by rw [length_words16]; exact Nat.le_refl _)]; rfl
      rw [h16] at HO
      clear h16 hk hlt
      go_wp2
      go_loopw [3, 5] (fun v i wr => ∃ k : Nat, k ≤ 48 ∧ i = .int .i64 (16 + (k : Int)) ∧ Owns wr w.heap.size 77 v ((sched (words16 m) k).map wordV) ∧ Below w.heap.size w wr) (fun _ i _ => 64 - (intOf i).toNat)
      case atStart => exact ⟨0, by omega, rfl, HO.out, hb⟩
      case round =>
        clear HO hb hbz
        obtain ⟨k, hk, rfl, hown, hb⟩ := hrel
        have hbz := hb.size
        have hlen := length_sched (length_words16 m) k
        by_cases hlt : k < 48
        · obtain ⟨a, cap, hv, hcap, hcm, hcell⟩ := hown.form
          rw [List.length_map, hlen] at hcap hcell hv
          obtain ⟨g, rfl, hgb, _⟩ := hcell 0 (by omega)
          subst hv
          have hat : ∀ j, j < 16 + k → wr.cell? ⟨g, j, none⟩ = some (.int .u32 (((sched (words16 m) k).getD j 0 : Nat) : Int)) := fun j hj => by
            obtain ⟨g', hg', _, hc⟩ := hcell j hj
            injection hg' with hg'
            injection hg' with hg'
            subst hg'
            rw [hc, List.getElem?_map, List.getD_eq_getElem?_getD, List.getElem?_eq_getElem (by omega)]
            rfl
          have hlt4 := getD_lt (sched_lt (words16_lt m) k)
          obtain ⟨x0, hx0⟩ : ∃ x, x = (sched (words16 m) k).getD k 0 := ⟨_, rfl⟩
          obtain ⟨x1, hx1⟩ : ∃ x, x = (sched (words16 m) k).getD (k + 1) 0 := ⟨_, rfl⟩
          obtain ⟨x9, hx9⟩ : ∃ x, x = (sched (words16 m) k).getD (k + 9) 0 := ⟨_, rfl⟩
          obtain ⟨x14, hx14⟩ : ∃ x, x = (sched (words16 m) k).getD (k + 14) 0 := ⟨_, rfl⟩
          have c0 := hat k (by omega)
          have c1 := hat (k + 1) (by omega)
          have c9 := hat (k + 9) (by omega)
          have c14 := hat (k + 14) (by omega)
          rw [← hx0] at c0
          rw [← hx1] at c1
          rw [← hx9] at c9
          rw [← hx14] at c14
          have l1 : x1 < 4294967296 := by rw [hx1]; exact hlt4 _
          have l14 : x14 < 4294967296 := by rw [hx14]; exact hlt4 _
          have l0 : x0 < 4294967296 := by rw [hx0]; exact hlt4 _
          have l9 : x9 < 4294967296 := by rw [hx9]; exact hlt4 _
          have HX := Lib.hid (show nextWord (sched (words16 m) k) k = (x0 + ss0 x1 + x9 + ss1 x14) % 4294967296 by rw [hx0, hx1, hx9, hx14]; rfl)
          have HO := Lib.hid hown
          have HL := Lib.hid hlen
          clear hx0 hx1 hx9 hx14 hat hcell hown hlt4 hlen
          have hd : decide (16 + (k : Int) < 64) = true := by simp; omega
          obtain ⟨i15, p15, q15, t15⟩ := index_facts2 (16 + (k : Int) - 15) (k + 1) (16 + k) (by omega) (by omega) (by omega)
          obtain ⟨i2, p2, q2, t2⟩ := index_facts2 (16 + (k : Int) - 2) (k + 14) (16 + k) (by omega) (by omega) (by omega)
          obtain ⟨i16, p16, q16, t16⟩ := index_facts2 (16 + (k : Int) - 16) k (16 + k) (by omega) (by omega) (by omega)
          obtain ⟨i7, p7, q7, t7⟩ := index_facts2 (16 + (k : Int) - 7) (k + 9) (16 + k) (by omega) (by omega) (by omega)
          rw [show ((k + 1 : Nat) : Int) = (k : Int) + 1 from by omega] at i15 p15 q15 t15
          rw [show ((k + 14 : Nat) : Int) = (k : Int) + 14 from by omega] at i2 p2 q2 t2
          rw [show ((k + 9 : Nat) : Int) = (k : Int) + 9 from by omega] at i7 p7 q7 t7
          rw [show ((16 + k : Nat) : Int) = 16 + (k : Int) from by omega] at q15 q2 q16 q7
          have wk : IntKind.i64.wrap (k : Int) = (k : Int) := IntWalk.i64_in _ (by omega)
          have d8 : IntKind.u32.wrap ((x1 : Int) / 8) = (x1 : Int) / 8 := IntWalk.u32_in _ (by omega)
          have d1024 : IntKind.u32.wrap ((x14 : Int) / 1024) = (x14 : Int) / 1024 := IntWalk.u32_in _ (by omega)
          have hs0 := ss0_ref x1 l1
          have hs1 := ss1_ref x14 l14
          obtain ⟨nx, hnx⟩ : ∃ x, x = nextWord (sched (words16 m) k) k := ⟨_, rfl⟩
          have hsum : IntKind.u32.wrap (IntKind.u32.wrap (IntKind.u32.wrap ((x0 : Int) + (ss0 x1 : Int)) + (x9 : Int)) + (ss1 x14 : Int)) = (nx : Int) := by
            rw [hnx, HX.out]; simp only [IntKind.wrap_u32']; omega
          have HNX := Lib.hid hnx
          have hone : ∀ u ∈ [wordV nx], u.oneCell' = true := by intro u hu; simp at hu; subst hu; rfl
          have hcg := World.block_lt_of_cell? wr _ c0
          clear hnx
          go_wp2_with fail
          go_region_held3 (fun w' => w'.cell? ⟨g, k, none⟩ = some (.int .u32 (x0 : Int)) ∧ w'.cell? ⟨g, k + 9, none⟩ = some (.int .u32 (x9 : Int)))
            (first
              | go_keep
              | (exact keeps_two hkp c0 c9 hcg (by rw [List.length_map, HL.out]; omega)))
            (first
              | (go_at_call 61; refine (ror_int _ _ _ ?_ (by decide) (by decide)).mono ?_; (first | exact l1 | exact l14); rintro e w2 ⟨rfl, n, rfl⟩)
              | (refine step_append_keep ((HO.out.drewN _).alloc _) w.heap.size ((below_drewN hb _).alloc hbz _) (Nat.le_refl _) [wordV nx] (.tmp 35) (.tmp 65) 96 i (.int .u32 0) rfl rfl Tryd.underlying96 HI.out HZ.out HS.out HBY rfl rfl rfl (fun j u hu => cell_news_one _ _ _ j u hu) hone (by rw [List.length_map, HL.out]; simp; omega) (by simp; omega) ?_; intro v' w3 hown' hb3 hz3 hkp; have HO3 := Lib.hid hown'; clear hown'))
          have hrel2 : Owns w3 w.heap.size 77 v' ((sched (words16 m) (k + 1)).map wordV) := by
            have := HO3.out
            rw [HNX.out] at this
            simp only [sched, List.map_append]
            exact this
          have HR2 := Lib.hid hrel2
          clear hrel2 hkp hz3 d8 d1024 hs0 hs1 hsum hone i15 p15 q15 t15 i2 p2 q2 t2 i16 p16 q16 t16 i7 p7 q7 t7 wk
          go_wp2
          go_roundw
          case rel =>
            first
              | exact ⟨k + 1, by omega, by go_num, HR2.out, hb3⟩
              | ((repeat apply Exists.intro); exact ⟨⟨k + 1, by omega, by go_num, HR2.out, hb3⟩, rfl⟩)
          case measure => simp [intOf]; omega
        · have e48 : k = 48 := by omega
          subst e48
          have HO := Lib.hid hown
          clear hown
          go_wp2
          go_ret
          exact ⟨_, rfl, HO.out, hb⟩
end Go.Proofs.YtblfekecmahagaaDoor

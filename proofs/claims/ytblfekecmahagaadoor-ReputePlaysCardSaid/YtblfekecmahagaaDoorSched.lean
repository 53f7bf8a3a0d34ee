/-
  hash.schedule: the contract.
-/
import Derived.Test.YtblfekecmahagaaDoorLeaf
import Derived.Test.YtblfekecmahagaaDoorSlc
import Derived.LoopTactic
import Derived.RegionTactic
import Derived.Deep.RegionHeld3
import Derived.Deep.MidRow
import Derived.StillTailTactics
import Derived.Laws.ResultCell
namespace Go.Proofs.YtblfekecmahagaaDoor
open Go.RowKit Crv





/-- The array of words while its first k are known. -/
def firstWords (m : List UInt8) (k : Nat) : List Nat := (List.range 64).map fun i => if i < k then wordAt m i else 0
/-- A word of which j bytes have come. -/
def partWord (m : List UInt8) (k : Nat) : Nat → Nat
  | 0 => 0
  | j + 1 => partWord m k j * 256 + (m.getD (4 * k + j) 0).toNat
theorem partWord_lt (m : List UInt8) (k : Nat) : ∀ j, partWord m k j < 256 ^ j
  | 0 => by simp [partWord]
  | j + 1 => by
    have h := partWord_lt m k j
    have hb := (m.getD (4 * k + j) 0).toNat_lt
    simp only [partWord, Nat.pow_succ]
    omega
theorem partWord_four (m : List UInt8) (k : Nat) : partWord m k 4 = wordAt m k := by
  simp only [partWord, wordAt, Nat.add_zero]; omega
theorem length_firstWords (m : List UInt8) (k : Nat) : (firstWords m k).length = 64 := by simp [firstWords]
theorem firstWords_set (m : List UInt8) (k : Nat) : (firstWords m k).set k (partWord m k 4) = firstWords m (k + 1) := by
  rw [partWord_four]
  apply List.ext_getElem
  · simp [firstWords]
  · intro i h1 h2
    simp only [firstWords, List.getElem_set, List.getElem_map, List.getElem_range]
    by_cases e : k = i
    · subst e; simp
    · have : (i < k + 1) ↔ (i < k) := by omega
      simp [e, this]
/-- What the array holds while the words behind the sixteenth come. -/
def laterWords (m : List UInt8) (k : Nat) : List Nat := sched (words16 m) k ++ List.replicate (48 - k) 0
theorem length_laterWords (m : List UInt8) (k : Nat) (h : k ≤ 48) : (laterWords m k).length = 64 := by
  simp [laterWords, length_sched (length_words16 m)]; omega
theorem firstWords_all (m : List UInt8) : firstWords m 16 = laterWords m 0 := by
  apply List.ext_getElem
  · rw [length_firstWords, length_laterWords m 0 (by omega)]
  · intro i h1 h2
    simp only [firstWords, laterWords, sched, words16, List.getElem_map, List.getElem_range, List.getElem_append, List.length_map, List.length_range, List.getElem_replicate]
    split <;> rfl
theorem laterWords_get (m : List UInt8) (k i : Nat) (h : i < 16 + k) : (laterWords m k).getD i 0 = (sched (words16 m) k).getD i 0 := by
  have hl := length_sched (length_words16 m) k
  simp only [laterWords, List.getD_eq_getElem?_getD]
  rw [List.getElem?_append_left (by omega)]
theorem laterWords_set (m : List UInt8) (k : Nat) (h : k < 48) : (laterWords m k).set (16 + k) (nextWord (sched (words16 m) k) k) = laterWords m (k + 1) := by
  have hl := length_sched (length_words16 m) k
  obtain ⟨r, hr⟩ : ∃ r, 48 - k = r + 1 := ⟨47 - k, by omega⟩
  have hr' : 48 - (k + 1) = r := by omega
  simp only [laterWords, hr, hr', sched]
  rw [List.set_append_right _ _ (by omega), hl]
  simp [List.replicate_succ]
theorem laterWords_end (m : List UInt8) : laterWords m 48 = schedule m := by simp [laterWords, schedule]

theorem set_part_zero (m : List UInt8) (k : Nat) (h : k < 16) : (firstWords m k).set k (partWord m k 0) = firstWords m k := by
  have hl := length_firstWords m k
  apply List.ext_getElem
  · simp
  · intro i h1 h2
    rw [List.getElem_set]
    split
    · subst_vars; simp [firstWords, partWord]
    · rfl
theorem part_step (m : List UInt8) (k j : Nat) (hk : k < 16) (hj : j < 4) :
    bits .or .u32 (((((firstWords m k).set k (partWord m k j))[k]?.getD 0 : Nat) : Int) * 256 % 4294967296) (((m[4 * k + j]?.getD 0).toNat : Int) % 4294967296) = ((partWord m k (j + 1) : Nat) : Int) := by
  have hl := length_firstWords m k
  have e1 : ((firstWords m k).set k (partWord m k j))[k]?.getD 0 = partWord m k j := by
    rw [List.getElem?_set_self (by omega)]; rfl
  have hp : partWord m k j < 16777216 := by
    have h := partWord_lt m k j
    have h2 : 256 ^ j ≤ 256 ^ 3 := Nat.pow_le_pow_right (by decide) (by omega)
    omega
  have hb := (m.getD (4 * k + j) 0).toNat_lt
  rw [e1]
  have e2 : ((partWord m k j : Nat) : Int) * 256 % 4294967296 = ((partWord m k j * 256 : Nat) : Int) := by omega
  have e3 : (((m[4 * k + j]?.getD 0).toNat : Int) % 4294967296) = (((m.getD (4 * k + j) 0).toNat : Nat) : Int) := by
    rw [← List.getD_eq_getElem?_getD]; omega
  rw [e2, e3, u32_or_nat _ _ (by omega) (by omega), nat_join 8 _ _ (by omega) (by omega)]
  rfl
/-- The memory of the call: the block's bytes, the result's cells, the words. -/
def SchedMem (w0 : World) (m : List UInt8) (arr : List Nat) (w : World) : Prop :=
  Below w0.heap.size w0 w ∧ w.heap.size = w0.heap.size + 1 + 1 + 1 ∧ Mem w w0.heap.size 90 (m.map byteV) ∧
    Mem w (w0.heap.size + 1) 118 (List.replicate 64 (wordV 0)) ∧ Mem w (w0.heap.size + 1 + 1) 118 (arr.map wordV) ∧ arr.length = 64

theorem SchedMem.start (w : World) (m : List UInt8) : SchedMem w m (firstWords m 0)
    (((w.alloc (.cells (m.map byteV).toArray 90)).alloc (.cells (List.replicate 64 (wordV 0)).toArray 118)).alloc (.cells (List.replicate 64 (wordV 0)).toArray 118)) := by
  have e : (firstWords m 0).map wordV = List.replicate 64 (wordV 0) := by simp [firstWords]; rfl
  refine ⟨?_, by simp, ?_, ?_, ?_, length_firstWords m 0⟩
  · exact (((Below.refl _ _).alloc (Nat.le_refl _) _).alloc (by simp) _).alloc (by simp; omega) _
  · exact ((Mem.new w _ _).alloc _).alloc _
  · have := (Mem.new (w.alloc (.cells (m.map byteV).toArray 90)) 118 (List.replicate 64 (wordV 0))).alloc (.cells (List.replicate 64 (wordV 0)).toArray 118)
    simpa using this
  · rw [e]
    have := Mem.new ((w.alloc (.cells (m.map byteV).toArray 90)).alloc (.cells (List.replicate 64 (wordV 0)).toArray 118)) 118 (List.replicate 64 (wordV 0))
    simpa using this
theorem SchedMem.set {w0 w : World} {m : List UInt8} {arr : List Nat} (h : SchedMem w0 m arr w) (i x : Nat) : SchedMem w0 m (arr.set i x) (w.setCell ⟨w0.heap.size + 1 + 1, i, none⟩ (wordV x)) := by
  obtain ⟨h1, h2, h3, h4, h5, h6⟩ := h
  refine ⟨h1.setCell (by show w0.heap.size ≤ w0.heap.size + 1 + 1; omega) _, by simpa [World.setCell] using h2, h3.other (by show w0.heap.size ≠ w0.heap.size + 1 + 1; omega) _, h4.other (by show w0.heap.size + 1 ≠ w0.heap.size + 1 + 1; omega) _, ?_, by simpa using h6⟩
  rw [List.map_set]
  exact h5.set _ _
theorem SchedMem.drewN {w0 w : World} {m : List UInt8} {arr : List Nat} (h : SchedMem w0 m arr w) (n : Nat) : SchedMem w0 m arr (w.drewN n) := ⟨below_drewN h.1 n, h.2⟩
theorem SchedMem.drew {w0 w : World} {m : List UInt8} {arr : List Nat} (h : SchedMem w0 m arr w) : SchedMem w0 m arr w.drew := h.drewN 1
theorem SchedMem.word {w0 w : World} {m : List UInt8} {arr : List Nat} (h : SchedMem w0 m arr w) (i : Nat) (hi : i < 64) : w.cell? ⟨w0.heap.size + 1 + 1, i, none⟩ = some (.int .u32 (arr.getD i 0 : Nat)) := by
  obtain ⟨_, _, _, _, h5, h6⟩ := h
  rw [h5.cell i, List.getElem?_map, List.getD_eq_getElem?_getD, List.getElem?_eq_getElem (by omega)]
  rfl
theorem SchedMem.open_ {w0 w : World} {m : List UInt8} {arr : List Nat} (h : SchedMem w0 m arr w) (i : Nat) : w.frozen? ⟨w0.heap.size + 1 + 1, i, none⟩ = false := h.2.2.2.2.1.frozen i
theorem SchedMem.byte {w0 w : World} {m : List UInt8} {arr : List Nat} (h : SchedMem w0 m arr w) (i : Nat) (hi : i < m.length) : w.cell? ⟨w0.heap.size, i, none⟩ = some (.int .u8 (m.getD i 0).toNat) := by
  obtain ⟨_, _, h3, _⟩ := h
  rw [h3.cell i, List.getElem?_map, List.getD_eq_getElem?_getD, List.getElem?_eq_getElem hi]
  rfl

theorem index_facts (x : Int) (i : Nat) (h : x = i) (hi : i < 64) : IntKind.i64.wrap x = (i : Int) ∧ (0 : Int) ≤ (i : Int) ∧ (i : Int) < 64 ∧ (i : Int).toNat = i :=
  ⟨by rw [IntWalk.i64_in _ (by omega), h], by omega, by omega, by omega⟩
theorem ss0_bits (x : Nat) (h : x < 4294967296) : bits .xor .u32 (bits .xor .u32 (rotr 7 x : Int) (rotr 18 x : Int)) ((x : Int) / 8) = ((ss0 x : Nat) : Int) := by
  have l1 := rotr_lt (n := 7) (by omega) h
  have l2 := rotr_lt (n := 18) (by omega) h
  rw [xor_u32 _ _ l1 l2, show (x : Int) / 8 = ((x / 8 : Nat) : Int) from by omega, xor_u32 _ _ (xor_lt l1 l2) (by omega)]
  rfl
theorem ss1_bits (x : Nat) (h : x < 4294967296) : bits .xor .u32 (bits .xor .u32 (rotr 17 x : Int) (rotr 19 x : Int)) ((x : Int) / 1024) = ((ss1 x : Nat) : Int) := by
  have l1 := rotr_lt (n := 17) (by omega) h
  have l2 := rotr_lt (n := 19) (by omega) h
  rw [xor_u32 _ _ l1 l2, show (x : Int) / 1024 = ((x / 1024 : Nat) : Int) from by omega, xor_u32 _ _ (xor_lt l1 l2) (by omega)]
  rfl
/-- What a round behind the sixteenth word reads. -/
theorem later_cells {w0 w : World} {m : List UInt8} {k : Nat} (h : SchedMem w0 m (laterWords m k) w) (hk : k < 48) : ∃ x0 x1 x9 x14 : Nat, x0 < 4294967296 ∧ x1 < 4294967296 ∧ x9 < 4294967296 ∧ x14 < 4294967296 ∧
    Hid (nextWord (sched (words16 m) k) k = (x0 + ss0 x1 + x9 + ss1 x14) % 4294967296) ∧
    w.cell? ⟨w0.heap.size + 1 + 1, k, none⟩ = some (.int .u32 x0) ∧ w.cell? ⟨w0.heap.size + 1 + 1, k + 1, none⟩ = some (.int .u32 x1) ∧ w.cell? ⟨w0.heap.size + 1 + 1, k + 9, none⟩ = some (.int .u32 x9) ∧ w.cell? ⟨w0.heap.size + 1 + 1, k + 14, none⟩ = some (.int .u32 x14) := by
  have hb := getD_lt (sched_lt (words16_lt m) k)
  refine ⟨_, _, _, _, ?_, ?_, ?_, ?_, ?_, h.word k (by omega), h.word (k + 1) (by omega), h.word (k + 9) (by omega), h.word (k + 14) (by omega)⟩
  · rw [laterWords_get m k _ (by omega)]; exact hb _
  · rw [laterWords_get m k _ (by omega)]; exact hb _
  · rw [laterWords_get m k _ (by omega)]; exact hb _
  · rw [laterWords_get m k _ (by omega)]; exact hb _
  · rw [laterWords_get m k _ (by omega), laterWords_get m k _ (by omega), laterWords_get m k _ (by omega), laterWords_get m k _ (by omega)]; exact rfl

set_option maxHeartbeats 1000000 in
set_option maxRecDepth 100000 in
theorem schedule_any (m : List UInt8) (w : World) (hm : m.length = 64) :
    Calls Tryd.prog 68 #[.agg (m.map byteV).toArray] w fun e w' => e = .returned (.agg ((schedule m).map wordV).toArray) ∧ Below w.heap.size w w' := by
  have hst := SchedMem.start w m
  have HM := Lib.hid hm
  clear hm
  go_enter Tryd.func68, Tryd.ntmps68
  go_wp2
  go_loopw [10] (fun i wr => ∃ k : Nat, k ≤ 16 ∧ i = .int .i64 k ∧ SchedMem w m (firstWords m k) wr) (fun i _ => 16 - (intOf i).toNat)
  case atStart => exact ⟨0, by omega, rfl, hst⟩
  case round =>
    clear hst
    obtain ⟨k, hk, rfl, hmem⟩ := hrel
    by_cases hlt : k < 16
    · have b1 : (0 : Int) ≤ 4 * (k : Int) := by omega
      have b2 : 4 * (k : Int) ≤ 4 * (k : Int) + 4 := by omega
      have b3 : 4 * (k : Int) + 4 ≤ 64 := by omega
      have hd : decide ((k : Int) < 16) = true := by simp; omega
      go_wp2
      go_loopw [20] (fun i wr => ∃ j : Nat, j ≤ 4 ∧ i = .int .i64 j ∧ SchedMem w m ((firstWords m k).set k (partWord m k j)) wr) (fun i _ => 4 - (intOf i).toNat)
      case atStart => exact ⟨0, by omega, rfl, by rw [set_part_zero m k hlt]; exact hmem⟩
      case round =>
        clear hmem
        obtain ⟨j, hj, rfl, hmem⟩ := hrel
        by_cases hjl : j < 4
        · have c1 := hmem.byte (4 * k + j) (by rw [HM.out]; omega)
          have c2 := hmem.word k (by omega)
          have c3 := hmem.open_ k
          have hdj : decide ((j : Int) < 4) = true := by simp; omega
          go_wp2
          go_roundw
          case rel =>
            have e := hmem.set k (partWord m k (j + 1))
            rw [List.set_set] at e
            exact ⟨j + 1, by omega, by go_num, by rw [part_step m k j hlt hjl]; exact e⟩
          case measure => simp [intOf]; omega
        · have e4 : j = 4 := by omega
          subst e4
          rw [firstWords_set] at hmem
          go_wp2
          go_roundw
          case rel => exact ⟨k + 1, by omega, by go_num, hmem⟩
          case measure => simp [intOf]; omega
    · have e16 : k = 16 := by omega
      subst e16
      rw [firstWords_all] at hmem
      go_wp2
      go_loopw [7] (fun i wr => ∃ k : Nat, k ≤ 48 ∧ i = .int .i64 (16 + (k : Int)) ∧ SchedMem w m (laterWords m k) wr) (fun i _ => 64 - (intOf i).toNat)
      case atStart => exact ⟨0, by omega, rfl, hmem⟩
      case round =>
        clear hmem hk hlt
        obtain ⟨k, hk, rfl, hmem⟩ := hrel
        by_cases hlt : k < 48
        · obtain ⟨x0, x1, x9, x14, l0, l1, l9, l14, HX, c0, c1, c9, c14⟩ := later_cells hmem hlt
          have c5 := hmem.open_ (16 + k)
          obtain ⟨x16, c6⟩ : ∃ x, wr.cell? ⟨w.heap.size + 1 + 1, 16 + k, none⟩ = some (.int .u32 x) := ⟨_, hmem.word (16 + k) (by omega)⟩
          have HMEM := Lib.hid hmem
          clear hmem
          have hd : decide (16 + (k : Int) < 64) = true := by simp; omega
          obtain ⟨i15, p15, q15, t15⟩ := index_facts (16 + (k : Int) - 15) (k + 1) (by omega) (by omega)
          obtain ⟨i2, p2, q2, t2⟩ := index_facts (16 + (k : Int) - 2) (k + 14) (by omega) (by omega)
          obtain ⟨i16, p16, q16, t16⟩ := index_facts (16 + (k : Int) - 16) k (by omega) (by omega)
          obtain ⟨i7, p7, q7, t7⟩ := index_facts (16 + (k : Int) - 7) (k + 9) (by omega) (by omega)
          rw [show ((k + 1 : Nat) : Int) = (k : Int) + 1 from by omega] at i15 p15 q15 t15
          rw [show ((k + 14 : Nat) : Int) = (k : Int) + 14 from by omega] at i2 p2 q2 t2
          rw [show ((k + 9 : Nat) : Int) = (k : Int) + 9 from by omega] at i7 p7 q7 t7
          have wk : IntKind.i64.wrap (k : Int) = (k : Int) := IntWalk.i64_in _ (by omega)
          have hs0 := ss0_bits x1 l1
          have hs1 := ss1_bits x14 l14
          go_wp2
          go_quiet ((go_at_call 72; exact quiet_here (rotated_int x1 _ _ l1 (by decide) (by decide))))
          go_wp2
          go_quiet ((go_at_call 72; exact quiet_there (rotated_int x14 _ _ l14 (by decide) (by decide))))
          go_wp2
          clear hs0 hs1
          go_region
          go_wp2
          go_roundw
          case rel =>
            have e : ∀ n, SchedMem w m (laterWords m (k + 1)) ((wr.drewN n).setCell ⟨w.heap.size + 1 + 1, 16 + k, none⟩ (wordV (nextWord (sched (words16 m) k) k))) := fun n => by
              rw [← laterWords_set m k hlt]; exact (HMEM.out.drewN n).set _ _
            have ev : ((x0 : Int) + (ss0 x1 : Int) + (x9 : Int) + (ss1 x14 : Int)) % 4294967296 = ((nextWord (sched (words16 m) k) k : Nat) : Int) := by rw [HX.out]; omega
            refine ⟨k + 1, by omega, by go_num, ?_⟩
            rw [ev]
            exact e _
          case measure => simp [intOf]; omega
        · have e48 : k = 48 := by omega
          subst e48
          rw [laterWords_end] at hmem
          obtain ⟨hb, hz, hm0, hm1, hm2, hl⟩ := hmem
          have H0 := Lib.hid hm0
          have H1 := Lib.hid hm1
          have H2 := Lib.hid hm2
          clear hm0 hm1 hm2 hz
          have sz1 : (Tryd.prog.info? 118).map (·.size) = some ((schedule m).map wordV).length := by rw [List.length_map, length_schedule]; kernel_rfl
          go_wp2_with (first
            | (refine wp_load_mem H2.out 118 (.tmp 3) (.array 64 77) rfl rfl rfl Tryd.underlying118 rfl sz1 ?_)
            | (refine wp_store_mem H1.out ((schedule m).map wordV) 118 (.tmp 2) (.tmp 88) rfl rfl rfl rfl sz1 ?_ ?_ ?_))
          · simp [length_schedule]
          · intro v hv
            obtain ⟨x, _, rfl⟩ := List.mem_map.1 hv
            rfl
          · exact bodyPost_ret (v := .agg ((schedule m).map wordV).toArray) (results_mem (H1.out.setRow _) rfl _ (.array 64 77) rfl Tryd.underlying118 rfl sz1) rfl ⟨rfl, below_row hb (by omega) _⟩
end Go.Proofs.YtblfekecmahagaaDoor

/-
  hash.Write, Sum, Of, Hex.
-/
import Derived.Test.YtblfekecmahagaaDoorState
namespace Go.Proofs.YtblfekecmahagaaDoor
open Go.RowKit Crv

/-- A slice value that reads as a list of strings. -/
def StrSlice (w : World) (v : Value) (ls : List (List UInt8)) : Prop := ∃ a cap, v = .slice a ls.length cap ∧ ∀ i, i < ls.length → ∃ b off, a = some ⟨b, off, none⟩ ∧ w.cell? ⟨b, off + i, none⟩ = some (.string (str (ls.getD i [])))
theorem stateCells_int (s : St) (tail : List UInt8) (c : Nat) : ∀ v ∈ stateCells s tail c, ∃ k n, v = .int k n := by
  intro v hv
  simp only [stateCells, List.mem_append, List.mem_map, List.mem_singleton] at hv
  rcases hv with ⟨x, _, rfl⟩ | ⟨x, _, rfl⟩ | rfl <;> exact ⟨_, _, rfl⟩
theorem Holds.noString {w : World} {b : Nat} {m : List UInt8} (h : Holds w b m) {i : Nat} {s : ByteArray} : w.cell? ⟨b, i, none⟩ ≠ some (.string s) := by
  obtain ⟨tail, _, _, hm⟩ := h
  intro he
  rw [hm.cell] at he
  obtain ⟨k, n, hv⟩ := stateCells_int _ _ _ _ (List.mem_of_getElem? he)
  cases hv
theorem StrSlice.grown {w w' : World} {b : Nat} {m : List UInt8} {v : Value} {ls : List (List UInt8)} (h : StrSlice w v ls) (hh : Holds w b m) (hg : w.grownBy w' (some b)) : StrSlice w' v ls := by
  obtain ⟨a, cap, hv, hc⟩ := h
  refine ⟨a, cap, hv, fun i hi => ?_⟩
  obtain ⟨b', off, ha, hcell⟩ := hc i hi
  refine ⟨b', off, ha, ?_⟩
  exact hg.cell hcell (by
    intro e
    injection e with e
    have e' : b' = b := e
    subst e'
    exact hh.noString hcell)
theorem StrSlice.below {w w' : World} {v : Value} {ls : List (List UInt8)} (h : StrSlice w v ls) (hb : Below w.heap.size w w') : StrSlice w' v ls := by
  obtain ⟨a, cap, hv, hc⟩ := h
  refine ⟨a, cap, hv, fun i hi => ?_⟩
  obtain ⟨b', off, ha, hcell⟩ := hc i hi
  exact ⟨b', off, ha, (hb.cell (p := ⟨b', off + i, none⟩) (World.block_lt_of_cell? w _ hcell)).trans hcell⟩
theorem flatten_take_succ (ls : List (List UInt8)) (k : Nat) (h : k < ls.length) : (ls.take (k + 1)).flatten = (ls.take k).flatten ++ ls.getD k [] := by
  rw [List.take_succ_eq_append_getElem h, List.flatten_append]
  simp [List.getD_eq_getElem?_getD, List.getElem?_eq_getElem h]
theorem flatten_take_le (ls : List (List UInt8)) (k : Nat) : (ls.take k).flatten.length ≤ ls.flatten.length := by
  conv => rhs; rw [← List.take_append_drop k ls, List.flatten_append, List.length_append]
  omega
set_option maxHeartbeats 1000000 in
set_option maxRecDepth 100000 in
theorem write_any (w : World) (b : Nat) (m : List UInt8) (v : Value) (ls : List (List UInt8)) (hc : Consts w) (hb : 2 ≤ b) (hh : Holds w b m) (hv : StrSlice w v ls) (hn : ls.length ≤ 1099511627776) (hl : m.length + ls.flatten.length < 1152921504606846976) :
    Calls Tryd.prog 38 #[.pointer (some ⟨b, 0, none⟩), v] w fun e w' => e = .returned (.pointer (some ⟨b, 0, none⟩)) ∧ Holds w' b (m ++ ls.flatten) ∧ w.grownBy w' (some b) := by
  obtain ⟨a, cap, rfl, hcell⟩ := hv
  have HC := Lib.hid hc
  have HH := Lib.hid hh
  have HV := Lib.hid (show StrSlice w (.slice a ls.length cap) ls from ⟨a, cap, rfl, hcell⟩)
  clear hc hh hcell
  go_enter Tryd.func38, Tryd.ntmps38
  go_wp2
  go_loopw [9] (fun i wr => ∃ k : Nat, k ≤ ls.length ∧ i = .int .i64 k ∧ Hid (Holds wr b (m ++ (ls.take k).flatten)) ∧ w.grownBy wr (some b)) (fun i _ => ls.length - (intOf i).toNat)
  case atStart => exact ⟨0, by omega, rfl, Lib.hid (by simpa using HH.out), ⟨rfl, rfl, rfl, Nat.le_refl _, fun _ _ _ => rfl⟩⟩
  case round =>
    obtain ⟨k, hk, rfl, HR, hg⟩ := hrel
    by_cases hlt : k < ls.length
    · obtain ⟨a', cap', he, hcell⟩ := HV.out.grown HH.out hg
      obtain ⟨b', off, ha, hc⟩ := hcell k hlt
      injection he with he1 he2 he3
      subst he1
      subst ha
      obtain ⟨x, hx⟩ : ∃ x, x = ls.getD k [] := ⟨_, rfl⟩
      rw [← hx] at hc
      have HX := Lib.hid hx
      clear hx he2 he3 hcell
      have hd : decide ((k : Int) < (ls.length : Int)) = true := by simp; omega
      have hkl : (k : Int) < (ls.length : Int) := by omega
      go_wp2_with fail
      refine (add_any _ b _ x (HC.out.grown hg hb) hb HR.out ?_).mono ?_
      · have := flatten_take_le ls (k + 1)
        rw [flatten_take_succ ls k hlt, List.length_append, ← HX.out] at this
        rw [List.length_append]
        omega
      rintro e w2 ⟨rfl, hh2, hg2⟩
      go_wp2
      go_roundw
      case rel => exact ⟨k + 1, by omega, by go_num, Lib.hid (by rw [flatten_take_succ ls k hlt, ← HX.out, ← List.append_assoc]; exact hh2), grown_trans hg hg2⟩
      case measure => simp [intOf]; omega
    · have e : k = ls.length := by omega
      subst e
      rw [List.take_length] at HR
      go_wp2
      go_ret
      exact ⟨rfl, HR.out, hg⟩

/-! ### Sum -/
theorem bytes_get (s : St) (i j : Nat) (hi : i < 8) (hj : j < 4) : s.bytes.getD (4 * i + j) 0 = UInt8.ofNat (s.list.getD i 0 / 2 ^ (24 - 8 * j)) := by
  match i, hi, j, hj with
  | 0, _, 0, _ => rfl | 0, _, 1, _ => rfl | 0, _, 2, _ => rfl | 0, _, 3, _ => simp [St.bytes, St.list, be4]
  | 1, _, 0, _ => rfl | 1, _, 1, _ => rfl | 1, _, 2, _ => rfl | 1, _, 3, _ => simp [St.bytes, St.list, be4]
  | 2, _, 0, _ => rfl | 2, _, 1, _ => rfl | 2, _, 2, _ => rfl | 2, _, 3, _ => simp [St.bytes, St.list, be4]
  | 3, _, 0, _ => rfl | 3, _, 1, _ => rfl | 3, _, 2, _ => rfl | 3, _, 3, _ => simp [St.bytes, St.list, be4]
  | 4, _, 0, _ => rfl | 4, _, 1, _ => rfl | 4, _, 2, _ => rfl | 4, _, 3, _ => simp [St.bytes, St.list, be4]
  | 5, _, 0, _ => rfl | 5, _, 1, _ => rfl | 5, _, 2, _ => rfl | 5, _, 3, _ => simp [St.bytes, St.list, be4]
  | 6, _, 0, _ => rfl | 6, _, 1, _ => rfl | 6, _, 2, _ => rfl | 6, _, 3, _ => simp [St.bytes, St.list, be4]
  | 7, _, 0, _ => rfl | 7, _, 1, _ => rfl | 7, _, 2, _ => rfl | 7, _, 3, _ => simp [St.bytes, St.list, be4]
theorem length_bytes (s : St) : s.bytes.length = 32 := rfl
/-- The digest while its first p bytes are known. -/
def digestTo (full : List UInt8) (p : Nat) : List UInt8 := full.take p ++ List.replicate (32 - p) 0
theorem length_digestTo (full : List UInt8) (p : Nat) (h : full.length = 32) (hp : p ≤ 32) : (digestTo full p).length = 32 := by simp [digestTo, h]; omega
theorem digestTo_set (full : List UInt8) (p : Nat) (h : full.length = 32) (hp : p < 32) : (digestTo full p).set p (full.getD p 0) = digestTo full (p + 1) := by
  obtain ⟨r, hr⟩ : ∃ r, 32 - p = r + 1 := ⟨31 - p, by omega⟩
  have hr' : 32 - (p + 1) = r := by omega
  have hlt : (full.take p).length = p := by rw [List.length_take]; omega
  unfold digestTo
  rw [hr, hr', List.set_append_right _ _ (by omega), hlt, Nat.sub_self, List.replicate_succ, List.set_cons_zero, List.take_succ_eq_append_getElem (by omega), List.append_assoc, List.getD_eq_getElem?_getD, List.getElem?_eq_getElem (by omega)]
  rfl
theorem digestTo_all (full : List UInt8) (h : full.length = 32) : digestTo full 32 = full := by simp [digestTo, ← h]

theorem padded_length (m : List UInt8) : (m ++ padding m.length).length % 64 = 0 := by
  simp only [padding, List.length_append, List.length_cons, List.length_replicate, be8, be4, zeros]
  simp
  omega

/-- The memory of Sum's loop. -/
def DigMem (w0 : World) (D : Nat) (S : St) (p : Nat) (w : World) : Prop := Below w0.heap.size w0 w ∧ Mem w w0.heap.size 34 (List.replicate 32 (byteV 0)) ∧ Mem w D 34 ((digestTo S.bytes p).map byteV)
theorem DigMem.set {w0 w : World} {D : Nat} {S : St} {p : Nat} (h : DigMem w0 D S p w) (hD : w0.heap.size < D) (hp : p < 32) : DigMem w0 D S (p + 1) (w.setCell ⟨D, p, none⟩ (byteV (S.bytes.getD p 0))) := by
  obtain ⟨h1, h2, h3⟩ := h
  refine ⟨h1.setCell (Nat.le_of_lt hD) _, h2.other (Nat.ne_of_lt hD) _, ?_⟩
  rw [← digestTo_set _ _ (length_bytes S) hp, List.map_set]
  exact h3.set _ _
theorem one_bytes (l : List UInt8) : ∀ v ∈ l.map byteV, v.oneCell' = true := by
  intro v hv
  obtain ⟨x, _, rfl⟩ := List.mem_map.1 hv
  rfl
theorem sha_eq (m : List UInt8) : sha m = (blocks init (m ++ padding m.length) ((m ++ padding m.length).length / 64)).bytes := rfl
theorem length_padding (n : Nat) : (padding n).length = zeros n + 9 := by simp [padding, be8, be4]
theorem Holds.below {w w' : World} {b : Nat} {m : List UInt8} (h : Holds w b m) (hb : Below w.heap.size w w') : Holds w' b m := by
  obtain ⟨t, h1, h2, h3⟩ := h
  exact ⟨t, h1, h2, h3.below hb h3.lt⟩

set_option maxHeartbeats 1000000 in
set_option maxRecDepth 100000 in
theorem sum_any (w : World) (b : Nat) (m : List UInt8) (hc : Consts w) (hh : Holds w b m) (hl : m.length < 576460752303423488) :
    Calls Tryd.prog 39 #[.pointer (some ⟨b, 0, none⟩)] w fun e w' => e = .returned (.agg ((sha m).map byteV).toArray) ∧ Below w.heap.size w w' := by
  have HC := Lib.hid hc
  have HH := Lib.hid hh
  obtain ⟨tail, ht, hmt, hmem⟩ := hh
  have c72 : w.cell? ⟨b, 72, none⟩ = some (.int .u64 (m.length : Int)) := by rw [hmem.cell, stateCells_at _ _ _ ht]
  have sz73 : (Tryd.prog.info? 93).map (·.size) = some (stateCells (blocks init m (m.length / 64)) tail m.length).length := by rw [length_stateCells _ _ _ ht]; kernel_rfl
  have hlen : (Tryd.zeroCells93.toList).length = (stateCells (blocks init m (m.length / 64)) tail m.length).length := by rw [length_stateCells _ _ _ ht]; kernel_rfl
  have hone : ∀ v ∈ stateCells (blocks init m (m.length / 64)) tail m.length, v.oneCell' = true := by
    intro v hv
    obtain ⟨k, n, rfl⟩ := stateCells_int _ _ _ _ hv
    rfl
  have HT := Lib.hid ht
  have HM := Lib.hid hmem
  have HMT := Lib.hid hmt
  clear hc hmt hmem ht
  go_enter Tryd.func39, Tryd.ntmps39
  go_wp2_with (first
    | (refine wp_load_mem (HM.out.alloc _) 93 (.tmp 9) _ rfl rfl rfl Tryd.underlying93 rfl sz73 ?_)
    | (refine wp_store_gen (B := w.heap.size) (w0 := w) (((Below.refl _ _).alloc (Nat.le_refl _) _).alloc (by simp) _) (Nat.le_succ _) (Mem.newArr _ _ _ (by simp)) (stateCells (blocks init m (m.length / 64)) tail m.length) 93 (.tmp 3) (.tmp 10) rfl rfl rfl rfl sz73 hlen hone ?_
       intro W1 hm1 hb1 hz1 hk1
       have hm0 : Mem W1 w.heap.size 34 (List.replicate 32 (byteV 0)) := (hk1 _ (by omega)).trans ((Mem.newAt w _ _ rfl).alloc _)
       have hh1 : Holds W1 (w.heap.size + 1) m := ⟨tail, HT.out, HMT.out, hm1⟩
       have c72' : W1.cell? ⟨b, 72, none⟩ = some (.int .u64 (m.length : Int)) := (hb1.cell (p := ⟨b, 72, none⟩) HM.out.lt).trans c72
       have H0 := Lib.hid hm0
       have H1 := Lib.hid hh1
       have HZ : Hid (W1.heap.size = w.heap.size + 1 + 1) := Lib.hid (by simpa using hz1)
       clear hm0 hm1 hk1 c72 hh1 hz1)
    | fail)
  refine (padding_any m.length _ (by omega)).mono ?_
  rintro e W2 ⟨rfl, hb2⟩
  have hh2 := H1.out.below hb2
  have hb12 := hb1.trans (hb2.mono (by have := HZ.out; omega))
  have hm2 := H0.out.below hb2 H0.out.lt
  have hc2 := HC.out.below hb12
  have HH2 := Lib.hid hh2
  have HC2 := Lib.hid hc2
  have HM2 := Lib.hid hm2
  have hwb : b < w.heap.size := HM.out.lt
  have hN : 2 ≤ w.heap.size := HC.out.2.lt
  clear hh2 hc2 hm2 hb1 c72' H0 H1 HM HMT HH
  go_wp2_with fail
  refine (add_any _ (w.heap.size + 1) m (padding m.length) HC2.out (by omega) HH2.out (by rw [length_padding]; have := zeros_lt m.length; omega)).mono ?_
  rintro e W3 ⟨rfl, hh3, hg3⟩
  obtain ⟨tail3, ht3, _, hm3⟩ := hh3
  obtain ⟨S, hS⟩ : ∃ S, S = blocks init (m ++ padding m.length) ((m ++ padding m.length).length / 64) := ⟨_, rfl⟩
  rw [← hS] at hm3
  have HS := Lib.hid hS
  have hb3 : Below w.heap.size w W3 := ⟨hg3.os.trans hb12.os, hg3.tape.trans hb12.tape, hg3.output.trans hb12.output, Nat.le_trans hb12.size hg3.size, fun k hk => (hg3.block k (Nat.lt_of_lt_of_le hk hb12.size) (fun e => by injection e with e; omega)).trans (hb12.block k hk)⟩
  have hr3 := HM2.out.grown hg3 (fun e => by injection e with e; omega)
  have HR3 := Lib.hid hr3
  have H3 := Lib.hid hm3
  have h3lt : w.heap.size + 1 < W3.heap.size := hm3.lt
  clear hS hr3 hm3 hg3 hb2 hb12 HM2 HC2 HH2
  have sz8 : (Tryd.prog.info? 89).map (·.size) = some (S.list.map wordV).length := by kernel_rfl
  go_wp2_with (first
    | (refine wpList_load_mid rfl 89 (.tmp 17) rfl (w.heap.size + 1) 0 rfl (S.list.map wordV) (.array 8 77) ((H3.out.alloc _).range 0 _ ⟨_, rfl⟩) Tryd.underlying89 rfl sz8 ?_)
    | fail)
  have hst : DigMem w W3.heap.size S 0 (W3.alloc (.cells (List.replicate 32 (byteV 0)).toArray 34)) := ⟨hb3.alloc hb3.size _, HR3.out.alloc _, Mem.new W3 _ _⟩
  have hDN : w.heap.size < W3.heap.size := by omega
  clear hb3 HR3 H3 h3lt sz73 hlen hone HT
  go_loopw [19] (fun i wr => ∃ k : Nat, k ≤ 8 ∧ i = .int .i64 k ∧ DigMem w W3.heap.size S (4 * k) wr) (fun i _ => 8 - (intOf i).toNat)
  case atStart => exact ⟨0, by omega, rfl, hst⟩
  case round =>
    clear hst
    obtain ⟨k, hk, rfl, hmem⟩ := hrel
    by_cases hlt : k < 8
    · obtain ⟨x, hx⟩ : ∃ x, x = S.list.getD k 0 := ⟨_, rfl⟩
      have hix := fun W => run_index_agg (P := Tryd.prog) 89 77 8 (S.list.map wordV) .u32 .i64 k (.int .u32 x) Tryd.underlying89 Tryd.underlying77 (by kernel_rfl) hlt (by rw [hx, List.getElem?_map, List.getD_eq_getElem?_getD, List.getElem?_eq_getElem (by simpa [St.list] using hlt)]; rfl) W
      have hxl : x < 4294967296 := by rw [hx]; exact getD_lt (by rw [HS.out]; exact blocks_ok init_ok _ _) k
      have HX := Lib.hid hx
      have hd : decide ((k : Int) < 8) = true := by simp; omega
      have HMEM := Lib.hid hmem
      clear hx hmem
      go_wp2
      go_loopw [23] (fun i wr => ∃ j : Nat, j ≤ 4 ∧ i = .int .i64 j ∧ DigMem w W3.heap.size S (4 * k + j) wr) (fun i _ => 4 - (intOf i).toNat)
      case atStart => exact ⟨0, by omega, rfl, HMEM.out⟩
      case round =>
        clear HMEM
        obtain ⟨j, hj, rfl, hmem⟩ := hrel
        by_cases hjl : j < 4
        · have hdj : decide ((j : Int) < 4) = true := by simp; omega
          obtain ⟨u, cu⟩ : ∃ u, wr.cell? ⟨W3.heap.size, 4 * k + j, none⟩ = some u := ⟨_, (hmem.2.2.cell _).trans (List.getElem?_eq_getElem (by rw [List.length_map, length_digestTo _ _ (length_bytes S) (by omega)]; omega))⟩
          have cf := hmem.2.2.frozen (4 * k + j)
          have p1 : (0 : Int) ≤ 4 * (k : Int) + (j : Int) := by omega
          have p2 : 4 * (k : Int) + (j : Int) < 32 := by omega
          have p3 : (0 : Int) ≤ 24 - 8 * (j : Int) := by omega
          have HMEM := Lib.hid hmem
          clear hmem
          go_wp2
          go_roundw
          case rel =>
            have ev : ((x : Int) / 2 ^ (24 - 8 * j) % 256) = ((S.bytes.getD (4 * k + j) 0).toNat : Int) := by rw [bytes_get S k j hlt hjl, ← HX.out]; simp
            refine ⟨j + 1, by omega, by go_num, ?_⟩
            rw [ev]
            exact HMEM.out.set hDN (by omega)
          case measure => simp [intOf]; omega
        · have e4 : j = 4 := by omega
          subst e4
          go_wp2
          go_roundw
          case rel => exact ⟨k + 1, by omega, by go_num, hmem⟩
          case measure => simp [intOf]; omega
    · have e8 : k = 8 := by omega
      subst e8
      obtain ⟨hbe, hm0, hmD⟩ := hmem
      rw [show 4 * 8 = 32 from rfl, digestTo_all _ (length_bytes S)] at hmD
      have H0 := Lib.hid hm0
      have HD := Lib.hid hmD
      clear hm0 hmD
      have sz32 : (Tryd.prog.info? 34).map (·.size) = some (S.bytes.map byteV).length := by kernel_rfl
      go_wp2_with (first
        | (refine wp_load_mem HD.out 34 (.tmp 4) (.array 32 5) rfl rfl rfl Tryd.underlying34 rfl sz32 ?_)
        | (refine wp_store_mem H0.out (S.bytes.map byteV) 34 (.tmp 2) (.tmp 39) rfl rfl rfl rfl sz32 rfl (one_bytes _) ?_)
        | fail)
      exact bodyPost_ret (v := .agg ((sha m).map byteV).toArray) (by rw [sha_eq, ← HS.out]; exact results_mem (H0.out.setRow _) rfl _ (.array 32 5) rfl Tryd.underlying34 rfl sz32) rfl ⟨rfl, below_row hbe (Nat.le_refl _) _⟩

end Go.Proofs.YtblfekecmahagaaDoor

/-
  What is encoded is decoded.
-/
import Derived.Test.YtclggeicpdkkdaaBal13
import Derived.Test.YtclggeicpdkkdaaBal7
namespace Go.Proofs.Ytclggeicpdkkdaa
open Go.RowKit Crv

theorem val_be : ∀ (k n : Nat), val (be k n) = n % 256 ^ k
  | 0, n => by simp [be, val, Nat.mod_one]
  | k + 1, n => by
    have e : 256 ^ (k + 1) = 256 * 256 ^ k := by rw [Nat.pow_succ, Nat.mul_comm]
    rw [be, val_snoc, val_be k (n / 256), UInt8.toNat_ofNat', e, Nat.mod_mul]
    omega
theorem lt_pow_numLen (n : Nat) : n < 256 ^ numLen n := by
  rw [pow256]
  refine Nat.lt_of_lt_of_le (len64_lt n) (Nat.pow_le_pow_right (by omega) ?_)
  unfold numLen
  omega
theorem numS_numOf (n : Nat) (rest : List UInt8) (hn : n < 18446744073709551616) : numS (numOf n ++ rest, 0) = ((rest, 0), n) := by
  have hk := numLen_le hn
  have e0 : bytesS (numOf n ++ rest, 0) 1 = ((be (numLen n) n ++ rest, 0), [UInt8.ofNat (numLen n)]) := by
    simp [bytesS, numOf]
    omega
  have hb : (UInt8.ofNat (numLen n)).toNat = numLen n := by rw [UInt8.toNat_ofNat']; omega
  have e1 : bytesS (be (numLen n) n ++ rest, 0) (((UInt8.ofNat (numLen n)).toNat : Nat) : Int) = ((rest, 0), be (numLen n) n) := by
    rw [hb]
    unfold bytesS
    rw [if_neg (by simp [length_be]; omega)]
    have hl := length_be (numLen n) n
    simp only [Int.toNat_natCast]
    rw [List.drop_append_of_le_length (by omega), List.take_append_of_le_length (by omega), List.drop_of_length_le (by omega), List.take_of_length_le (by omega), List.nil_append]
  unfold numS
  rw [e0]
  simp only
  rw [if_neg (by omega), e1]
  have hv := val_be (numLen n) n
  rw [Nat.mod_eq_of_lt (lt_pow_numLen n)] at hv
  cases hd : be (numLen n) n with
  | nil =>
    rw [hd] at hv
    simp [val] at hv
    simp [hv.symm]
  | cons x t =>
    rw [hd] at hv
    have hx : x ≠ 0 := by
      intro h0
      have hl : (x :: t).length = numLen n := by rw [← hd]; exact length_be _ _
      obtain ⟨j, hj⟩ : ∃ j, numLen n = j + 1 := ⟨t.length, by rw [← hl]; rfl⟩
      rw [hj, be_front] at hd
      injection hd with h1 h2
      have h3 : 0 < n / 256 ^ j := (lt_numLen n j).1 (by omega)
      have h4 : n / 256 ^ j < 256 := by
        have h6 := lt_pow_numLen n
        rw [hj] at h6
        exact Nat.div_lt_of_lt_mul (by rw [← Nat.pow_succ]; exact h6)
      rw [h0] at h1
      have h5 := congrArg UInt8.toNat h1
      rw [UInt8.toNat_ofNat'] at h5
      simp at h5
      omega
    simp only [if_neg hx, hv]
theorem intS_numOf (n : Nat) (rest : List UInt8) (top : Int) (hn : n < 9223372036854775808) (ht : (n : Int) ≤ top) : intS (numOf n ++ rest, 0) top = ((rest, 0), n) := by
  unfold intS
  rw [numS_numOf n rest (by omega)]
  simp only
  rw [if_neg (by unfold nat0; omega)]
theorem bytesS_app (s rest : List UInt8) : bytesS (s ++ rest, 0) (s.length : Int) = ((rest, 0), s) := by
  unfold bytesS
  rw [if_neg (by simp; omega)]
  simp
theorem strS_strOf (s rest : List UInt8) (top : Int) (hs : (s.length : Int) ≤ top) (hl : s.length < 1099511627776) : strS (strOf s ++ rest, 0) top = ((rest, 0), s) := by
  unfold strS strOf
  rw [List.append_assoc, intS_numOf s.length (s ++ rest) top (by omega) hs]
  exact bytesS_app s rest

/-! ### Names out of bytes -/
theorem made_rep (n : Nat) : madeCells (Array.replicate 32 (byteV 0)) n = (List.replicate n (byteV 0)).toArray := by
  apply Array.ext
  · simp [size_madeCells]
  · intro i h1 h2
    have hi : i % 32 < 32 := Nat.mod_lt _ (by omega)
    have hz : ∀ j, j < 32 → (Array.replicate 32 (byteV 0))[j]! = byteV 0 := by
      intro j hj
      simp [hj]
    have := hz (i % 32) hi
    simpa [madeCells] using this
theorem made_id (n : Nat) : madeCells (Value.agg zs32).cells n = (List.replicate n (byteV 0)).toArray := made_rep n
theorem make_ids (n : Nat) (hn : n ≤ 1000) (W : World) : (Instr.makeSlice 28 (.int .i64 (n : Int)) (.int .i64 (n : Int))).run Try.prog W = .ok (.slice (some ⟨W.heap.size, 0, none⟩) n n) (W.alloc (.cells (List.replicate (n * 32) (byteV 0)).toArray Ti)) := by
  obtain ⟨i, hi, hz, hs, hb⟩ : ∃ i, Try.prog.info? Ti = some i ∧ i.zero = some (.agg zs32) ∧ i.size = 32 ∧ i.bytes = 32 := info_of (by kernel_rfl)
  have hr := run_make (P := Try.prog) W 28 Ti i (.agg zs32) Try.underlying28 hi hz .i64 .i64 n n (by omega) (by omega) (by rw [hb]; omega) (by omega)
  simp only [Int.toNat_natCast, hs] at hr
  rw [hr, made_id]

/-- A store of a whole array into the middle of a block. -/
theorem wp_store_rng {P : Program} {ops : Array Oper} {rest : List Oper} {o : Oper} {a : Act} {w : World} {Q : Exit → Act → World → Prop} {g off : Nat} {t : TypeId} {old : List Value} (hm : Mem w g t old) (cs : List Value) (ty : TypeId) (x y : Operand) (hgd : o.guard = none) (ho : o.op = .store ty x y)
    (hx : a.eval x = .pointer (some ⟨g, off, none⟩)) (hy : a.eval y = .agg cs.toArray) (hi : (P.info? ty).map (·.size) = some cs.length) (hl : off + cs.length ≤ old.length) (h1 : ∀ v ∈ cs, v.oneCell' = true)
    (h : ∀ W, Mem W g t (old.take off ++ (cs ++ old.drop (off + cs.length))) → w.grownBy W (some g) → wpList P ops Q rest (a.put o.dst undef) W) : wpList P ops Q (o :: rest) a w := by
  refine wpList_plain hgd fun K hK => ?_
  have hr := run_store_rowOf (P := P) (n := cs.length) hi w g off cs rfl h1 (hm.hasRow off cs.length hl)
  unfold Oper.wp execOp
  simp only [ho, hx, hy, hr, Sem.run_bind, Sem.run_pure, Result.andThen_ok]
  exact hK _ _ (h _ (setCells_row cs off w old hm hl) (grown_cells cs off w (grownRefl _ _)))

/-- The first k names are there. -/
def idsTo (xs : List (List UInt8)) (k : Nat) : List Value := idCells (xs.take k) ++ List.replicate ((xs.length - k) * 32) (byteV 0)
theorem length_idsTo {xs : List (List UInt8)} (h : ∀ x ∈ xs, x.length = 32) (k : Nat) (hk : k ≤ xs.length) : (idsTo xs k).length = xs.length * 32 := by
  unfold idsTo
  rw [List.length_append, length_idCells (fun x hx => h x (List.mem_of_mem_take hx)), List.length_take, List.length_replicate, Nat.min_eq_left hk]
  omega
theorem idsTo_set {xs : List (List UInt8)} (h : ∀ x ∈ xs, x.length = 32) (k : Nat) (hk : k < xs.length) :
    (idsTo xs k).take (k * 32) ++ (xs[k].map byteV ++ (idsTo xs k).drop (k * 32 + (xs[k].map byteV).length)) = idsTo xs (k + 1) := by
  have hl : (idCells (xs.take k)).length = k * 32 := by
    rw [length_idCells (fun x hx => h x (List.mem_of_mem_take hx)), List.length_take, Nat.min_eq_left (by omega)]
  have hx := h xs[k] (List.getElem_mem hk)
  have e : idCells (xs.take (k + 1)) = idCells (xs.take k) ++ xs[k].map byteV := by
    rw [idCells, List.take_succ_eq_append_getElem hk, List.flatten_append, List.map_append]
    simp [idCells]
  unfold idsTo
  rw [e, List.length_map, hx, List.take_append_of_le_length (by omega), List.take_of_length_le (by omega), List.drop_append, List.drop_of_length_le (by omega), List.nil_append, hl, List.drop_replicate, List.append_assoc]
  congr 3
  omega
theorem idsTo_all {xs : List (List UInt8)} : idsTo xs xs.length = idCells xs := by simp [idsTo]

set_option maxRecDepth 100000 in
set_option maxHeartbeats 2000000 in
theorem idsB_ok (w : World) (g : Nat) (xs : List (List UInt8)) (tail : List UInt8) (h : BM w g (idsOf xs ++ tail, 0)) (h32 : ∀ x ∈ xs, x.length = 32) (hn : xs.length ≤ 6) (ht : tail.length ≤ 1000) :
    Calls Try.prog 23 #[ptr g, .int .i64 6] w fun e w' => ∃ v, e = .returned v ∧ Ids w' 0 v xs ∧ BM w' g (tail, 0) ∧ w.grownBy w' (some g) := by
  have HI := Lib.hid (intB_any w g _ 6 h (by omega) (by omega))
  unfold idsOf at HI
  rw [List.append_assoc, intS_numOf xs.length _ 6 (by omega) (by omega)] at HI
  have hgw : g < w.heap.size := Mem.lt h
  have H32 := Lib.hid h32
  have hfl : (xs.flatten ++ tail).length = 32 * xs.length + tail.length := by rw [List.length_append, flatten_len32 xs h32]
  clear h h32
  obtain ⟨n, hn'⟩ : ∃ n, n = xs.length := ⟨_, rfl⟩
  have HN := Lib.hid hn'
  rw [← hn'] at HI hn hfl
  clear hn'
  go_enter Try.func23, Try.ntmps23
  go_wp2_with fail
  refine HI.out.mono ?_
  rintro e w1 ⟨rfl, hm1, hg1⟩
  clear HI
  obtain ⟨l, hl⟩ : ∃ l, l = xs.flatten ++ tail := ⟨_, rfl⟩
  have HLE := Lib.hid hl
  rw [← hl] at hm1 hfl
  clear hl
  have c0 : w1.cell? ⟨g, 0, none⟩ = some (.string (str l)) := Mem.cell hm1 0
  have HM1 := Lib.hid hm1
  have hle : ¬ ((l.length : Int) / 32 < (n : Int)) := by rw [hfl]; omega
  have hd : decide ((l.length : Int) / 32 < (n : Int)) = false := by simpa using hle
  have HFL := Lib.hid hfl
  have hll : l.length ≤ 2000 := by omega
  clear hm1 hfl
  by_cases h0 : n = 0
  · subst h0
    have hx : xs = [] := List.eq_nil_of_length_eq_zero HN.out.symm
    have hle0 : ¬ ((l.length : Int) / 32 < 0) := by omega
    have hd1 : decide ((l.length : Int) / 32 < 0) = false := by simpa using hle0
    clear hle hd
    rw [show ((0 : Nat) : Int) = 0 from rfl]
    go_wp2_with fail
    go_loop [27] (fun i => i = .int .i64 0) (fun _ => 0)
    case atStart => rfl
    case round =>
      subst hrel
      go_wp2_with fail
      go_ret
      refine ⟨_, rfl, ⟨by simp, rfl, .inl ⟨rfl, rfl⟩⟩, ?_, hg1⟩
      have := HM1.out
      rw [HLE.out, hx] at this
      simpa using this
  · have hpos : 0 < n := by omega
    have hmk := fun W => make_ids n (by omega) W
    have hd0 : decide (0 < n) = true := by simpa using hpos
    have hmem : ∀ W : World, Mem (W.alloc (.cells (Array.replicate (n * 32) (byteV 0)) Ti)) W.heap.size Ti (idsTo xs 0) := fun W => by
      have e : idsTo xs 0 = (Array.replicate (n * 32) (byteV 0)).toList := by rw [HN.out]; simp [idsTo, idCells]
      rw [e]
      exact Mem.newArr W _ _ rfl
    have HG0 := Lib.hid (hmem w1)
    have HM2 := Lib.hid (show BM (w1.alloc (.cells (Array.replicate (n * 32) (byteV 0)) Ti)) g ((xs.drop 0).flatten ++ tail, 0) by
      have := HM1.out
      rw [HLE.out] at this
      exact BM.below this (belowSelf _ _))
    have HGR := Lib.hid (show w.grownBy (w1.alloc (.cells (Array.replicate (n * 32) (byteV 0)) Ti)) (some g) from grown_below hg1 (belowSelf _ _))
    have hgG : g < w1.heap.size := Nat.lt_of_lt_of_le hgw hg1.size
    have hGw : w.heap.size ≤ w1.heap.size := hg1.size
    clear hmem HM1 hle hg1
    go_wp2_with fail
    obtain ⟨G, hG⟩ : ∃ G, G = w1.heap.size := ⟨_, rfl⟩
    rw [← hG] at HG0 hgG hGw
    rw [← hG]
    clear hG
    go_loopw [27] (fun i wr => ∃ k : Nat, k ≤ n ∧ i = .int .i64 k ∧ Hid (Mem wr G Ti (idsTo xs k) ∧ BM wr g ((xs.drop k).flatten ++ tail, 0) ∧ w.grownBy wr (some g))) (fun i _ => n - (intOf i).toNat)
    case atStart => exact ⟨0, by omega, rfl, Lib.hid ⟨HG0.out, HM2.out, HGR.out⟩⟩
    case round =>
      clear HG0 HM2 HGR
      obtain ⟨k, hk, rfl, HR⟩ := hrel
      by_cases hlt : k < n
      · have hkx : k < xs.length := by rw [← HN.out]; exact hlt
        obtain ⟨x, hx⟩ : ∃ x, x = xs[k] := ⟨_, rfl⟩
        have hxl : x.length = 32 := H32.out x (by rw [hx]; exact List.getElem_mem hkx)
        have hb : bytesS ((xs.drop k).flatten ++ tail, 0) 32 = (((xs.drop (k + 1)).flatten ++ tail, 0), x) := by
          rw [List.drop_eq_getElem_cons hkx, ← hx, List.flatten_cons, List.append_assoc]
          have := bytesS_app x ((xs.drop (k + 1)).flatten ++ tail)
          rw [hxl] at this
          exact this
        have HID := Lib.hid (idB_any wr g _ HR.out.2.1 (Mem.lt HR.out.2.1))
        rw [hb] at HID
        simp only [nameOf_of x hxl] at HID
        have HSET := Lib.hid (show (idsTo xs k).take (k * 32) ++ (x.map byteV ++ (idsTo xs k).drop (k * 32 + (x.map byteV).length)) = idsTo xs (k + 1) by rw [hx]; exact idsTo_set H32.out k hkx)
        have HLEN := Lib.hid (show k * 32 + (x.map byteV).length ≤ (idsTo xs k).length by
          rw [length_idsTo H32.out k (by omega), List.length_map, hxl]
          have := Nat.mul_le_mul_right 32 hkx
          omega)
        have SZ := Lib.hid (sz_id x hxl)
        have ONE := Lib.hid (oneBytes x)
        have hdk : decide (k < n) = true := by simpa using hlt
        clear hb hx hxl hkx
        go_wp2_with fail
        refine HID.out.mono ?_
        rintro e w3 ⟨rfl, hm3, hg3⟩
        have HG3 := Lib.hid (show Mem w3 G Ti (idsTo xs k) from HR.out.1.grown hg3 (fun e => by injection e with e; omega))
        have HM3 := Lib.hid hm3
        have HGR3 := Lib.hid (grown_trans HR.out.2.2 hg3)
        clear HID hm3 hg3 HR
        go_wp2_with (first
          | (refine wp_store_rng HG3.out (x.map byteV) Ti (.tmp 34) (.tmp 33) rfl rfl rfl rfl SZ.out HLEN.out ONE.out ?_
             intro W4 hm4 hg4
             rw [HSET.out] at hm4
             have HR4 := Lib.hid (show Mem W4 G Ti (idsTo xs (k + 1)) ∧ BM W4 g ((xs.drop (k + 1)).flatten ++ tail, 0) ∧ w.grownBy W4 (some g) from ⟨hm4, HM3.out.grown hg4 (by omega), ⟨hg4.os.trans HGR3.out.os, hg4.tape.trans HGR3.out.tape, hg4.output.trans HGR3.out.output, Nat.le_trans HGR3.out.size hg4.size, fun q hq hne => (hg4.block q (Nat.lt_of_lt_of_le hq HGR3.out.size) (fun e => by injection e with e; omega)).trans (HGR3.out.block q hq hne)⟩⟩)
             clear hm4 hg4)
          | fail)
        go_roundw
        case rel => exact ⟨k + 1, by omega, by go_num, HR4⟩
        case measure => simp [intOf]; omega
      · have ek : k = n := by omega
        subst ek
        go_wp2_with fail
        go_ret
        obtain ⟨r1, r2, r3⟩ := HR.out
        rw [HN.out, idsTo_all] at r1
        rw [HN.out, List.drop_length, List.flatten_nil, List.nil_append] at r2
        refine ⟨_, rfl, ⟨H32.out, length_idCells H32.out, .inr ⟨G, k, (idCells xs).toArray, ?_, Nat.zero_le _, r1, ?_, by simp only [maxLen]; omega, ?_, ?_⟩⟩, r2, r3⟩
        · rw [← HN.out]; rfl
        · rw [← HN.out]; exact Nat.le_refl _
        · rw [HN.out]; simpa using length_idCells H32.out
        · rw [← length_idCells H32.out]; simp
end Go.Proofs.Ytclggeicpdkkdaa

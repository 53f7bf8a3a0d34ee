/-
  The document's disk: Read.
-/
import Derived.Test.YtjmmbafpiahhiaaSRow
import Derived.Test.YtjmmbafpiahhiaaSRef1
namespace Go.Proofs.Ytjmmbafpiahhiaa
open Go.RowKit Go.Maps Crv
theorem sstr_plus (a b : List UInt8) : str a ++ str b = str (a ++ b) := by
  show (⟨a.toArray⟩ : ByteArray) ++ ⟨b.toArray⟩ = ⟨(a ++ b).toArray⟩
  rw [ByteArray.mk_append_mk]
section
variable (a1 a2 a3 : Option Addr) (c1 c2 c3 sz : Nat) (f : Int)
theorem oneRd : ∀ v ∈ rdC a1 a2 a3 c1 c2 c3 sz f, v.oneCell' = true := by
  intro v hv
  simp only [rdC, List.mem_cons, List.not_mem_nil, or_false] at hv
  rcases hv with rfl | rfl | rfl | rfl <;> rfl
abbrev zRd : List Value := [.slice none 0 0, .slice none 0 0, .slice none 0 0, .int .i64 0]
/-- The two boxes of a function: its disk, its result. -/
structure Bx (w0 W : World) (d r : List Value) : Prop where
  d : Mem W w0.heap.size TRd d
  r : Mem W (w0.heap.size + 1) TRd r
  b : Below w0.heap.size w0 W
theorem Bx.new (w : World) (d r : List Value) : Bx w ((w.alloc (.cells d.toArray TRd)).alloc (.cells r.toArray TRd)) d r :=
  ⟨(Mem.new w TRd d).alloc _, Mem.newAt _ TRd r (by simp), belowThen (belowSelf w _) (belowSelf _ _)⟩
theorem Bx.below {w0 W W' : World} {d r : List Value} (h : Bx w0 W d r) (hb : Below W.heap.size W W') : Bx w0 W' d r :=
  ⟨h.d.below hb h.d.lt, h.r.below hb h.r.lt, belowThen h.b hb⟩
theorem Bx.setR {w0 W W' : World} {d r r' : List Value} (h : Bx w0 W d r) (hm : Mem W' (w0.heap.size + 1) TRd r') (hb : Below w0.heap.size w0 W') (hk : ∀ k, k ≠ w0.heap.size + 1 → W'.heap[k]? = W.heap[k]?) : Bx w0 W' d r' :=
  ⟨(hk _ (by omega)).trans h.d, hm, hb⟩
theorem Bx.setD {w0 W W' : World} {d r d' : List Value} (h : Bx w0 W d r) (hm : Mem W' w0.heap.size TRd d') (hb : Below w0.heap.size w0 W') (hk : ∀ k, k ≠ w0.heap.size → W'.heap[k]? = W.heap[k]?) : Bx w0 W' d' r :=
  ⟨hm, (hk _ (by omega)).trans h.r, hb⟩
set_option maxRecDepth 100000 in
set_option maxHeartbeats 400000 in
theorem rread_out (at_ n : Int) (w : World) (ha : at_ ≤ 9223372036854775807) (hs : sz ≤ 65536) (hh : hasS sz at_ n = false) :
    Calls Try.prog 17 #[.agg (rdC a1 a2 a3 c1 c2 c3 sz f).toArray, .int .i64 at_, .int .i64 n] w fun e w' => e = .returned (.tuple #[.agg (rdC a1 a2 a3 c1 c2 c3 sz f).toArray, .string (str []), .int .i64 10]) ∧ Below w.heap.size w w' := by
  have HI := Lib.hid (fun W => rin_any a1 a2 a3 c1 c2 c3 f at_ n sz W ha hs)
  rw [hh] at HI
  have HX0 := Lib.hid (Bx.new w (rdC a1 a2 a3 c1 c2 c3 sz f) zRd)
  clear hh ha hs
  go_enter Try.func17, Try.ntmps17
  go_wp2_with fail
  refine (HI.out _).mono ?_
  rintro e w1 ⟨rfl, hb1⟩
  have HX1 := Lib.hid (HX0.out.below hb1)
  clear hb1
  go_wp2_with (first
    | (refine wp_load_mem HX1.out.d TRd (.tmp 3) _ rfl rfl rfl Try.underlying29 rfl szRd ?_)
    | (refine wp_store_gen (B := w.heap.size) (w0 := w) HX1.out.b (Nat.le_succ _) HX1.out.r (rdC a1 a2 a3 c1 c2 c3 sz f) TRd (.tmp 6) (.tmp 17) rfl rfl rfl rfl szRd rfl (oneRd a1 a2 a3 c1 c2 c3 sz f) ?_
       intro W2 hm2 hb2 hz2 hk2
       have HX2 := Lib.hid (HX1.out.setR hm2 hb2 hk2)
       clear hm2 hb2 hz2 hk2)
    | fail)
  exact bodyPost_ret (sres3 HX2.out.r rfl _ _ rfl Try.underlying29 rfl szRd) rfl ⟨rfl, HX2.out.b⟩
set_option maxRecDepth 100000 in
set_option maxHeartbeats 400000 in
theorem rread_io (at_ n : Int) (w : World) (ha : at_ ≤ 9223372036854775807) (hs : sz ≤ 65536) (hh : hasS sz at_ n = true) (h0 : f = 0) :
    Calls Try.prog 17 #[.agg (rdC a1 a2 a3 c1 c2 c3 sz f).toArray, .int .i64 at_, .int .i64 n] w fun e w' => e = .returned (.tuple #[.agg (rdC a1 a2 a3 c1 c2 c3 sz (leftF f)).toArray, .string (str []), .int .i64 13]) ∧ Below w.heap.size w w' := by
  have HI := Lib.hid (fun W => rin_any a1 a2 a3 c1 c2 c3 f at_ n sz W ha hs)
  rw [hh] at HI
  have HC := Lib.hid (fun W => rcall_any a1 a2 a3 c1 c2 c3 sz f W (by omega) (by omega))
  rw [decide_eq_true h0] at HC
  have HX0 := Lib.hid (Bx.new w (rdC a1 a2 a3 c1 c2 c3 sz f) zRd)
  obtain ⟨f', hf'⟩ : ∃ x, x = leftF f := ⟨_, rfl⟩
  rw [← hf'] at HC ⊢
  clear hh ha hs h0 hf'
  go_enter Try.func17, Try.ntmps17
  go_wp2_with fail
  refine (HI.out _).mono ?_
  rintro e w1 ⟨rfl, hb1⟩
  have HX1 := Lib.hid (HX0.out.below hb1)
  clear hb1
  go_wp2_with (first
    | (refine wp_load_mem HX1.out.d TRd (.tmp 3) _ rfl rfl rfl Try.underlying29 rfl szRd ?_)
    | fail)
  refine (HC.out _).mono ?_
  rintro e w2 ⟨rfl, hb2⟩
  have HX2 := Lib.hid (HX1.out.below hb2)
  clear hb2
  go_wp2_with (first
    | (refine wp_store_gen (B := w.heap.size) (w0 := w) HX2.out.b (Nat.le_refl _) HX2.out.d (rdC a1 a2 a3 c1 c2 c3 sz f') TRd (.tmp 3) (.tmp 21) rfl rfl rfl rfl szRd rfl (oneRd a1 a2 a3 c1 c2 c3 sz f') ?_
       intro W3 hm3 hb3 hz3 hk3
       have HX3 := Lib.hid (HX2.out.setD hm3 hb3 hk3)
       clear hm3 hb3 hz3 hk3)
    | (refine wp_load_mem HX3.out.d TRd (.tmp 3) _ rfl rfl rfl Try.underlying29 rfl szRd ?_)
    | (refine wp_store_gen (B := w.heap.size) (w0 := w) HX3.out.b (Nat.le_succ _) HX3.out.r (rdC a1 a2 a3 c1 c2 c3 sz f') TRd (.tmp 6) (.tmp 24) rfl rfl rfl rfl szRd rfl (oneRd a1 a2 a3 c1 c2 c3 sz f') ?_
       intro W4 hm4 hb4 hz4 hk4
       have HX4 := Lib.hid (HX3.out.setR hm4 hb4 hk4)
       clear hm4 hb4 hz4 hk4)
    | fail)
  exact bodyPost_ret (sres3 HX4.out.r rfl _ _ rfl Try.underlying29 rfl szRd) rfl ⟨rfl, HX4.out.b⟩
set_option maxRecDepth 100000 in
set_option maxHeartbeats 400000 in
theorem rread_ok (bs : List UInt8) (i0 n : Nat) (w : World) (hN : Owns w 0 TS (.slice a2 sz c2) ((rows (nowF bs) sz).map tx)) (hs : sz ≤ 65536) (hh : i0 + n ≤ sz) (h0 : f ≠ 0) (hf : -1 ≤ f) (hf2 : f ≤ 9223372036854775807) :
    Calls Try.prog 17 #[.agg (rdC a1 a2 a3 c1 c2 c3 sz f).toArray, .int .i64 (i0 : Int), .int .i64 (n : Int)] w fun e w' => e = .returned (.tuple #[.agg (rdC a1 a2 a3 c1 c2 c3 sz (leftF f)).toArray, .string (str (rowS bs i0 n)), .int .i64 0]) ∧ Below w.heap.size w w' := by
  have HN := Lib.hid hN
  have HI := Lib.hid (fun W => rin_any a1 a2 a3 c1 c2 c3 f (i0 : Int) (n : Int) sz W (by omega) hs)
  rw [show hasS sz (i0 : Int) (n : Int) = true by simp [hasS]; omega] at HI
  have HC := Lib.hid (fun W => rcall_any a1 a2 a3 c1 c2 c3 sz f W hf hf2)
  rw [decide_eq_false h0] at HC
  have HX0 := Lib.hid (Bx.new w (rdC a1 a2 a3 c1 c2 c3 sz f) zRd)
  obtain ⟨f', hf'⟩ : ∃ x, x = leftF f := ⟨_, rfl⟩
  rw [← hf'] at HC ⊢
  clear h0 hf hf2 hf' hN
  go_enter Try.func17, Try.ntmps17
  go_wp2_with fail
  refine (HI.out _).mono ?_
  rintro e w1 ⟨rfl, hb1⟩
  have HX1 := Lib.hid (HX0.out.below hb1)
  clear hb1
  go_wp2_with (first
    | (refine wp_load_mem HX1.out.d TRd (.tmp 3) _ rfl rfl rfl Try.underlying29 rfl szRd ?_)
    | fail)
  refine (HC.out _).mono ?_
  rintro e w2 ⟨rfl, hb2⟩
  have HX2 := Lib.hid (HX1.out.below hb2)
  clear hb2
  go_wp2_with (first
    | (refine wp_store_gen (B := w.heap.size) (w0 := w) HX2.out.b (Nat.le_refl _) HX2.out.d (rdC a1 a2 a3 c1 c2 c3 sz f') TRd (.tmp 3) (.tmp 21) rfl rfl rfl rfl szRd rfl (oneRd a1 a2 a3 c1 c2 c3 sz f') ?_
       intro W3 hm3 hb3 hz3 hk3
       have HX3 := Lib.hid (HX2.out.setD hm3 hb3 hk3)
       clear hm3 hb3 hz3 hk3)
    | fail)
  have n1 : W3.cell? ⟨w.heap.size, 1, none⟩ = some (.slice a2 sz c2) := HX3.out.d.cell 1
  have hw : IntKind.i64.wrap ((i0 : Int) + (n : Int)) = (i0 : Int) + (n : Int) := IntWalk.i64_in _ (by omega)
  go_loopw [10, 11] (fun s i wr => ∃ q : Nat, i0 ≤ q ∧ q ≤ i0 + n ∧ i = .int .i64 (q : Int) ∧ s = .string (str (rowS bs i0 (q - i0))) ∧ W3 = wr) (fun _ i _ => i0 + n - (intOf i).toNat)
  case atStart => exact ⟨i0, by omega, by omega, rfl, by rw [Nat.sub_self, rowS_zero], rfl⟩
  case round =>
    obtain ⟨q, hq1, hq2, rfl, rfl, rfl⟩ := hrel
    have HR := Lib.hid (show rowS bs i0 (q + 1 - i0) = rowS bs i0 (q - i0) ++ rowS bs q 1 by
      rw [show q + 1 - i0 = (q - i0) + 1 by omega, rowS_succ, show i0 + (q - i0) = q by omega])
    have HE := Lib.hid (show q = i0 + n → rowS bs i0 n = rowS bs i0 (q - i0) from fun h => by rw [show q - i0 = n by omega])
    have hSl : (rowS bs i0 (q - i0)).length ≤ 64 * (q - i0) := by unfold rowS; rw [List.length_take]; omega
    obtain ⟨S, hS⟩ : ∃ S, S = rowS bs i0 (q - i0) := ⟨_, rfl⟩
    rw [← hS] at HR HE hSl
    rw [← hS]
    clear hS
    by_cases hlt : q < i0 + n
    · obtain ⟨g, rfl, hc, -, -⟩ := own_cell (HN.out.below HX3.out.b) (show q < sz by omega)
      have hc' : W3.cell? ⟨g, q, none⟩ = some (tx (rowS bs q 1)) := hc
      have hTl : (rowS bs q 1).length ≤ 64 := by unfold rowS; rw [List.length_take]; omega
      obtain ⟨T, hT⟩ : ∃ T, T = rowS bs q 1 := ⟨_, rfl⟩
      rw [← hT] at HR hc' hTl
      have hST : S.length ≤ 4194304 := by omega
      have hd : decide ((q : Int) < (i0 : Int) + (n : Int)) = true := by simp; omega
      have hds : decide (q < sz) = true := by simp; omega
      clear hc hT
      go_wp2_with fail
      go_roundw
      case rel => exact ⟨q + 1, by omega, by omega, by go_num, by rw [HR.out, ← sstr_plus], by first | trivial | rfl⟩
      case measure => simp [intOf]; omega
    · have hd : decide ((q : Int) < (i0 : Int) + (n : Int)) = false := by simp; omega
      have HE' := Lib.hid (HE.out (by omega))
      go_wp2_with (first
        | (refine wp_load_mem HX3.out.d TRd (.tmp 3) _ rfl rfl rfl Try.underlying29 rfl szRd ?_)
        | (refine wp_store_gen (B := w.heap.size) (w0 := w) HX3.out.b (Nat.le_succ _) HX3.out.r (rdC a1 a2 a3 c1 c2 c3 sz f') TRd (.tmp 6) (.tmp 40) rfl rfl rfl rfl szRd rfl (oneRd a1 a2 a3 c1 c2 c3 sz f') ?_
           intro W4 hm4 hb4 hz4 hk4
           have HX4 := Lib.hid (HX3.out.setR hm4 hb4 hk4)
           clear hm4 hb4 hz4 hk4)
        | fail)
      exact bodyPost_ret (sres3 HX4.out.r rfl _ _ rfl Try.underlying29 rfl szRd) rfl ⟨by rw [HE'.out]; rfl, HX4.out.b⟩
end
end Go.Proofs.Ytjmmbafpiahhiaa

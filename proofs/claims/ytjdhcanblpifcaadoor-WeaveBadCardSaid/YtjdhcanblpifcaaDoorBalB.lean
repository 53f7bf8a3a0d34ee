/-
  Several texts in one: their sentences stand at their heads.
-/
import Derived.Test.YtjdhcanblpifcaaDoorBase
import Derived.Laws.ResultCell
import Derived.Test.YtjdhcanblpifcaaDoorBalA
/-
  The laws' Name; names in memory.
-/
namespace Go.Proofs.YtjdhcanblpifcaaDoor
open Go.RowKit Crv

abbrev zs32 : Array Value := #[Value.int IntKind.u8 0, Value.int IntKind.u8 0, Value.int IntKind.u8 0, Value.int IntKind.u8 0, Value.int IntKind.u8 0, Value.int IntKind.u8 0, Value.int IntKind.u8 0, Value.int IntKind.u8 0, Value.int IntKind.u8 0, Value.int IntKind.u8 0, Value.int IntKind.u8 0, Value.int IntKind.u8 0, Value.int IntKind.u8 0, Value.int IntKind.u8 0, Value.int IntKind.u8 0, Value.int IntKind.u8 0, Value.int IntKind.u8 0, Value.int IntKind.u8 0, Value.int IntKind.u8 0, Value.int IntKind.u8 0, Value.int IntKind.u8 0, Value.int IntKind.u8 0, Value.int IntKind.u8 0, Value.int IntKind.u8 0, Value.int IntKind.u8 0, Value.int IntKind.u8 0, Value.int IntKind.u8 0, Value.int IntKind.u8 0, Value.int IntKind.u8 0, Value.int IntKind.u8 0, Value.int IntKind.u8 0, Value.int IntKind.u8 0]
theorem zs32_eq : zs32 = (List.replicate 32 (byteV 0)).toArray := rfl
/-- The bytes of a text as a name: cut to 32, zeros behind. -/
def nameOf (l : List UInt8) : List UInt8 := l.take 32 ++ List.replicate (32 - l.length) 0
theorem length_nameOf (l : List UInt8) : (nameOf l).length = 32 := by
  unfold nameOf
  rw [List.length_append, List.length_take, List.length_replicate]
  omega
theorem nameOf_of (l : List UInt8) (h : l.length = 32) : nameOf l = l := by
  unfold nameOf
  rw [List.take_of_length_le (by omega), h]
  simp

/-- copy(b[:], s), what follows said of any world that is as the copy leaves it. -/
theorem wp_copy_gen {P : Program} {ops : Array Oper} {rest : List Oper} {o : Oper} {a : Act} {w0 w : World} {Q : Exit → Act → World → Prop} {g B : Nat} {t : TypeId} {cs : List Value} (hB : Below B w0 w) (hBg : B ≤ g) (hm : Mem w g t cs) (new : List Value) (d x : Operand) (dT sT elem : TypeId) (dLen dCap : Nat) (l : List UInt8)
    (hgd : o.guard = none) (ho : o.op = .call { callee := .builtin .copy, args := #[d, x], argTypes := #[dT, sT] }) (hd : a.eval d = .slice (some ⟨g, 0, none⟩) dLen dCap) (hx : a.eval x = .string (str l))
    (hu : P.underlying dT = some (.slice elem)) (hs : (P.info? elem).map (·.size) = some 1) (hfit : dLen ≤ cs.length)
    (hnew : cs.take 0 ++ ((l.take (min l.length dLen)).map byteV ++ cs.drop (0 + min l.length dLen)) = new)
    (h : ∀ W, Mem W g t new → Below B w0 W → (∀ k, k ≠ g → W.heap[k]? = w.heap[k]?) → wpList P ops Q rest (a.put o.dst (.int .i64 ((min l.length dLen : Nat) : Int))) W) : wpList P ops Q (o :: rest) a w := by
  subst hnew
  exact wp_copy_str hm d x dT sT elem 0 dLen dCap l hgd ho hd hx hu hs (by omega) (h _ (hm.setRow _) (below_row hB hBg _) (fun k hk => heap_setRow_other w g k _ hk))
theorem name_cells (l : List UInt8) : (List.replicate 32 (byteV 0)).take 0 ++ ((l.take (min l.length 32)).map byteV ++ (List.replicate 32 (byteV 0)).drop (0 + min l.length 32)) = (nameOf l).map byteV := by
  unfold nameOf
  rw [List.map_append, List.map_replicate, List.take_zero, List.nil_append, Nat.zero_add, List.drop_replicate]
  by_cases h : l.length ≤ 32
  · rw [Nat.min_eq_left h, List.take_length, List.take_of_length_le h]
  · rw [Nat.min_eq_right (by omega), show 32 - l.length = 0 from by omega]
theorem sz_id (x : List UInt8) (h : x.length = 32) : (Tryd.prog.info? 41).map (·.size) = some (x.map byteV).length := by rw [List.length_map, h]; kernel_rfl

/-- A result that is an array in memory, and one in a slot. -/
theorem results_mem2 {P : Program} {fn : Func} {p u : Tmp} {ty : TypeId} {w : World} {g : Nat} {t : TypeId} {cs : List Value} (hm : Mem w g t cs) (h : fn.results = #[.cell p ty, .tmp u]) (tmps : Array Value) (d : TypeDesc)
    (hp : tmps.getD p undef = .pointer (some ⟨g, 0, none⟩)) (hu : P.underlying ty = some d) (hd : (match d with | .struct _ | .array _ _ => true | _ => false) = true) (hi : (P.info? ty).map (·.size) = some cs.length) :
    (results fn tmps).run P w = .ok (.tuple #[.agg cs.toArray, tmps.getD u undef]) w := by
  rw [results_cell_tmp h tmps P w, hp]
  simp [asAddr, run_loadVar_row w g t ty cs.toArray (0, 0) d hm hu hd (by simpa using hi)]
end Go.Proofs.YtjdhcanblpifcaaDoor

/-
  Package bale: the decoder: ID; IDs where nothing is left; the laws' names and same of no names.
-/
namespace Go.Proofs.YtjdhcanblpifcaaDoor
open Go.RowKit Crv

abbrev Ti : TypeId := 41
/-- copy(b[:], s) as one step of a region that draws its order. -/
theorem step_copy_gen {P : Program} {ops : Array Oper} {o : Oper} {a : Act} {w : World} {Q : Exit → Act → World → Prop} {K : Act → World → Prop} {E : Prop} {g : Nat} {t : TypeId} {cs : List Value} (hm : Mem w g t cs) (new : List Value) (d x : Operand) (dT sT elem : TypeId) (dLen dCap : Nat) (l : List UInt8)
    (hgd : o.guard = none) (ho : o.op = .call { callee := .builtin .copy, args := #[d, x], argTypes := #[dT, sT] }) (hd : a.eval d = .slice (some ⟨g, 0, none⟩) dLen dCap) (hx : a.eval x = .string (str l))
    (hu : P.underlying dT = some (.slice elem)) (hs : (P.info? elem).map (·.size) = some 1) (hfit : dLen ≤ cs.length)
    (hnew : cs.take 0 ++ ((l.take (min l.length dLen)).map byteV ++ cs.drop (0 + min l.length dLen)) = new)
    (h : ∀ W, Mem W g t new → w.grownBy W (some g) → K (a.put o.dst (.int .i64 ((min l.length dLen : Nat) : Int))) W) : if Region.wanted o (yielded ops a.tmps) = true then Oper.wp P o a w K Q else E := by
  have hw : Region.wanted o (yielded ops a.tmps) = true := by simp [Region.wanted, hgd]
  rw [if_pos hw]
  subst hnew
  have hr := run_copy_str (P := P) hm dT sT o.type elem 0 dLen dCap l hu hs (by omega)
  unfold Oper.wp execOp
  simp only [ho, resolve, invoke, builtin, Sem.run_bind, Sem.run_pure, Result.andThen_ok, List.map_toArray, List.map_cons, List.map_nil, hd, hx, hr]
  exact h _ (hm.setRow _) (grown_row (grownRefl _ _) _)

set_option maxRecDepth 100000 in
set_option maxHeartbeats 1000000 in
theorem idB_any (w : World) (g : Nat) (s : BSt) (h : BM w g s) (hg0 : g < w.heap.size) :
    Calls Tryd.prog 32 #[ptr g] w fun e w' => e = .returned (.agg ((nameOf (bytesS s 32).2).map byteV).toArray) ∧ BM w' g (bytesS s 32).1 ∧ w.grownBy w' (some g) := by
  obtain ⟨W0, hW0⟩ : ∃ W0, W0 = (w.alloc (.cells zs32 41)).alloc (.cells zs32 41) := ⟨_, rfl⟩
  have HBM := Lib.hid (show BM W0.drew g s by rw [hW0]; exact Mem.drew (Mem.alloc (Mem.alloc h _) _))
  have HB := Lib.hid (bytesB_any W0.drew g s 32 HBM.out)
  obtain ⟨s1, d, e1⟩ : ∃ s1 d, bytesS s 32 = (s1, d) := ⟨_, _, rfl⟩
  rw [e1] at HB ⊢
  clear e1 h
  have NC := Lib.hid (name_cells d)
  obtain ⟨x, hx⟩ : ∃ x, x = nameOf d := ⟨_, rfl⟩
  have hxl : x.length = 32 := by rw [hx]; exact length_nameOf d
  simp only
  rw [← hx] at NC ⊢
  clear hx
  have SZ := Lib.hid (sz_id x hxl)
  have HZ := Lib.hid (show (List.replicate 32 (byteV 0)).length = (x.map byteV).length by rw [List.length_map, hxl]; rfl)
  have ONE := Lib.hid (oneBytes x)
  clear hxl
  have hsz : W0.heap.size = w.heap.size + 2 := by rw [hW0]; simp
  have HM0 := Lib.hid (show Mem W0 w.heap.size 41 (List.replicate 32 (byteV 0)) by rw [hW0, zs32_eq]; exact (Mem.newAt w 41 (List.replicate 32 (byteV 0)) rfl).alloc _)
  have HM1 := Lib.hid (show Mem W0 (w.heap.size + 1) 41 (List.replicate 32 (byteV 0)) by rw [hW0, zs32_eq]; exact Mem.newAt _ 41 (List.replicate 32 (byteV 0)) (by simp))
  have hgw0 : w.grownBy W0.drew (some g) := grown_drew (grownOfBelow (by rw [hW0]; exact (belowSelf w _).alloc (by simp) _))
  have HSZ := Lib.hid hsz
  clear hsz
  go_enter Tryd.func32, Tryd.ntmps32
  go_wp2_with fail
  rw [← hW0]
  clear hW0
  go_region_held3 (fun _ => True) (trivial)
    (first
      | (go_at_call 59; refine HB.out.mono ?_; rintro e w1 ⟨rfl, hm1, hg1⟩; have HBM1 := Lib.hid hm1; have HM11 := Lib.hid (show Mem w1 (w.heap.size + 1) 41 (List.replicate 32 (byteV 0)) from HM1.out.drew.grown hg1 (fun e => by injection e with e; omega)); have HM10 := Lib.hid (show Mem w1 w.heap.size 41 (List.replicate 32 (byteV 0)) from HM0.out.drew.grown hg1 (fun e => by injection e with e; omega)); clear hm1)
      | (refine step_copy_gen HM11.out (x.map byteV) (.tmp 4) (.tmp 6) 59 9 5 32 32 d rfl rfl rfl rfl Tryd.underlying59 (by kernel_rfl) (by simp) NC.out ?_; intro W2 hm2 hg2; have HX2 := Lib.hid hm2; clear hm2))
  rename_i K hK hHe
  refine hK _ _ ?_
  have HY2 := Lib.hid (show Mem W2 w.heap.size 41 (List.replicate 32 (byteV 0)) from HM10.out.grown hg2 (fun e => by injection e with e; omega))
  have HB2 := Lib.hid (show BM W2 g s1 from HBM1.out.grown hg2 (by omega))
  have HG := Lib.hid (show w.grownBy W2 (some g) from by
    refine ⟨hg2.os.trans (hg1.os.trans hgw0.os), hg2.tape.trans (hg1.tape.trans hgw0.tape), hg2.output.trans (hg1.output.trans hgw0.output), Nat.le_trans hgw0.size (Nat.le_trans hg1.size hg2.size), fun k hk hne => ?_⟩
    exact (hg2.block k (Nat.lt_of_lt_of_le (Nat.lt_of_lt_of_le hk hgw0.size) hg1.size) (fun e => by injection e with e; omega)).trans ((hg1.block k (Nat.lt_of_lt_of_le hk hgw0.size) hne).trans (hgw0.block k hk hne)))
  go_wp2_with (first
    | (refine wp_load_mem HX2.out 41 (.tmp 3) (.array 32 5) rfl rfl rfl Tryd.underlying41 rfl SZ.out ?_)
    | (refine wp_store_mem HY2.out (x.map byteV) 41 (.tmp 2) (.tmp 8) rfl rfl rfl rfl SZ.out HZ.out ONE.out ?_)
    | fail)
  refine bodyPost_ret (v := .agg (x.map byteV).toArray) (results_mem (HY2.out.setRow _) rfl _ (.array 32 5) rfl Tryd.underlying41 rfl SZ.out) rfl ⟨rfl, Mem.setRow_other HB2.out _ (by omega), ?_⟩
  have hq := HG.out
  exact ⟨hq.os, hq.tape, hq.output, by simpa [World.setRow] using hq.size, fun k hk hne => (heap_setRow_other W2 w.heap.size k _ (by omega)).trans (hq.block k hk hne)⟩

/-- A decoder behind an error, with nothing left. -/
abbrev badS : BSt := (([] : List UInt8), (2 : Int))
theorem bytesS_bad (n : Int) : bytesS badS n = (badS, []) := by
  unfold bytesS
  split
  · simp [failS]
  · simp
theorem numS_bad : numS badS = (badS, 0) := by decide +kernel
theorem intS_bad (top : Int) : intS badS top = (badS, 0) := by unfold intS; rw [numS_bad]; simp
theorem strS_bad (top : Int) : strS badS top = (badS, []) := by unfold strS; rw [intS_bad]; exact bytesS_bad 0
theorem nameOf_nil : nameOf [] = List.replicate 32 0 := rfl

end Go.Proofs.YtjdhcanblpifcaaDoor

/-
  The reference's Num and Str of layer 4.
-/
namespace Go.Proofs.YtjdhcanblpifcaaDoor
open Go.RowKit Crv
attribute [local go_sem] ByteArray.mk_append_mk

theorem be_front : ∀ (k n : Nat), be (k + 1) n = UInt8.ofNat (n / 256 ^ k) :: be k n
  | 0, n => by simp [be]
  | k + 1, n => by
    have h := be_front k (n / 256)
    rw [be, h, Nat.div_div_eq_div_mul, List.cons_append]
    rw [show 256 * 256 ^ k = 256 ^ (k + 1) from by rw [Nat.pow_succ, Nat.mul_comm]]
    rfl
theorem lt_numLen (n i : Nat) : i < numLen n ↔ 0 < n / 256 ^ i := by
  have hp : 0 < 256 ^ i := Nat.pow_pos (by omega)
  rw [Nat.div_pos_iff, pow256]
  unfold numLen
  constructor
  · intro h
    refine ⟨Nat.pow_pos (by omega), ?_⟩
    by_cases h0 : n = 0
    · subst h0
      simp [len64] at h
    · refine Nat.le_trans ?_ (len64_ge n h0)
      exact Nat.pow_le_pow_right (by omega) (by omega)
  · rintro ⟨_, h⟩
    have := (Nat.pow_lt_pow_iff_right (by omega : 1 < 2)).1 (Nat.lt_of_le_of_lt h (len64_lt n))
    omega

theorem byte_string (x : Int) (b : UInt8) (hx : x = (b.toNat : Int)) (W : World) :
    (convert 59 9 (.slice (some ⟨W.heap.size, 0, none⟩) 1 1)).run Tryd.prog (W.alloc (.cells #[.int .u8 x] 5)) = .ok (.string (str [b])) (W.alloc (.cells #[.int .u8 x] 5)) := by
  subst hx
  exact (Owns.of_mem (Mem.new W 5 ([b].map byteV)) (Nat.zero_le _) 1 1 (Nat.le_refl _) rfl (by simp [maxLen]) rfl).string Tryd.underlying59 Tryd.underlying5 Tryd.underlying9

set_option maxRecDepth 100000 in
set_option maxHeartbeats 1000000 in
theorem refNum_any (n : Nat) (w : World) (hn : n < 18446744073709551616) :
    Calls Tryd.prog 81 #[.int .u64 (n : Int)] w fun e w' => e = .returned (.string (str (numOf n))) ∧ Below w.heap.size w w' := by
  have hnl := numLen_le hn
  go_enter Tryd.func81, Tryd.ntmps81
  go_wp2_with fail
  go_loopw [0, 3, 4] (fun v s i wr => ∃ (k q : Nat), k ≤ numLen n ∧ i = .int .i64 k ∧ Hid (q = n / 256 ^ k) ∧ v = .int .u64 (q : Int) ∧ s = .string (str (be k n)) ∧ Below w.heap.size w wr) (fun _ _ i _ => 8 - (intOf i).toNat)
  case atStart => exact ⟨0, n, by omega, rfl, Lib.hid (by simp), rfl, rfl, Below.refl _ _⟩
  case round =>
    obtain ⟨k, q, hk, rfl, HQ, rfl, rfl, hb⟩ := hrel
    have hbl := length_be k n
    by_cases hlt : k < numLen n
    · have hq0 : 0 < q := by rw [HQ.out]; exact (lt_numLen n k).1 hlt
      have hql : q < 18446744073709551616 := by rw [HQ.out]; exact Nat.lt_of_le_of_lt (Nat.div_le_self _ _) hn
      have HQ2 := Lib.hid (show q / 256 = n / 256 ^ (k + 1) by rw [HQ.out, Nat.div_div_eq_div_mul, ← Nat.pow_succ])
      have HB := Lib.hid (show be (k + 1) n = UInt8.ofNat q :: be k n by rw [HQ.out]; exact be_front k n)
      have hcv := fun W => byte_string ((q : Int) % 256) (UInt8.ofNat q) (by rw [UInt8.toNat_ofNat']; omega) W
      obtain ⟨l, hl⟩ : ∃ l, l = be k n := ⟨_, rfl⟩
      rw [← hl] at HB hbl ⊢
      have hbl8 : l.length ≤ 8 := by omega
      have hk8 : (k : Int) < 8 := by omega
      have hd : decide ((k : Int) < 8) = true := by simpa using hk8
      have hd2 : decide (0 < q) = true := by simpa using hq0
      clear hl hbl
      go_wp2_with fail
      go_roundw
      case rel => exact ⟨k + 1, q / 256, by omega, by go_num, HQ2, by go_num, by rw [HB.out], hb.alloc hb.size _⟩
      case measure => simp [intOf]; omega
    · have ek : k = numLen n := by omega
      have hq0 : q = 0 := by
        rw [HQ.out]
        exact Nat.eq_zero_of_not_pos (mt (lt_numLen n k).2 hlt)
      subst hq0
      have hcv := fun W => byte_string ((numLen n : Nat) : Int) (UInt8.ofNat (numLen n)) (by rw [UInt8.toNat_ofNat']; omega) W
      rw [← ek] at hcv hnl
      have HNUM := Lib.hid (show numOf n = UInt8.ofNat k :: be k n by rw [ek]; rfl)
      obtain ⟨l, hl⟩ : ∃ l, l = be k n := ⟨_, rfl⟩
      rw [← hl] at HNUM hbl ⊢
      have HBL := Lib.hid hbl
      clear hl hbl ek hlt hk HQ
      by_cases hk8 : k < 8
      · have hd : decide ((k : Int) < 8) = true := by simp; omega
        have hll : (l.length : Int) = (k : Int) := by rw [HBL.out]
        go_wp2_with fail
        go_ret
        exact ⟨by rw [HNUM.out]; rfl, hb.alloc hb.size _⟩
      · have hd : decide ((k : Int) < 8) = false := by simp; omega
        have hll : (l.length : Int) = (k : Int) := by rw [HBL.out]
        go_wp2_with fail
        go_ret
        exact ⟨by rw [HNUM.out]; rfl, hb.alloc hb.size _⟩

/-- The encoding of names. -/
def idsOf (xs : List (List UInt8)) : List UInt8 := numOf xs.length ++ xs.flatten

theorem flatten_len32 : ∀ (xs : List (List UInt8)), (∀ x ∈ xs, x.length = 32) → xs.flatten.length = 32 * xs.length
  | [], _ => by simp
  | a :: r, h => by
    have h1 := h a (by simp)
    have h2 := flatten_len32 r (fun l hl => h l (by simp [hl]))
    simp only [List.flatten_cons, List.length_append, List.length_cons]
    omega

end Go.Proofs.YtjdhcanblpifcaaDoor

/-
  Slices of names that the call makes; package bale: IDs.
-/
namespace Go.Proofs.YtjdhcanblpifcaaDoor
open Go.RowKit Crv

def idCells (xs : List (List UInt8)) : List Value := xs.flatten.map byteV
/-- A slice value that owns a row of names. -/
def Ids (w : World) (base : Nat) (v : Value) (xs : List (List UInt8)) : Prop := (∀ x ∈ xs, x.length = 32) ∧ w.ownsRow base Ti 32 v xs.length (idCells xs)
theorem length_idCells {xs : List (List UInt8)} (h : ∀ x ∈ xs, x.length = 32) : (idCells xs).length = xs.length * 32 := by
  rw [idCells, List.length_map, flatten_len32 xs h]
  omega
theorem Ids.lt {w : World} {base : Nat} {v : Value} {xs : List (List UInt8)} (h : Ids w base v xs) : ∀ g, v.ownBlock = some g → g < w.heap.size ∧ base ≤ g := by
  intro g hg
  rcases h.2.2 with ⟨rfl, _⟩ | ⟨g', cap, cur, rfl, h1, h2, h3⟩
  · cases hg
  · have : g' = g := by simpa [Value.ownBlock] using hg
    subst this
    exact ⟨(Array.getElem?_eq_some_iff.1 h2).1, h1⟩
theorem Ids.of_block {w w' : World} {base : Nat} {v : Value} {xs : List (List UInt8)} (h : Ids w base v xs) (hb : ∀ g, v.ownBlock = some g → w'.heap[g]? = w.heap[g]?) : Ids w' base v xs := by
  refine ⟨h.1, h.2.1, ?_⟩
  rcases h.2.2 with h0 | ⟨g, cap, cur, rfl, h1, h2, h3⟩
  · exact .inl h0
  · exact .inr ⟨g, cap, cur, rfl, h1, (hb g rfl).trans h2, h3⟩
theorem Ids.below {w w' : World} {base : Nat} {v : Value} {xs : List (List UInt8)} (h : Ids w base v xs) (hb : Below w.heap.size w w') : Ids w' base v xs := h.of_block fun g hg => hb.block g (h.lt g hg).1
theorem Ids.new {w : World} {base : Nat} (hb : base ≤ w.heap.size) : Ids (w.alloc (.cells #[] Ti)) base (.slice (some ⟨w.heap.size, 0, none⟩) 0 0) [] :=
  ⟨by simp, rfl, .inr ⟨w.heap.size, 0, #[], rfl, hb, Mem.new w Ti [], Nat.le_refl _, by simp [maxLen], rfl, rfl⟩⟩
theorem idCells_get {xs : List (List UInt8)} (h : ∀ x ∈ xs, x.length = 32) : ∀ (i : Nat) (hi : i < xs.length) (j : Nat), j < 32 → (idCells xs)[i * 32 + j]? = (xs[i].map byteV)[j]? := by
  induction xs with
  | nil => intro i hi; simp at hi
  | cons x r ih =>
    intro i hi j hj
    have hx := h x (by simp)
    have e : idCells (x :: r) = x.map byteV ++ idCells r := by simp [idCells]
    rw [e]
    cases i with
    | zero =>
      rw [List.getElem?_append_left (by simp [hx]; omega)]
      simp
    | succ i =>
      rw [List.getElem?_append_right (by simp [hx]; omega), List.length_map, hx, show (i + 1) * 32 + j - 32 = i * 32 + j from by omega]
      exact ih (fun y hy => h y (by simp [hy])) i (by simpa using hi) j hj
theorem Ids.form {w : World} {base : Nat} {v : Value} {xs : List (List UInt8)} (h : Ids w base v xs) : ∃ a cap, v = .slice a xs.length cap ∧
    (∀ i (hi : i < xs.length), ∃ g, a = some ⟨g, 0, none⟩ ∧ base ≤ g ∧ g < w.heap.size ∧ w.rangeAt g (i * 32) (xs[i].map byteV)) := by
  have hall := h.1
  rcases h.2.2 with ⟨rfl, h0⟩ | ⟨g, cap, cur, rfl, h1, h2, h3, h4, h5, h6⟩
  · exact ⟨none, 0, by rw [h0], fun i hi => by omega⟩
  · refine ⟨_, _, rfl, fun i hi => ⟨g, rfl, h1, (Array.getElem?_eq_some_iff.1 h2).1, fun j u hu => ?_⟩⟩
    have hx := hall xs[i] (List.getElem_mem hi)
    have hj : j < 32 := by
      have := (List.getElem?_eq_some_iff.1 hu).1
      simpa [hx] using this
    have hlen : i * 32 + j < xs.length * 32 := by
      have : (i + 1) * 32 ≤ xs.length * 32 := Nat.mul_le_mul_right _ hi
      omega
    have e := idCells_get hall i hi j hj
    rw [hu, ← h6, List.getElem?_take_of_lt hlen] at e
    simp only [World.cell?, h2]
    simpa using e

section
variable {P : Program} {ops : Array Oper} {rest : List Oper} {o : Oper} {a : Act} {w0 w : World} {Q : Exit → Act → World → Prop}
/-- A whole array out of the middle of a block. -/
theorem wp_load_rng {b off : Nat} {cs : List Value} (hc : w.rangeAt b off cs) (ty : TypeId) (x : Operand) (d : TypeDesc) (hgd : o.guard = none) (ho : o.op = .load ty x) (hx : a.eval x = .pointer (some ⟨b, off, none⟩))
    (hu : P.underlying ty = some d) (hd : d.isRow = true) (hi : (P.info? ty).map (·.size) = some cs.length) (h : wpList P ops Q rest (a.put o.dst (.agg cs.toArray)) w) : wpList P ops Q (o :: rest) a w := by
  refine wpList_plain hgd fun K hK => ?_
  have hr := run_loadAt_mid (P := P) w b off ty cs d hc hu hd hi
  unfold Oper.wp execOp
  simp only [ho, hx, hr, Sem.run_bind, Sem.run_pure, Result.andThen_ok]
  exact hK _ _ h
/-- append of m cells that lie together. -/
theorem wp_append_m {base : Nat} {e : TypeId} {v : Value} {xs : List Value} (hown : Owns w base e v xs) (B : Nat) (hB : Below B w0 w) (hBb : B ≤ base)
    (news : List Value) (m : Nat) (hm : news.length = m) (s x : Operand) (t : TypeId) (i : TypeInfo) (z : Value) (hgd : o.guard = none) (ho : o.op = .call { callee := .builtin .append, args := #[s, x], argTypes := #[t, t] })
    (ht : P.underlying t = some (.slice e)) (hi : P.info? e = some i) (hz : i.zero = some z) (hsize : i.size = 1) (hby : i.bytes ≤ 64) (hzs : z.cells.size = 1)
    (hs : a.eval s = v) {g c : Nat} (hx : a.eval x = .slice (some ⟨g, 0, none⟩) m c) (hnews : ∀ j u, news[j]? = some u → w.cell? ⟨g, j, none⟩ = some u) (h1 : ∀ u ∈ news, u.oneCell' = true)
    (hlen : xs.length + m ≤ 1099511627776) (hbase : base ≤ w.heap.size)
    (h : ∀ v' w', Owns w' base e v' (xs ++ news) → Below B w0 w' → w.heap.size ≤ w'.heap.size → Keeps w v xs.length w' → wpList P ops Q rest (a.put o.dst v') w') : wpList P ops Q (o :: rest) a w := by
  subst hm
  exact wp_append_keep hown B hB hBb news s x t i z hgd ho ht hi hz hsize hby hzs hs hx hnews h1 hlen hbase h
/-- append(l, x) of a name. -/
theorem wp_append_id {base : Nat} {v : Value} {xs : List (List UInt8)} (hown : Ids w base v xs) (B : Nat) (hB : Below B w0 w) (hBb : B ≤ base)
    (x : List UInt8) (hxl : x.length = 32) (s y : Operand) (t : TypeId) (i : TypeInfo) (z : Value) (hgd : o.guard = none) (ho : o.op = .call { callee := .builtin .append, args := #[s, y], argTypes := #[t, t] })
    (ht : P.underlying t = some (.slice Ti)) (hi : P.info? Ti = some i) (hz : i.zero = some z) (hsize : i.size = 32) (hby : i.bytes = 32) (hzs : z.cells.size = 32)
    (hs : a.eval s = v) {g c : Nat} (hx : a.eval y = .slice (some ⟨g, 0, none⟩) 1 c) (hnews : Mem w g Ti (x.map byteV))
    (hlen : xs.length ≤ 1099511627776) (hbase : base ≤ w.heap.size)
    (h : ∀ v' w', Ids w' base v' (xs ++ [x]) → Below B w0 w' → w.heap.size ≤ w'.heap.size → w.grownBy w' v.ownBlock → (v'.ownBlock = v.ownBlock ∨ v'.ownBlock = some w.heap.size) → wpList P ops Q rest (a.put o.dst v') w') : wpList P ops Q (o :: rest) a w := by
  refine wpList_append_own_at (P := P) w hgd s y t ho base Ti i z 32 32 ht hi hz hsize hby hzs (by omega) v xs.length (idCells xs) hs hown.2 ⟨g, 0, none⟩ 1 c (x.map byteV) hx (by simp [hxl]) ?_ (oneBytes x) (by simp only [maxLen]; omega) (by omega) hbase ?_
  · intro j u hu
    rw [add_plain, hnews.cell]
    exact hu
  · intro v' w' ho' hg _ hat
    have hlt := hown.lt
    refine h v' w' ⟨fun q hq => ?_, ?_⟩ (hB.trans ⟨hg.os, hg.tape, hg.output, hg.size, fun k hk => hg.block k (by omega) (fun e => by have := (hlt k e.symm).2; omega)⟩) hg.size hg hat
    · rcases List.mem_append.1 hq with h1 | h1
      · exact hown.1 q h1
      · simp at h1; subst h1; exact hxl
    · rw [List.length_append]
      have e : idCells (xs ++ [x]) = idCells xs ++ x.map byteV := by simp [idCells]
      rw [e]
      exact ho'
end

end Go.Proofs.YtjdhcanblpifcaaDoor

/-
  The memory of BalePuts' third loop: names, and their bytes as texts.
-/
namespace Go.Proofs.YtjdhcanblpifcaaDoor
open Go.RowKit Crv

abbrev Ts : TypeId := 9
/-- string(b[:]) of a name in memory. -/
theorem arr_string {w : World} {g n : Nat} {t : TypeId} {l : List UInt8} (h : Mem w g t (l.map byteV)) (hn : l.length = n) :
    (convert 59 9 (.slice (some ⟨g, 0, none⟩) n n)).run Tryd.prog w = .ok (.string (str l)) w := by
  subst hn
  have hnums : strOfNums (l.map fun b => (b.toNat : Int)) = str l := by
    simp only [strOfNums, List.map_map, str]
    congr 2
    have : ((fun n : Int => UInt8.ofNat n.toNat) ∘ fun b : UInt8 => (b.toNat : Int)) = id := by
      funext b; simp
    rw [this, List.map_id]
  have := run_convert_bytes_arg (P := Tryd.prog) w 59 5 Tryd.underlying59 Tryd.underlying5 g 0 l.length l.length (l.map fun b => (b.toNat : Int)) (by simp) (fun i hi => by
    rw [Nat.zero_add, h.cell, List.getElem?_map, List.getElem?_eq_getElem hi, List.getD_eq_getElem?_getD, List.getElem?_map, List.getElem?_eq_getElem hi]
    rfl) 9 Tryd.underlying9
  rw [this, hnums]
theorem fold_set : ∀ (l : List Value) (k : Nat) (arr : Array Value), arr.size = k + l.length → List.foldl (fun (cs : Array Value) (x : Value × Nat) => cs.setIfInBounds x.snd x.fst) arr (l.zipIdx k) = (arr.toList.take k ++ l).toArray
  | [], k, arr, h => by
    have e : arr.toList.take k = arr.toList := List.take_of_length_le (by simpa using Nat.le_of_eq h)
    simp [e]
  | a :: l, k, arr, h => by
    have h' : arr.size = k + l.length + 1 := by simpa [Nat.add_assoc] using h
    rw [List.zipIdx_cons, List.foldl_cons, fold_set l (k + 1) (arr.setIfInBounds k a) (by simp; omega)]
    congr 1
    rw [Array.toList_setIfInBounds, List.take_succ_eq_append_getElem (by simp; omega), List.take_set_of_le (Nat.le_refl _)]
    simp
theorem grownOld {a b c : World} {N : Nat} {row : Option Nat} (h : a.grownBy b (some N)) (h' : b.grownBy c row) (hrow : ∀ g, row = some g → g = N ∨ a.heap.size ≤ g) : a.grownBy c (some N) :=
  ⟨h'.os.trans h.os, h'.tape.trans h.tape, h'.output.trans h.output, Nat.le_trans h.size h'.size, fun k hk hne => (h'.block k (Nat.lt_of_lt_of_le hk h.size) (fun e => by
    rcases hrow k e.symm with h1 | h1
    · exact hne (by rw [h1])
    · omega)).trans (h.block k hk hne)⟩
theorem Owns.grownN {w w' : World} {base N : Nat} {e : TypeId} {v : Value} {xs : List Value} (h : Owns w base e v xs) (hg : w.grownBy w' (some N)) (hN : N < base) : Owns w' base e v xs :=
  h.of_below fun g hg' => hg.block g (h.lt g hg').1 (fun e => by injection e with e; have := (h.lt g hg').2; omega)

def L3 (w3 : World) (N : Nat) (vs va : Value) (xs ys : List (List UInt8)) (w : World) : Prop :=
  Ids w w3.heap.size vs xs ∧ Owns w N Ts va (ys.map tx) ∧ w3.grownBy w (some N) ∧ (∀ g, va.ownBlock = some g → g = N ∨ w3.heap.size ≤ g) ∧ (∀ g, vs.ownBlock = some g → va.ownBlock ≠ some g)
theorem L3.below {w3 w w' : World} {N : Nat} {vs va : Value} {xs ys : List (List UInt8)} (h : L3 w3 N vs va xs ys w) (hb : Below w.heap.size w w') : L3 w3 N vs va xs ys w' :=
  ⟨h.1.below hb, h.2.1.below hb, grown_below h.2.2.1 hb, h.2.2.2⟩
theorem L3.id {w3 w w' : World} {N : Nat} {vs vs' va : Value} {xs xs' ys : List (List UInt8)} (h : L3 w3 N vs va xs ys w) (hi : Ids w' w3.heap.size vs' xs') (hg : w.grownBy w' vs.ownBlock) (hat : vs'.ownBlock = vs.ownBlock ∨ vs'.ownBlock = some w.heap.size) : L3 w3 N vs' va xs' ys w' := by
  obtain ⟨h1, h2, h3, h4, h5⟩ := h
  refine ⟨hi, h2.of_below fun g hg' => hg.block g (h2.lt g hg').1 (fun e => h5 g e.symm hg'), grownOld h3 hg (fun g e => .inr (h1.lt g e).2), h4, ?_⟩
  intro g hg1 hg2
  rcases hat with e | e
  · exact h5 g (e ▸ hg1) hg2
  · have := (h2.lt g hg2).1
    rw [e] at hg1
    injection hg1 with hg1
    omega
theorem L3.str {w3 w w' : World} {N : Nat} {vs va va' : Value} {xs ys ys' : List (List UInt8)} (h : L3 w3 N vs va xs ys w) (hi : Owns w' N Ts va' (ys'.map tx)) (hg : w.grownBy w' va.ownBlock) (hat : va'.ownBlock = va.ownBlock ∨ va'.ownBlock = some w.heap.size) : L3 w3 N vs va' xs ys' w' := by
  obtain ⟨h1, h2, h3, h4, h5⟩ := h
  refine ⟨h1.of_block fun g hg' => hg.block g (h1.lt g hg').1 (fun e => h5 g hg' e.symm), hi, grownOld h3 hg h4, ?_, ?_⟩
  · intro g hg1
    rcases hat with e | e
    · exact h4 g (e ▸ hg1)
    · rw [e] at hg1
      injection hg1 with hg1
      have := h3.size
      right; omega
  · intro g hg1 hg2
    rcases hat with e | e
    · exact h5 g hg1 (e ▸ hg2)
    · have := (h1.lt g hg1).1
      rw [e] at hg2
      injection hg2 with hg2
      omega
theorem L3.begin {w3 : World} {N : Nat} (hN : Mem w3 N Ts []) : L3 w3 N (.slice (some ⟨w3.heap.size, 0, none⟩) 0 0) (.slice (some ⟨N, 0, none⟩) 0 0) [] [] (w3.alloc (.cells #[] Ti)) :=
  ⟨Ids.new (Nat.le_refl _), Owns.of_mem (hN.alloc _) (Nat.le_refl _) 0 0 (Nat.le_refl _) rfl (by simp [maxLen]) rfl, grownOfBelow (belowSelf _ _), fun g hg => .inl (by simpa [Value.ownBlock] using hg.symm), fun g hg e => by
    have h1 : w3.heap.size = g := by simpa [Value.ownBlock] using hg
    have h2 : N = g := by simpa [Value.ownBlock] using e
    have := hN.lt
    omega⟩
end Go.Proofs.YtjdhcanblpifcaaDoor

/-
  What is encoded is decoded.
-/
namespace Go.Proofs.YtjdhcanblpifcaaDoor
open Go.RowKit Crv

theorem val_be : ∀ (k n : Nat), val (be k n) = n % 256 ^ k
  | 0, n => by simp [be, val, Nat.mod_one]
  | k + 1, n => by
    have e : 256 ^ (k + 1) = 256 * 256 ^ k := by rw [Nat.pow_succ, Nat.mul_comm]
    rw [be, val_snoc, val_be k (n / 256), UInt8.toNat_ofNat', e, Nat.mod_mul]
    omega
theorem lt_pow_numLen (n : Nat) : n < 256 ^ numLen n := by
  rw [pow256]
  refine Nat.lt_of_lt_of_le (len64_lt n) (Nat.pow_le_pow_right (by omega) ?_)
  unfold numLen
  omega
theorem numS_numOf (n : Nat) (rest : List UInt8) (hn : n < 18446744073709551616) : numS (numOf n ++ rest, 0) = ((rest, 0), n) := by
  have hk := numLen_le hn
  have e0 : bytesS (numOf n ++ rest, 0) 1 = ((be (numLen n) n ++ rest, 0), [UInt8.ofNat (numLen n)]) := by
    simp [bytesS, numOf]
    omega
  have hb : (UInt8.ofNat (numLen n)).toNat = numLen n := by rw [UInt8.toNat_ofNat']; omega
  have e1 : bytesS (be (numLen n) n ++ rest, 0) (((UInt8.ofNat (numLen n)).toNat : Nat) : Int) = ((rest, 0), be (numLen n) n) := by
    rw [hb]
    unfold bytesS
    rw [if_neg (by simp [length_be]; omega)]
    have hl := length_be (numLen n) n
    simp only [Int.toNat_natCast]
    rw [List.drop_append_of_le_length (by omega), List.take_append_of_le_length (by omega), List.drop_of_length_le (by omega), List.take_of_length_le (by omega), List.nil_append]
  unfold numS
  rw [e0]
  simp only
  rw [if_neg (by omega), e1]
  have hv := val_be (numLen n) n
  rw [Nat.mod_eq_of_lt (lt_pow_numLen n)] at hv
  cases hd : be (numLen n) n with
  | nil =>
    rw [hd] at hv
    simp [val] at hv
    simp [hv.symm]
  | cons x t =>
    rw [hd] at hv
    have hx : x ≠ 0 := by
      intro h0
      have hl : (x :: t).length = numLen n := by rw [← hd]; exact length_be _ _
      obtain ⟨j, hj⟩ : ∃ j, numLen n = j + 1 := ⟨t.length, by rw [← hl]; rfl⟩
      rw [hj, be_front] at hd
      injection hd with h1 h2
      have h3 : 0 < n / 256 ^ j := (lt_numLen n j).1 (by omega)
      have h4 : n / 256 ^ j < 256 := by
        have h6 := lt_pow_numLen n
        rw [hj] at h6
        exact Nat.div_lt_of_lt_mul (by rw [← Nat.pow_succ]; exact h6)
      rw [h0] at h1
      have h5 := congrArg UInt8.toNat h1
      rw [UInt8.toNat_ofNat'] at h5
      simp at h5
      omega
    simp only [if_neg hx, hv]
theorem intS_numOf (n : Nat) (rest : List UInt8) (top : Int) (hn : n < 9223372036854775808) (ht : (n : Int) ≤ top) : intS (numOf n ++ rest, 0) top = ((rest, 0), n) := by
  unfold intS
  rw [numS_numOf n rest (by omega)]
  simp only
  rw [if_neg (by unfold nat0; omega)]
theorem bytesS_app (s rest : List UInt8) : bytesS (s ++ rest, 0) (s.length : Int) = ((rest, 0), s) := by
  unfold bytesS
  rw [if_neg (by simp; omega)]
  simp
theorem strS_strOf (s rest : List UInt8) (top : Int) (hs : (s.length : Int) ≤ top) (hl : s.length < 1099511627776) : strS (strOf s ++ rest, 0) top = ((rest, 0), s) := by
  unfold strS strOf
  rw [List.append_assoc, intS_numOf s.length (s ++ rest) top (by omega) hs]
  exact bytesS_app s rest

/-! ### Names out of bytes -/
theorem made_rep (n : Nat) : madeCells (Array.replicate 32 (byteV 0)) n = (List.replicate n (byteV 0)).toArray := by
  apply Array.ext
  · simp [size_madeCells]
  · intro i h1 h2
    have hi : i % 32 < 32 := Nat.mod_lt _ (by omega)
    have hz : ∀ j, j < 32 → (Array.replicate 32 (byteV 0))[j]! = byteV 0 := by
      intro j hj
      simp [hj]
    have := hz (i % 32) hi
    simpa [madeCells] using this
theorem made_id (n : Nat) : madeCells (Value.agg zs32).cells n = (List.replicate n (byteV 0)).toArray := made_rep n
/-- A store of a whole array into the middle of a block. -/
theorem wp_store_rng {P : Program} {ops : Array Oper} {rest : List Oper} {o : Oper} {a : Act} {w : World} {Q : Exit → Act → World → Prop} {g off : Nat} {t : TypeId} {old : List Value} (hm : Mem w g t old) (cs : List Value) (ty : TypeId) (x y : Operand) (hgd : o.guard = none) (ho : o.op = .store ty x y)
    (hx : a.eval x = .pointer (some ⟨g, off, none⟩)) (hy : a.eval y = .agg cs.toArray) (hi : (P.info? ty).map (·.size) = some cs.length) (hl : off + cs.length ≤ old.length) (h1 : ∀ v ∈ cs, v.oneCell' = true)
    (h : ∀ W, Mem W g t (old.take off ++ (cs ++ old.drop (off + cs.length))) → w.grownBy W (some g) → wpList P ops Q rest (a.put o.dst undef) W) : wpList P ops Q (o :: rest) a w := by
  refine wpList_plain hgd fun K hK => ?_
  have hr := run_store_rowOf (P := P) (n := cs.length) hi w g off cs rfl h1 (hm.hasRow off cs.length hl)
  unfold Oper.wp execOp
  simp only [ho, hx, hy, hr, Sem.run_bind, Sem.run_pure, Result.andThen_ok]
  exact hK _ _ (h _ (setCells_row cs off w old hm hl) (grown_cells cs off w (grownRefl _ _)))

/-- The first k names are there. -/
def idsTo (xs : List (List UInt8)) (k : Nat) : List Value := idCells (xs.take k) ++ List.replicate ((xs.length - k) * 32) (byteV 0)
theorem length_idsTo {xs : List (List UInt8)} (h : ∀ x ∈ xs, x.length = 32) (k : Nat) (hk : k ≤ xs.length) : (idsTo xs k).length = xs.length * 32 := by
  unfold idsTo
  rw [List.length_append, length_idCells (fun x hx => h x (List.mem_of_mem_take hx)), List.length_take, List.length_replicate, Nat.min_eq_left hk]
  omega
theorem idsTo_set {xs : List (List UInt8)} (h : ∀ x ∈ xs, x.length = 32) (k : Nat) (hk : k < xs.length) :
    (idsTo xs k).take (k * 32) ++ (xs[k].map byteV ++ (idsTo xs k).drop (k * 32 + (xs[k].map byteV).length)) = idsTo xs (k + 1) := by
  have hl : (idCells (xs.take k)).length = k * 32 := by
    rw [length_idCells (fun x hx => h x (List.mem_of_mem_take hx)), List.length_take, Nat.min_eq_left (by omega)]
  have hx := h xs[k] (List.getElem_mem hk)
  have e : idCells (xs.take (k + 1)) = idCells (xs.take k) ++ xs[k].map byteV := by
    rw [idCells, List.take_succ_eq_append_getElem hk, List.flatten_append, List.map_append]
    simp [idCells]
  unfold idsTo
  rw [e, List.length_map, hx, List.take_append_of_le_length (by omega), List.take_of_length_le (by omega), List.drop_append, List.drop_of_length_le (by omega), List.nil_append, hl, List.drop_replicate, List.append_assoc]
  congr 3
  omega
theorem idsTo_all {xs : List (List UInt8)} : idsTo xs xs.length = idCells xs := by simp [idsTo]

end Go.Proofs.YtjdhcanblpifcaaDoor

/-
  Merkle nodes: the mathematics of Check, Text, Parse, of the groups of eight and of the levels.
-/
namespace Go.Proofs.YtjdhcanblpifcaaDoor
open Go.RowKit Crv

/-- A part: its name, how many bytes. -/
abbrev Pt := List UInt8 × Int
def mostOf (lv : Nat) : Nat := min (256 * 8 ^ (lv - 1)) 32768
/-- The first part's error. -/
def badPart (most : Int) : List Pt → Int
  | [] => 0
  | p :: r => if p.2 < 1 then 2 else if most < p.2 then 5 else badPart most r
def sumP (ps : List Pt) : Int := (ps.map (·.2)).sum
def chkN (lv : Int) (ps : List Pt) : Int :=
  if lv < 1 ∨ 8 < lv ∨ ps = [] then 2 else if 8 < ps.length then 5
  else if badPart (mostOf lv.toNat) ps ≠ 0 then badPart (mostOf lv.toNat) ps else if 32768 < sumP ps then 5 else 0
def ptTxt (p : Pt) : List UInt8 := p.1 ++ numOf (nat0 p.2)
/-- A node's bytes. -/
def txtN (lv : Int) (ps : List Pt) : List UInt8 := numOf (nat0 lv) ++ numOf ps.length ++ ps.flatMap ptTxt

/-! ### Decoding -/
/-- A decoder behind an error has nothing left. -/
def Okay (s : BSt) : Prop := s.2 = 0 ∨ s.1 = []
theorem failS_okay {s : BSt} (h : Okay s) (c : Int) : Okay (failS s c) := by
  unfold failS
  split
  · exact h
  · exact .inr rfl
theorem bytesS_okay {s : BSt} (h : Okay s) (n : Int) : Okay (bytesS s n).1 := by
  unfold bytesS
  split
  · exact failS_okay h 1
  · rcases h with h | h
    · exact .inl h
    · exact .inr (by simp [h])
theorem numS_okay {s : BSt} (h : Okay s) : Okay (numS s).1 := by
  unfold numS
  have h1 := bytesS_okay h 1
  cases e : bytesS s 1 with
  | mk s1 d =>
    rw [e] at h1
    cases d with
    | nil => exact h1
    | cons b r =>
      simp only
      split
      · exact failS_okay h1 2
      · have h2 := bytesS_okay h1 (b.toNat : Int)
        cases e2 : bytesS s1 (b.toNat : Int) with
        | mk s2 d2 =>
          rw [e2] at h2
          cases d2 with
          | nil => exact h2
          | cons x t =>
            simp only
            split
            · exact failS_okay h2 2
            · exact h2
theorem intS_okay {s : BSt} (h : Okay s) (top : Int) : Okay (intS s top).1 := by
  unfold intS
  split
  · exact failS_okay (numS_okay h) 5
  · exact numS_okay h
theorem okay_open (l : List UInt8) : Okay (l, 0) := .inl rfl
/-- An error stays. -/
theorem bytesS_err {s : BSt} (h : Okay s) (he : s.2 ≠ 0) (n : Int) : bytesS s n = (s, []) := by
  obtain ⟨l, e⟩ := s
  rcases h with h | h
  · exact absurd h he
  · simp only at h he
    subst h
    unfold bytesS
    split
    · simp [failS, he]
    · simp
theorem numS_err' {s : BSt} (h : Okay s) (he : s.2 ≠ 0) : numS s = (s, 0) := by
  unfold numS
  rw [bytesS_err h he]
theorem intS_err' {s : BSt} (h : Okay s) (he : s.2 ≠ 0) (top : Int) : intS s top = (s, 0) := by
  unfold intS
  rw [numS_err' h he]
  simp
/-- Bytes that are there. -/
theorem bytesS_len {s : BSt} (h : s.2 = 0) (n : Nat) (h1 : (bytesS s (n : Int)).1.2 = 0) : (bytesS s (n : Int)).2.length = n ∧ (bytesS s (n : Int)).2 ++ (bytesS s (n : Int)).1.1 = s.1 := by
  obtain ⟨l, e⟩ := s
  simp only at h
  subst h
  unfold bytesS at *
  split at h1
  · simp [failS] at h1
  · rename_i hc
    rw [if_neg hc]
    simp only [Int.toNat_natCast]
    refine ⟨?_, List.take_append_drop _ _⟩
    rw [List.length_take]
    simp at hc
    omega
theorem intS_ok (l : List UInt8) (top : Int) (h : (intS (l, 0) top).1.2 = 0) : numOf (intS (l, 0) top).2 ++ (intS (l, 0) top).1.1 = l ∧ (intS (l, 0) top).2 ≤ nat0 top := by
  unfold intS at *
  split at h
  · rename_i hc
    exfalso
    by_cases he : (numS (l, 0)).1.2 = 0
    · simp [failS, he] at h
    · have := (numS_err l he).1
      omega
  · rename_i hc
    rw [if_neg hc]
    exact ⟨numS_ok l h, by omega⟩

/-- One part read. -/
def part1 (s : BSt) : BSt × Pt := ((intS (bytesS s 32).1 32768).1, (nameOf (bytesS s 32).2, ((intS (bytesS s 32).1 32768).2 : Int)))
/-- So many parts read. -/
def ptsS (s : BSt) : Nat → BSt × List Pt
  | 0 => (s, [])
  | k + 1 => ((part1 (ptsS s k).1).1, (ptsS s k).2 ++ [(part1 (ptsS s k).1).2])
def closeS (s : BSt) : BSt := if s.1 = [] then s else failS s 2
/-- What Parse reads: the level, the parts, the error. -/
def parseN (l : List UInt8) : Int × List Pt × Int :=
  let a := intS (l, 0) 8
  let b := intS a.1 8
  let c := ptsS b.1 b.2
  if (closeS c.1).2 ≠ 0 then (0, [], (closeS c.1).2) else if chkN a.2 c.2 ≠ 0 then (0, [], chkN a.2 c.2) else (a.2, c.2, 0)

theorem part1_okay {s : BSt} (h : Okay s) : Okay (part1 s).1 := intS_okay (bytesS_okay h 32) 32768
theorem part1_err {s : BSt} (h : Okay s) (he : s.2 ≠ 0) : (part1 s).1 = s := by
  unfold part1
  rw [bytesS_err h he, intS_err' h he]
theorem length_ptsS (s : BSt) : ∀ k, (ptsS s k).2.length = k
  | 0 => rfl
  | k + 1 => by simp [ptsS, length_ptsS s k]
theorem ptsS_okay {s : BSt} (h : Okay s) : ∀ k, Okay (ptsS s k).1
  | 0 => h
  | k + 1 => part1_okay (ptsS_okay h k)
theorem ptsS_stay {s : BSt} (h : Okay s) {k : Nat} (he : (ptsS s k).1.2 ≠ 0) : ∀ j, (ptsS s (k + j)).1 = (ptsS s k).1
  | 0 => rfl
  | j + 1 => by
    have ih := ptsS_stay h he j
    show (part1 (ptsS s (k + j)).1).1 = _
    rw [ih]
    exact part1_err (ptsS_okay h k) he
theorem ptsS_names (s : BSt) : ∀ k, ∀ p ∈ (ptsS s k).2, p.1.length = 32
  | 0 => by simp [ptsS]
  | k + 1 => by
    intro p hp
    rw [ptsS] at hp
    rcases List.mem_append.1 hp with hp | hp
    · exact ptsS_names s k p hp
    · simp only [List.mem_singleton] at hp
      subst hp
      exact length_nameOf _
theorem nat0_top (n : Nat) : nat0 (n : Int) = n := by unfold nat0; omega
theorem intS_le (s : BSt) (top : Int) : (intS s top).2 ≤ nat0 top := by
  unfold intS
  split
  · exact Nat.zero_le _
  · omega
theorem ptsS_sizes (s : BSt) : ∀ k, ∀ p ∈ (ptsS s k).2, 0 ≤ p.2 ∧ p.2 ≤ 32768
  | 0 => by simp [ptsS]
  | k + 1 => by
    intro p hp
    rw [ptsS] at hp
    rcases List.mem_append.1 hp with hp | hp
    · exact ptsS_sizes s k p hp
    · simp only [List.mem_singleton] at hp
      subst hp
      have := intS_le (bytesS (ptsS s k).1 32).1 32768
      have e : nat0 32768 = 32768 := rfl
      simp only [part1]
      omega
/-- Where a part is read without an error, the bytes were its own. -/
theorem part1_ok {s : BSt} (h : s.2 = 0) (h1 : (part1 s).1.2 = 0) : ptTxt (part1 s).2 ++ (part1 s).1.1 = s.1 := by
  have ho : Okay (bytesS s 32).1 := bytesS_okay (.inl h) 32
  by_cases hb : (bytesS s 32).1.2 = 0
  · obtain ⟨h2, h3⟩ := bytesS_len h 32 hb
    rw [show ((32 : Nat) : Int) = 32 from rfl] at h2 h3
    have h4 := intS_ok (bytesS s 32).1.1 32768 (by
      have e : ((bytesS s 32).1.1, (0 : Int)) = (bytesS s 32).1 := by rw [← hb]
      rw [e]
      exact h1)
    have e : ((bytesS s 32).1.1, (0 : Int)) = (bytesS s 32).1 := by rw [← hb]
    rw [e] at h4
    unfold ptTxt part1
    simp only
    rw [nameOf_of _ h2, nat0_top, List.append_assoc, h4.1]
    exact h3
  · exfalso
    unfold part1 at h1
    simp only at h1
    rw [intS_err' ho hb] at h1
    exact hb h1
theorem ptsS_ok {s : BSt} (h : s.2 = 0) : ∀ k, (ptsS s k).1.2 = 0 → (ptsS s k).2.flatMap ptTxt ++ (ptsS s k).1.1 = s.1
  | 0, _ => by simp [ptsS]
  | k + 1, h1 => by
    have h2 : (ptsS s k).1.2 = 0 := by
      by_cases he : (ptsS s k).1.2 = 0
      · exact he
      · have := ptsS_stay (.inl h) he 1
        rw [this] at h1
        exact h1
    have h3 := part1_ok h2 h1
    have h4 := ptsS_ok h k h2
    show ((ptsS s k).2 ++ [(part1 (ptsS s k).1).2]).flatMap ptTxt ++ (part1 (ptsS s k).1).1.1 = s.1
    rw [List.flatMap_append, List.append_assoc]
    simp only [List.flatMap_cons, List.flatMap_nil, List.append_nil]
    rw [h3, h4]
/-- Where Parse reads a node, the bytes are the node's own. -/
theorem parse_ok (l : List UInt8) (h : (parseN l).2.2 = 0) : l = txtN (parseN l).1 (parseN l).2.1 ∧ chkN (parseN l).1 (parseN l).2.1 = 0 ∧ (∀ p ∈ (parseN l).2.1, p.1.length = 32 ∧ 0 ≤ p.2 ∧ p.2 ≤ 32768) ∧ (parseN l).2.1.length ≤ 8 ∧ 0 ≤ (parseN l).1 ∧ (parseN l).1 ≤ 8 := by
  unfold parseN at *
  obtain ⟨a, ha⟩ : ∃ a, a = intS (l, 0) 8 := ⟨_, rfl⟩
  have oa : Okay a.1 := by rw [ha]; exact intS_okay (okay_open l) 8
  simp only [← ha] at h ⊢
  obtain ⟨b, hb⟩ : ∃ b, b = intS a.1 8 := ⟨_, rfl⟩
  have ob : Okay b.1 := by rw [hb]; exact intS_okay oa 8
  simp only [← hb] at h ⊢
  split at h
  · rename_i hc; exact absurd h hc
  · rename_i hc
    rw [if_neg hc]
    split at h
    · rename_i hd; exact absurd h hd
    · rename_i hd
      rw [if_neg hd]
      have hc' : (closeS (ptsS b.1 b.2).1).2 = 0 := Classical.not_not.1 hc
      have hd' : chkN a.2 (ptsS b.1 b.2).2 = 0 := Classical.not_not.1 hd
      have hz : (ptsS b.1 b.2).1 = ([], 0) := by
        obtain ⟨c, hcc⟩ : ∃ c, c = (ptsS b.1 b.2).1 := ⟨_, rfl⟩
        have oc : Okay c := by rw [hcc]; exact ptsS_okay ob _
        rw [← hcc] at hc' ⊢
        obtain ⟨cl, ce⟩ := c
        unfold closeS at hc'
        split at hc'
        · rename_i hh; simp only at hh hc'; rw [hh, hc']
        · rename_i hh
          simp only at hh
          unfold failS at hc'
          split at hc'
          · rename_i h5
            simp only at hc' h5
            rcases h5 with h5 | h5
            · exact absurd hc' h5
            · exact absurd h5 (by decide)
          · simp at hc'
      have hb0 : b.1.2 = 0 := by
        by_cases he : b.1.2 = 0
        · exact he
        · have := ptsS_stay (k := 0) ob he b.2
          rw [Nat.zero_add, hz] at this
          have h6 : (ptsS b.1 0).1 = b.1 := rfl
          rw [h6] at this
          rw [← this] at he
          exact absurd rfl he
      have ha0 : a.1.2 = 0 := by
        by_cases he : a.1.2 = 0
        · exact he
        · rw [hb, intS_err' oa he] at hb0
          exact absurd hb0 he
      have h1 := intS_ok l 8 (by rw [← ha]; exact ha0)
      rw [← ha] at h1
      have ea : (a.1.1, (0 : Int)) = a.1 := by rw [← ha0]
      have h2 := intS_ok a.1.1 8 (by rw [ea, ← hb]; exact hb0)
      rw [ea, ← hb] at h2
      have h3 := ptsS_ok hb0 b.2 (by rw [hz])
      rw [hz] at h3
      refine ⟨?_, hd', fun p hp => ⟨ptsS_names _ _ p hp, ptsS_sizes _ _ p hp⟩, ?_, by simp, ?_⟩
      · unfold txtN
        simp only
        rw [nat0_top, length_ptsS, ← h1.1, ← h2.1, ← h3]
        simp
      · rw [length_ptsS]; exact h2.2
      · have := h1.2
        have e8 : nat0 8 = 8 := rfl
        simp only
        omega

/-! ### What was written is read -/
theorem badPart_zero {most : Int} : ∀ {ps : List Pt}, badPart most ps = 0 → ∀ p ∈ ps, 1 ≤ p.2 ∧ p.2 ≤ most
  | [], _ => by simp
  | p :: r, h => by
    unfold badPart at h
    split at h
    · exact absurd h (by decide)
    · split at h
      · exact absurd h (by decide)
      · intro q hq
        rcases List.mem_cons.1 hq with rfl | hq
        · omega
        · exact badPart_zero h q hq
theorem badPart_of {most : Int} : ∀ {ps : List Pt}, (∀ p ∈ ps, 1 ≤ p.2 ∧ p.2 ≤ most) → badPart most ps = 0
  | [], _ => rfl
  | p :: r, h => by
    have h1 := h p (by simp)
    unfold badPart
    rw [if_neg (by omega), if_neg (by omega)]
    exact badPart_of fun q hq => h q (by simp [hq])
theorem mostOf_le (lv : Nat) : mostOf lv ≤ 32768 := Nat.min_le_right _ _
theorem chkN_zero {lv : Int} {ps : List Pt} (h : chkN lv ps = 0) : 1 ≤ lv ∧ lv ≤ 8 ∧ ps ≠ [] ∧ ps.length ≤ 8 ∧ (∀ p ∈ ps, 1 ≤ p.2 ∧ p.2 ≤ 32768) ∧ sumP ps ≤ 32768 := by
  unfold chkN at h
  split at h
  · exact absurd h (by decide)
  · rename_i h1
    split at h
    · exact absurd h (by decide)
    · rename_i h2
      split at h
      · rename_i h3; exact absurd h h3
      · rename_i h3
        split at h
        · exact absurd h (by decide)
        · rename_i h4
          have h5 := badPart_zero (Classical.not_not.1 h3)
          have h6 := mostOf_le lv.toNat
          refine ⟨by omega, by omega, fun e => h1 (.inr (.inr e)), by omega, fun p hp => ?_, by omega⟩
          have := h5 p hp
          omega
theorem part1_txt (p : Pt) (rest : List UInt8) (h : p.1.length = 32) (h0 : 0 ≤ p.2) (h1 : p.2 ≤ 32768) : part1 (ptTxt p ++ rest, 0) = ((rest, 0), p) := by
  obtain ⟨x, n⟩ := p
  simp only at h h0 h1
  obtain ⟨k, rfl⟩ := Int.eq_ofNat_of_zero_le h0
  have e1 : bytesS (x ++ (numOf k ++ rest), 0) 32 = ((numOf k ++ rest, 0), x) := by
    have := bytesS_app x (numOf k ++ rest)
    rw [h] at this
    exact this
  have e2 := intS_numOf k rest 32768 (by omega) h1
  unfold part1 ptTxt
  rw [nat0_top, List.append_assoc, e1]
  simp only
  rw [e2, nameOf_of x h]
theorem ptsS_txt (ps : List Pt) (rest : List UInt8) (h : ∀ p ∈ ps, p.1.length = 32 ∧ 0 ≤ p.2 ∧ p.2 ≤ 32768) : ∀ k, k ≤ ps.length → ptsS (ps.flatMap ptTxt ++ rest, 0) k = (((ps.drop k).flatMap ptTxt ++ rest, 0), ps.take k)
  | 0, _ => by simp [ptsS]
  | k + 1, hk => by
    have ih := ptsS_txt ps rest h k (by omega)
    have hlt : k < ps.length := by omega
    have hp := h ps[k] (List.getElem_mem hlt)
    rw [ptsS, ih]
    simp only
    rw [List.drop_eq_getElem_cons hlt, List.flatMap_cons, List.append_assoc, part1_txt _ _ hp.1 hp.2.1 hp.2.2, List.take_succ_eq_append_getElem hlt]
theorem parse_txt (lv : Int) (ps : List Pt) (h : chkN lv ps = 0) (h32 : ∀ p ∈ ps, p.1.length = 32) : parseN (txtN lv ps) = (lv, ps, 0) := by
  obtain ⟨h1, h2, h3, h4, h5, h6⟩ := chkN_zero h
  obtain ⟨n, rfl⟩ := Int.eq_ofNat_of_zero_le (show 0 ≤ lv by omega)
  have e1 : intS (txtN (n : Int) ps, 0) 8 = ((numOf ps.length ++ ps.flatMap ptTxt, 0), n) := by
    unfold txtN
    rw [nat0_top, List.append_assoc]
    exact intS_numOf n _ 8 (by omega) h2
  have e2 : intS (numOf ps.length ++ ps.flatMap ptTxt, 0) 8 = ((ps.flatMap ptTxt, 0), ps.length) := intS_numOf ps.length _ 8 (by omega) (by omega)
  have e3 := ptsS_txt ps [] (fun p hp => ⟨h32 p hp, by have := h5 p hp; omega, by have := h5 p hp; omega⟩) ps.length (Nat.le_refl _)
  rw [List.append_nil, List.drop_length, List.take_length] at e3
  unfold parseN
  rw [e1]
  simp only
  rw [e2]
  simp only
  rw [e3]
  simp [closeS, h]
end Go.Proofs.YtjdhcanblpifcaaDoor

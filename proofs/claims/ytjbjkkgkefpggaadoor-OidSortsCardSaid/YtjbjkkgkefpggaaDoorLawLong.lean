/-
  HashLong: the walk.
-/
import Derived.Test.YtjbjkkgkefpggaaDoorLawOf
namespace Go.Proofs.YtjbjkkgkefpggaaDoor
open Go.RowKit Crv
attribute [local go_sem] ByteArray.mk_append_mk

/-- make([]byte, n) at any kind. -/
theorem make_bytes_k (kl kc : IntKind) (n : Nat) (hm : n ≤ 1099511627776) (w : World) : (Instr.makeSlice 26 (.int kl n) (.int kc n)).run Tryd.prog w = .ok (.slice (some ⟨w.heap.size, 0, none⟩) n n) (w.alloc (.cells (List.replicate n (byteV 0)).toArray 5)) := by
  obtain ⟨i, hi, hz, hs, hb⟩ : ∃ i, Tryd.prog.info? 5 = some i ∧ i.zero = some (.int .u8 0) ∧ i.size = 1 ∧ i.bytes = 1 := info_of (by kernel_rfl)
  have hr := run_make (P := Tryd.prog) w 26 5 i (.int .u8 0) Tryd.underlying26 hi hz kl kc n n (by omega) (by omega) (by rw [hb]; omega) (by omega)
  simp only [Int.toNat_natCast, hs, Nat.mul_one] at hr
  have e : (madeCells (Value.int .u8 0).cells n) = (List.replicate n (byteV 0)).toArray := by
    rw [← toList_madeCells_one]; rfl
  rw [hr, e]

/-- string(b[i:j]) of bytes in memory. -/
theorem bytes_part {P : Program} {w : World} {g off n cap : Nat} {t src dst e : TypeId} {cs : List Value} {l : List UInt8} (h : Mem w g t cs) (hp : l.map byteV <+: cs.drop off) (hs : P.underlying src = some (.slice e)) (he : P.underlying e = some (.int .u8)) (hd : P.underlying dst = some .string) (hn : l.length = n) :
    (convert src dst (.slice (some ⟨g, off, none⟩) n cap)).run P w = .ok (.string (str l)) w := by
  subst hn
  have hnums : strOfNums (l.map fun b => (b.toNat : Int)) = str l := by
    simp only [strOfNums, List.map_map, str]
    congr 2
    have : ((fun n : Int => UInt8.ofNat n.toNat) ∘ fun b : UInt8 => (b.toNat : Int)) = id := by
      funext b; simp
    rw [this, List.map_id]
  have hr := h.range off _ hp
  have := run_convert_bytes_arg w src e hs he g off l.length cap (l.map fun b => (b.toNat : Int)) (by simp) (fun i hi => by
    rw [hr i (byteV l[i]) (by rw [List.getElem?_map, List.getElem?_eq_getElem hi]; rfl), List.getD_eq_getElem?_getD, List.getElem?_map, List.getElem?_eq_getElem hi]
    rfl) dst hd
  rw [this, hnums]

theorem slice_bytes_from (g k h : Nat) (hh : h = k / 2) (W : World) : (Instr.slice 26 (.slice (some ⟨g, 0, none⟩) k k) (some (.int .i64 (h : Int))) none none).run Tryd.prog W = .ok (.slice (some ⟨g, h, none⟩) (k - h) (k - h)) W := by
  have e : Tryd.prog.elem 26 = 5 := by kernel_rfl
  rw [run_slice_l W 26 _ k k (by rw [e]; exact Tryd.underlying26) .i64 h (by omega) (by omega), e]
  have s1 : (sizeOf 5).run Tryd.prog W = .ok 1 W := by kernel_rfl
  rw [s1]
  simp only [Result.andThen_ok, Int.toNat_natCast, Nat.mul_one, sliced]
  by_cases hk : h = k
  · have : k = 0 := by omega
    subst this
    subst hk
    simp
  · rw [if_neg (fun e => hk e.symm)]
    simp only [Option.map_some, Addr.add]
    split
    · rename_i h0; rw [h0]
    · simp

/-- The first k of n bytes are c. -/
def fillTo (c : UInt8) (n k : Nat) : List UInt8 := List.replicate k c ++ List.replicate (n - k) 0
theorem fillTo_set (c : UInt8) (n k : Nat) (h : k < n) : ((fillTo c n k).map byteV).set k (byteV c) = (fillTo c n (k + 1)).map byteV := by
  rw [← List.map_set]
  congr 1
  unfold fillTo
  rw [List.set_append_right _ _ (by simp), show n - k = (n - (k + 1)) + 1 by omega, List.replicate_succ, List.length_replicate, Nat.sub_self, List.set_cons_zero, List.replicate_succ']
  simp
theorem fillTo_zero (c : UInt8) (n : Nat) : List.replicate n (byteV 0) = (fillTo c n 0).map byteV := by simp [fillTo]
theorem fillTo_all (c : UInt8) (n : Nat) : fillTo c n n = List.replicate n c := by simp [fillTo]
theorem length_fillTo (c : UInt8) (n k : Nat) (h : k ≤ n) : (fillTo c n k).length = n := by simp [fillTo]; omega

theorem keeps_mcb {w0 W w3 : World} {B : Nat} {t : TypeId} {cs : List Value} (h : Mem W B t cs ∧ Consts W ∧ Below w0.heap.size w0 W) (hb : Below W.heap.size W w3) : Mem w3 B t cs ∧ Consts w3 ∧ Below w0.heap.size w0 w3 :=
  ⟨h.1.below hb h.1.lt, h.2.1.below hb, below_then h.2.2 hb⟩
theorem keeps_mcb_alloc {w0 W : World} {B : Nat} {t : TypeId} {cs : List Value} (h : Mem W B t cs ∧ Consts W ∧ Below w0.heap.size w0 W) (o : Obj) : Mem (W.alloc o) B t cs ∧ Consts (W.alloc o) ∧ Below w0.heap.size w0 (W.alloc o) :=
  keeps_mcb h ((Below.refl _ _).alloc (Nat.le_refl _) o)

theorem keeps_mcb_grown {w0 W w3 : World} {s : Nat} {t : TypeId} {cs : List Value} (h : Mem W w0.heap.size t cs ∧ Consts W ∧ Below w0.heap.size w0 W) (hg : W.grownBy w3 (some s)) (hs : w0.heap.size < s) (h2 : 2 ≤ w0.heap.size) : Mem w3 w0.heap.size t cs ∧ Consts w3 ∧ Below w0.heap.size w0 w3 :=
  ⟨h.1.grown hg (fun e => by injection e with e; omega), h.2.1.grown hg (by omega), below_grown_new h.2.2 hg (by omega)⟩
theorem below_undrew {B : Nat} {w w' : World} (h : Below B w.drew w') : Below B w w' := ⟨h.os, h.tape, h.output, h.size, h.block⟩
theorem s_lt {w0 W : World} {t : TypeId} {cs : List Value} (h : Mem W w0.heap.size t cs ∧ Consts W ∧ Below w0.heap.size w0 W) : w0.heap.size < W.heap.size := h.1.lt
theorem s_consts {w0 W : World} {B : Nat} {t : TypeId} {cs : List Value} (h : Mem W B t cs ∧ Consts W ∧ Below w0.heap.size w0 W) : Consts W := h.2.1
theorem Holds.alloc {w : World} {s : Nat} {m : List UInt8} (h : Holds w s m) (o : Obj) : Holds (w.alloc o) s m := h.below ((Below.refl _ _).alloc (Nat.le_refl _) o)
theorem StrSlice.newAt {w : World} {t : TypeId} {g : Nat} (ls : List (List UInt8)) (cap : Nat) (hg : g = w.heap.size) : StrSlice (w.alloc (.cells (ls.map fun l => Value.string (str l)).toArray t)) (.slice (some ⟨g, 0, none⟩) ls.length cap) ls := hg ▸ StrSlice.new ls cap
theorem mem_below {w w' : World} {g : Nat} {t : TypeId} {cs : List Value} (h : Mem w g t cs) (hb : Below w.heap.size w w') : Mem w' g t cs := h.below hb h.lt
def zero32 : Array Value := #[Value.int .u8 0, Value.int .u8 0, Value.int .u8 0, Value.int .u8 0, Value.int .u8 0, Value.int .u8 0, Value.int .u8 0, Value.int .u8 0, Value.int .u8 0, Value.int .u8 0, Value.int .u8 0, Value.int .u8 0, Value.int .u8 0, Value.int .u8 0, Value.int .u8 0, Value.int .u8 0, Value.int .u8 0, Value.int .u8 0, Value.int .u8 0, Value.int .u8 0, Value.int .u8 0, Value.int .u8 0, Value.int .u8 0, Value.int .u8 0, Value.int .u8 0, Value.int .u8 0, Value.int .u8 0, Value.int .u8 0, Value.int .u8 0, Value.int .u8 0, Value.int .u8 0, Value.int .u8 0]
theorem mem_there {w : World} {g : Nat} {t : TypeId} {cs : List Value} (h : Mem w g t cs) : ∀ n, n = cs.length → w.there g 0 n := fun n hn j hj => by
  subst hn
  rw [Nat.zero_add]
  exact ⟨by rw [h.cell, List.getElem?_eq_getElem hj]; rfl, h.frozen j⟩
theorem mem_filled {w : World} {g : Nat} {t : TypeId} {cs : List Value} (h : Mem w g t cs) (vs : List Value) (hl : vs.length = cs.length) : Mem (w.setCells g 0 vs) g t vs := by
  have := setCells_row vs 0 w cs h (by omega)
  rw [List.take_zero, List.nil_append, List.drop_of_length_le (by omega), List.append_nil] at this
  exact this
theorem ex_mk {w : World} {g : Nat} {t : TypeId} {cs : List Value} (h : Mem w g t cs) : ∃ D W, D = g ∧ W = w ∧ Mem W D t cs := ⟨_, _, rfl, rfl, h⟩
theorem keeps_mm {W w3 : World} {B B' : Nat} {t t' : TypeId} {cs cs' : List Value} (h : Mem W B t cs ∧ Mem W B' t' cs') (hb : Below W.heap.size W w3) : Mem w3 B t cs ∧ Mem w3 B' t' cs' :=
  ⟨h.1.below hb h.1.lt, h.2.below hb h.2.lt⟩
theorem StrSlice.alloc {w : World} {v : Value} {ls : List (List UInt8)} (h : StrSlice w v ls) (o : Obj) : StrSlice (w.alloc o) v ls := h.below ((Below.refl _ _).alloc (Nat.le_refl _) o)
/-- A store of a whole array, one step of a region that draws its order. -/
theorem step_store_gen {P : Program} {ops : Array Oper} {o : Oper} {a : Act} {w : World} {Q : Exit → Act → World → Prop} {K : Act → World → Prop} {E : Prop} {g : Nat} {t : TypeId} {old : List Value} (hm : Mem w g t old) (cs : List Value) (ty : TypeId) (x y : Operand)
    (hgd : o.guard = none) (ho : o.op = .store ty x y) (hx : a.eval x = .pointer (some ⟨g, 0, none⟩)) (hy : a.eval y = .agg cs.toArray)
    (hi : (P.info? ty).map (·.size) = some cs.length) (hl : old.length = cs.length) (h1 : ∀ v ∈ cs, v.oneCell' = true)
    (h : ∀ W, Mem W g t cs → w.grownBy W (some g) → K (a.put o.dst undef) W) : if Region.wanted o (yielded ops a.tmps) = true then Oper.wp P o a w K Q else E := by
  have hw : Region.wanted o (yielded ops a.tmps) = true := by simp [Region.wanted, hgd]
  rw [if_pos hw]
  exact wp_store_row ty x y ho g cs.toArray hx hy t old.toArray hm (by simpa using hi) (by simpa using hl) (Array.all_eq_true_iff_forall_mem.2 (fun v hv => h1 v (by simpa using hv))) (h _ (hm.setRow cs) (grown_row (World.grownBy.refl _ _) _))

set_option maxHeartbeats 2000000 in
set_option maxRecDepth 100000 in
theorem hashLong_walk (c : UInt8) (n : Int) (w : World) (hc : Consts w) :
    Calls Tryd.prog 5 #[.int .u8 (c.toNat : Int), .int .i64 n] w fun e w' => e = .returned (.bool true) ∧ Below w.heap.size w w' := by
  have HC := Lib.hid hc
  have hN : 2 ≤ w.heap.size := hc.2.lt
  clear hc
  by_cases hin : 0 ≤ n ∧ n ≤ 400
  · obtain ⟨h0, h4⟩ := hin
    obtain ⟨n, rfl⟩ := Int.eq_ofNat_of_zero_le h0
    have hd0 : decide ((n : Int) < 0) = false := by simp
    have hd4 : decide ((400 : Int) < n) = false := by simp; omega
    have h4' : n ≤ 400 := by omega
    clear h0 h4
    go_enter Tryd.func5, Tryd.ntmps5
    go_wp2_with fail
    refine (awake1_any _ HC.out).mono ?_
    rintro e w0 ⟨rfl, hb0⟩
    have hmk := make_bytes_k .i64 .i64 n (by omega) w0
    obtain ⟨W0, hW0⟩ : ∃ W0, W0 = w0.alloc (.cells (List.replicate n (byteV 0)).toArray 5) := ⟨_, rfl⟩
    rw [← hW0] at hmk
    have HM0 := Lib.hid (show Mem W0 w0.heap.size 5 ((fillTo c n 0).map byteV) by rw [hW0, ← fillTo_zero]; exact Mem.newAt w0 5 (List.replicate n (byteV 0)) rfl)
    have hB0 : Below w0.heap.size w0 W0 := by rw [hW0]; exact (Below.refl _ _).alloc (Nat.le_refl _) _
    clear hW0
    go_wp2
    go_loopw [23] (fun i wr => ∃ k : Nat, k ≤ n ∧ i = .int .i64 k ∧ Mem wr w0.heap.size 5 ((fillTo c n k).map byteV) ∧ Below w0.heap.size w0 wr) (fun i _ => n - (intOf i).toNat)
    case atStart => exact ⟨0, by omega, rfl, HM0.out, hB0⟩
    case round =>
      obtain ⟨k, hk, rfl, hm, hb⟩ := hrel
      clear hmk HM0 hB0
      by_cases hlt : k < n
      · have hd : decide ((k : Int) < n) = true := by simp; omega
        have c0 : wr.cell? ⟨w0.heap.size, k, none⟩ = some (byteV ((fillTo c n k).getD k 0)) := by
          rw [hm.cell, List.getElem?_map, List.getElem?_eq_getElem (by rw [length_fillTo c n k hk]; exact hlt), List.getD_eq_getElem?_getD, List.getElem?_eq_getElem (by rw [length_fillTo c n k hk]; exact hlt)]; rfl
        have f0 := hm.frozen k
        have HM := Lib.hid hm
        clear hm
        go_wp2
        go_roundw
        case rel => exact ⟨k + 1, by omega, by go_num, fillTo_set c n k hlt ▸ HM.out.set k _, hb.setCell (Nat.le_refl _) _⟩
        case measure => simp [intOf]; omega
      · have ek : k = n := by omega
        subst ek
        rw [fillTo_all] at hm
        obtain ⟨L, hL⟩ : ∃ L, L = List.replicate k c := ⟨_, rfl⟩
        have hll : L.length = k := by rw [hL]; simp
        rw [← hL] at hm
        clear hL
        obtain ⟨h, hh⟩ : ∃ h, h = k / 2 := ⟨_, rfl⟩
        have hhk : h ≤ k := by omega
        have u1 : IntKind.i64.wrap ((k : Int) / 2) = (h : Int) := by
          rw [IntKind.wrap_i64]; omega
        have hcv1 : ∀ W', Mem W' w0.heap.size 5 (L.map byteV) → (convert 26 9 (.slice (some ⟨w0.heap.size, 0, none⟩) h k)).run Tryd.prog W' = .ok (.string (str (L.take h))) W' := fun W' hm' =>
          bytes_part hm' ⟨(L.drop h).map byteV, by rw [← List.map_append, List.take_append_drop]; rfl⟩ Tryd.underlying26 Tryd.underlying5 Tryd.underlying9 (by rw [List.length_take]; omega)
        have hcv2 : ∀ W', Mem W' w0.heap.size 5 (L.map byteV) → (convert 26 9 (.slice (some ⟨w0.heap.size, h, none⟩) (k - h) (k - h))).run Tryd.prog W' = .ok (.string (str (L.drop h))) W' := fun W' hm' =>
          bytes_part hm' ⟨[], by rw [List.append_nil, List.map_drop]⟩ Tryd.underlying26 Tryd.underlying5 Tryd.underlying9 (by rw [List.length_drop]; omega)
        have hsl2 : ∀ W, (Instr.slice 26 (.slice (some ⟨w0.heap.size, 0, none⟩) k k) (some (.int .i64 (h : Int))) none none).run Tryd.prog W = .ok (.slice (some ⟨w0.heap.size, h, none⟩) (k - h) (k - h)) W := fun W =>
          slice_bytes_from w0.heap.size k h hh W
        clear hh
        have hgz : w0.heap.size < wr.heap.size := hm.lt
        have hN0 : 2 ≤ w0.heap.size := Nat.le_trans hN hb0.size
        have hq1 : (0 : Int) ≤ (h : Int) := by omega
        have hq2 : (h : Int) ≤ (k : Int) := by omega
        have hcr : Consts wr := HC.out.below (below_then hb0 hb)
        have hS : Mem wr.drew w0.heap.size 5 (L.map byteV) ∧ Consts wr.drew ∧ Below w0.heap.size w0 wr.drew := ⟨hm, hcr, ⟨hb.os, hb.tape, hb.output, hb.size, hb.block⟩⟩
        have HB := Lib.hid hb
        clear hm hb
        obtain ⟨We, hWe⟩ : ∃ We : World, We = wr := ⟨_, rfl⟩
        subst hWe
        have HL2 := Lib.hid (show ([] : List UInt8) ++ [L.take h, L.drop h].flatten = L by simp)
        obtain ⟨d, hd⟩ : ∃ d, d = sha L := ⟨_, rfl⟩
        have hdl : d.length = 32 := by rw [hd]; rfl
        have HSUM := Lib.hid (show ∀ W s, Consts W → Holds W s L → Calls Tryd.prog 19 #[.pointer (some ⟨s, 0, none⟩)] W fun e w' => e = .returned (.agg (d.map byteV).toArray) ∧ Below W.heap.size W w' from fun W s h1 h2 => by rw [hd]; exact sum_any W s L h1 h2 (by omega))
        have HREF := Lib.hid (show ∀ W, Calls Tryd.prog 15 #[.string (str L)] W fun e w' => e = .returned (.string (str d)) ∧ Below W.heap.size W w' from fun W => by rw [hd]; exact refOf_any L W (by omega))
        clear hd
        have hi32 : (Tryd.prog.info? 23).map (·.size) = some (d.map byteV).length := by rw [List.length_map, hdl]; kernel_rfl
        have LEN := Lib.hid (show (d.map byteV).length = 32 by rw [List.length_map, hdl])
        have hone := one_bytes d
        have HDL := Lib.hid hdl
        clear hdl
        go_wp2_with fail
        go_region_held3 (fun w' => Mem w' w0.heap.size 5 (L.map byteV) ∧ Consts w' ∧ Below w0.heap.size w0 w')
          (first
            | (exact hS)
            | (exact keeps_mcb_grown (by assumption) (grown_cells _ _ _ (World.grownBy.refl _ _)) (by first | omega | (simp; omega) | (simp at hzN ⊢; omega)) hN0)
            | (exact keeps_mcb (by assumption) hbU)
            | (exact keeps_mcb_grown (by assumption) hgW (by first | omega | (simp; omega)) hN0)
            | (exact keeps_mcb (by assumption) hbO)
            | (exact keeps_mcb_alloc (by assumption) _))
          (first
            | (go_at_call 17; refine (new_any _ ?_).mono ?_; (exact s_consts (by assumption)); rintro e w3 ⟨rfl, hhN, hbO, hzN⟩; have hbN := below_undrew hbO; (try simp only [World.size_drew, World.size_alloc] at hhN hzN);
                (first | have mN := mem_below (Mem.newArr _ 23 zero32 rfl) hbN | have mN := mem_below ((Mem.newArr _ 23 zero32 rfl).alloc _) hbN | skip))
            | (go_at_call 18; refine (write_any _ _ [] _ [L.take h, L.drop h] ?_ ?_ ?_ ?_ ?_ ?_).mono ?_; (exact s_consts (by assumption)); (first | omega | (simp; omega)); (first | exact hhN | exact hhN.alloc _ | exact (hhN.alloc _).alloc _ | (rw [World.size_alloc] at hhN; first | exact hhN | exact hhN.alloc _ | exact (hhN.alloc _).alloc _) | (rw [World.size_alloc, World.size_alloc] at hhN; exact hhN));
                (first | exact (StrSlice.newAt [L.take h, L.drop h] 2 (by first | rfl | omega | (simp; done) | (simp; omega) | (simp at hzN ⊢; omega))) | exact (StrSlice.newAt [L.take h, L.drop h] 2 (by first | rfl | omega | (simp; done) | (simp; omega) | (simp at hzN ⊢; omega))).alloc _ | exact (StrSlice.newAt [L.take h, L.drop h] 2 (by first | rfl | omega | (simp; done) | (simp; omega) | (simp at hzN ⊢; omega))).below hbN | exact ((StrSlice.newAt [L.take h, L.drop h] 2 (by first | rfl | omega | (simp; done) | (simp; omega) | (simp at hzN ⊢; omega))).below hbN).alloc _ | exact ((StrSlice.newAt [L.take h, L.drop h] 2 (by first | rfl | omega | (simp; done) | (simp; omega) | (simp at hzN ⊢; omega))).alloc _).below hbN); (simp); (simp; omega); rintro e w4 ⟨rfl, hhW, hgW⟩; have hlt4 := Nat.lt_of_lt_of_le (s_lt (w0 := w0) (t := 5) (cs := L.map byteV) (by assumption)) hgW.size;
                (first | have mW := Mem.grown mN hgW (by intro e; injection e with e; first | (simp at hzN e; omega) | (simp at hzN e; done) | omega) | have mW := Mem.grown (mN.alloc _) hgW (by intro e; injection e with e; first | (simp at hzN e; omega) | (simp at hzN e; done) | omega) | have mW := Mem.grown (Mem.newArr _ 23 zero32 rfl) hgW (by intro e; injection e with e; first | (simp at hzN e; omega) | (simp at hzN e; done) | omega) | have mW := Mem.grown ((Mem.newArr _ 23 zero32 rfl).alloc _) hgW (by intro e; injection e with e; first | (simp at hzN e; omega) | (simp at hzN e; done) | omega) | skip))
            | (go_at_call 19; refine (HSUM.out _ _ ?_ ?_).mono ?_; (exact s_consts (by assumption)); (first | exact HL2.out ▸ hhW | exact HL2.out ▸ hhW.alloc _); rintro e w5 ⟨rfl, hbU⟩; have hlt5 := Nat.lt_of_lt_of_le (s_lt (w0 := w0) (t := 5) (cs := L.map byteV) (by assumption)) hbU.size;
                have mA := Mem.newArr w5 23 zero32 rfl; have tA := mem_there mA (d.map byteV).length LEN.out; (try unfold zero32 at tA);
                (first | (have mB := mem_below mW hbU; have tB := mem_there mB (d.map byteV).length LEN.out; have tC := tB; (try simp only [hzN, World.size_alloc] at tC)) | (have mB := mem_below (Mem.newArr _ 23 zero32 rfl) hbU; have tB := mem_there mB (d.map byteV).length LEN.out; have tC := tB; (try simp only [hzN, World.size_alloc] at tC)) | skip)))
        all_goals
          rename_i K hK hHe
          (try simp only [hzN, World.size_alloc] at mB)
          first
            | (have hx := ex_mk (mem_filled mB (d.map byteV) LEN.out))
            | (have hx := ex_mk (mem_filled mA (d.map byteV) LEN.out))
          obtain ⟨D, WF, hD, hWF, hmD⟩ := hx
          (try unfold zero32 at hWF)
          rw [← hWF] at hHe
          refine hK _ _ ?_
          rw [← hWF, ← hD]
          obtain ⟨hmg, hcF, hbF⟩ := hHe
          clear hD hWF mA tA hbU hlt5 hlt4 hhW hgW hhN hbN hbO hzN
          (try clear mB tB tC)
          (try clear mW)
          (try clear mN)
          have hcv3 : ∀ W', Mem W' D 23 (d.map byteV) → (convert 26 9 (.slice (some ⟨D, 0, none⟩) 32 32)).run Tryd.prog W' = .ok (.string (str d)) W' := fun W' h => bytes_string h Tryd.underlying26 Tryd.underlying5 Tryd.underlying9 HDL.out
          have hcv4 : ∀ W', Mem W' w0.heap.size 5 (L.map byteV) → (convert 26 9 (.slice (some ⟨w0.heap.size, 0, none⟩) k k)).run Tryd.prog W' = .ok (.string (str L)) W' := fun W' h => bytes_string h Tryd.underlying26 Tryd.underlying5 Tryd.underlying9 hll
          have hS2 : Mem WF.drew D 23 (d.map byteV) ∧ Mem WF.drew w0.heap.size 5 (L.map byteV) := ⟨hmD, hmg⟩
          go_wp2_with fail
          go_region_held3 (fun w' => Mem w' D 23 (d.map byteV) ∧ Mem w' w0.heap.size 5 (L.map byteV))
            (first
              | (exact hS2)
              | (exact keeps_mm (by assumption) hbk))
            (first
              | (go_at_call 15; refine (HREF.out _).mono ?_; rintro e w7 ⟨rfl, hbk⟩))
          rename_i K2 hK2 hHe2
          refine hK2 _ _ ?_
          go_wp2
          go_ret
          exact ⟨rfl, below_then (below_then hb0 hbF) (below_undrew hbk)⟩
  · have hor : n < 0 ∨ 400 < n := by omega
    go_enter Tryd.func5, Tryd.ntmps5
    go_wp2_with fail
    refine (awake1_any _ HC.out).mono ?_
    rintro e w0 ⟨rfl, hb0⟩
    by_cases hn0 : n < 0
    · have hd0 : decide (n < 0) = true := by simpa using hn0
      go_wp2_with fail
      refine (awake1_any _ (HC.out.below hb0)).mono ?_
      rintro e w1 ⟨rfl, hb1⟩
      go_wp2
      go_ret
      exact ⟨rfl, below_then hb0 hb1⟩
    · have hd0 : decide (n < 0) = false := by simpa using hn0
      have hd4 : decide (400 < n) = true := by simp; omega
      go_wp2_with fail
      refine (awake1_any _ (HC.out.below hb0)).mono ?_
      rintro e w1 ⟨rfl, hb1⟩
      go_wp2
      go_ret
      exact ⟨rfl, below_then hb0 hb1⟩
end Go.Proofs.YtjbjkkgkefpggaaDoor

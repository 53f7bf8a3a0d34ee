/-
  HashLong: the walk.
-/
import Derived.Test.YtaicjdjfhbmfeaaDoorLawOf
namespace Go.Proofs.YtaicjdjfhbmfeaaDoor
open Go.RowKit Crv
attribute [local go_sem] ByteArray.mk_append_mk

/-- make([]byte, n) at any kind. -/
theorem make_bytes_k (kl kc : IntKind) (n : Nat) (hm : n ≤ 1099511627776) (w : World) : (Instr.makeSlice 79 (.int kl n) (.int kc n)).run Tryd.prog w = .ok (.slice (some ⟨w.heap.size, 0, none⟩) n n) (w.alloc (.cells (List.replicate n (byteV 0)).toArray 5)) := by
  obtain ⟨i, hi, hz, hs, hb⟩ : ∃ i, Tryd.prog.info? 5 = some i ∧ i.zero = some (.int .u8 0) ∧ i.size = 1 ∧ i.bytes = 1 := info_of (by kernel_rfl)
  have hr := run_make (P := Tryd.prog) w 79 5 i (.int .u8 0) Tryd.underlying79 hi hz kl kc n n (by omega) (by omega) (by rw [hb]; omega) (by omega)
  simp only [Int.toNat_natCast, hs, Nat.mul_one] at hr
  have e : (madeCells (Value.int .u8 0).cells n) = (List.replicate n (byteV 0)).toArray := by
    rw [← toList_madeCells_one]; rfl
  rw [hr, e]

/-- string(b[i:j]) of bytes in memory. -/
theorem bytes_part {P : Program} {w : World} {g off n cap : Nat} {t src dst e : TypeId} {cs : List Value} {l : List UInt8} (h : Mem w g t cs) (hp : l.map byteV <+: cs.drop off) (hs : P.underlying src = some (.slice e)) (he : P.underlying e = some (.int .u8)) (hd : P.underlying dst = some .string) (hn : l.length = n) :
    (convert src dst (.slice (some ⟨g, off, none⟩) n cap)).run P w = .ok (.string (str l)) w := by
  subst hn
  have hnums : strOfNums (l.map fun b => (b.toNat : Int)) = str l := by
    simp only [strOfNums, List.map_map, str]
    congr 2
    have : ((fun n : Int => UInt8.ofNat n.toNat) ∘ fun b : UInt8 => (b.toNat : Int)) = id := by
      funext b; simp
    rw [this, List.map_id]
  have hr := h.range off _ hp
  have := run_convert_bytes_arg w src e hs he g off l.length cap (l.map fun b => (b.toNat : Int)) (by simp) (fun i hi => by
    rw [hr i (byteV l[i]) (by rw [List.getElem?_map, List.getElem?_eq_getElem hi]; rfl), List.getD_eq_getElem?_getD, List.getElem?_map, List.getElem?_eq_getElem hi]
    rfl) dst hd
  rw [this, hnums]

theorem slice_bytes_from (g k h : Nat) (hh : h = k / 2) (W : World) : (Instr.slice 79 (.slice (some ⟨g, 0, none⟩) k k) (some (.int .i64 (h : Int))) none none).run Tryd.prog W = .ok (.slice (some ⟨g, h, none⟩) (k - h) (k - h)) W := by
  have e : Tryd.prog.elem 79 = 5 := by kernel_rfl
  rw [run_slice_l W 79 _ k k (by rw [e]; exact Tryd.underlying79) .i64 h (by omega) (by omega), e]
  have s1 : (sizeOf 5).run Tryd.prog W = .ok 1 W := by kernel_rfl
  rw [s1]
  simp only [Result.andThen_ok, Int.toNat_natCast, Nat.mul_one, sliced]
  by_cases hk : h = k
  · have : k = 0 := by omega
    subst this
    subst hk
    simp
  · rw [if_neg (fun e => hk e.symm)]
    simp only [Option.map_some, Addr.add]
    split
    · rename_i h0; rw [h0]
    · simp

/-- The first k of n bytes are c. -/
def fillTo (c : UInt8) (n k : Nat) : List UInt8 := List.replicate k c ++ List.replicate (n - k) 0
theorem fillTo_set (c : UInt8) (n k : Nat) (h : k < n) : ((fillTo c n k).map byteV).set k (byteV c) = (fillTo c n (k + 1)).map byteV := by
  rw [← List.map_set]
  congr 1
  unfold fillTo
  rw [List.set_append_right _ _ (by simp), show n - k = (n - (k + 1)) + 1 by omega, List.replicate_succ, List.length_replicate, Nat.sub_self, List.set_cons_zero, List.replicate_succ']
  simp
theorem fillTo_zero (c : UInt8) (n : Nat) : List.replicate n (byteV 0) = (fillTo c n 0).map byteV := by simp [fillTo]
theorem fillTo_all (c : UInt8) (n : Nat) : fillTo c n n = List.replicate n c := by simp [fillTo]
theorem length_fillTo (c : UInt8) (n k : Nat) (h : k ≤ n) : (fillTo c n k).length = n := by simp [fillTo]; omega

theorem keeps_mcb {w0 W w3 : World} {B : Nat} {t : TypeId} {cs : List Value} (h : Mem W B t cs ∧ Consts W ∧ Below w0.heap.size w0 W) (hb : Below W.heap.size W w3) : Mem w3 B t cs ∧ Consts w3 ∧ Below w0.heap.size w0 w3 :=
  ⟨h.1.below hb h.1.lt, h.2.1.below hb, below_then h.2.2 hb⟩
theorem keeps_mcb_alloc {w0 W : World} {B : Nat} {t : TypeId} {cs : List Value} (h : Mem W B t cs ∧ Consts W ∧ Below w0.heap.size w0 W) (o : Obj) : Mem (W.alloc o) B t cs ∧ Consts (W.alloc o) ∧ Below w0.heap.size w0 (W.alloc o) :=
  keeps_mcb h ((Below.refl _ _).alloc (Nat.le_refl _) o)

theorem keeps_mcb_grown {w0 W w3 : World} {s : Nat} {t : TypeId} {cs : List Value} (h : Mem W w0.heap.size t cs ∧ Consts W ∧ Below w0.heap.size w0 W) (hg : W.grownBy w3 (some s)) (hs : w0.heap.size < s) (h2 : 3 ≤ w0.heap.size) : Mem w3 w0.heap.size t cs ∧ Consts w3 ∧ Below w0.heap.size w0 w3 :=
  ⟨h.1.grown hg (fun e => by injection e with e; omega), h.2.1.grown hg (by omega), below_grown_new h.2.2 hg (by omega)⟩
theorem below_undrew {B : Nat} {w w' : World} (h : Below B w.drew w') : Below B w w' := ⟨h.os, h.tape, h.output, h.size, h.block⟩
theorem s_lt {w0 W : World} {t : TypeId} {cs : List Value} (h : Mem W w0.heap.size t cs ∧ Consts W ∧ Below w0.heap.size w0 W) : w0.heap.size < W.heap.size := h.1.lt
theorem s_consts {w0 W : World} {B : Nat} {t : TypeId} {cs : List Value} (h : Mem W B t cs ∧ Consts W ∧ Below w0.heap.size w0 W) : Consts W := h.2.1
theorem Holds.alloc {w : World} {s : Nat} {m : List UInt8} (h : Holds w s m) (o : Obj) : Holds (w.alloc o) s m := h.below ((Below.refl _ _).alloc (Nat.le_refl _) o)
theorem StrSlice.newAt {w : World} {t : TypeId} {g : Nat} (ls : List (List UInt8)) (cap : Nat) (hg : g = w.heap.size) : StrSlice (w.alloc (.cells (ls.map fun l => Value.string (str l)).toArray t)) (.slice (some ⟨g, 0, none⟩) ls.length cap) ls := hg ▸ StrSlice.new ls cap
theorem mem_below {w w' : World} {g : Nat} {t : TypeId} {cs : List Value} (h : Mem w g t cs) (hb : Below w.heap.size w w') : Mem w' g t cs := h.below hb h.lt
def zero32 : Array Value := #[Value.int .u8 0, Value.int .u8 0, Value.int .u8 0, Value.int .u8 0, Value.int .u8 0, Value.int .u8 0, Value.int .u8 0, Value.int .u8 0, Value.int .u8 0, Value.int .u8 0, Value.int .u8 0, Value.int .u8 0, Value.int .u8 0, Value.int .u8 0, Value.int .u8 0, Value.int .u8 0, Value.int .u8 0, Value.int .u8 0, Value.int .u8 0, Value.int .u8 0, Value.int .u8 0, Value.int .u8 0, Value.int .u8 0, Value.int .u8 0, Value.int .u8 0, Value.int .u8 0, Value.int .u8 0, Value.int .u8 0, Value.int .u8 0, Value.int .u8 0, Value.int .u8 0, Value.int .u8 0]
theorem mem_there {w : World} {g : Nat} {t : TypeId} {cs : List Value} (h : Mem w g t cs) : ∀ n, n = cs.length → w.there g 0 n := fun n hn j hj => by
  subst hn
  rw [Nat.zero_add]
  exact ⟨by rw [h.cell, List.getElem?_eq_getElem hj]; rfl, h.frozen j⟩
theorem mem_filled {w : World} {g : Nat} {t : TypeId} {cs : List Value} (h : Mem w g t cs) (vs : List Value) (hl : vs.length = cs.length) : Mem (w.setCells g 0 vs) g t vs := by
  have := setCells_row vs 0 w cs h (by omega)
  rw [List.take_zero, List.nil_append, List.drop_of_length_le (by omega), List.append_nil] at this
  exact this
theorem ex_mk {w : World} {g : Nat} {t : TypeId} {cs : List Value} (h : Mem w g t cs) : ∃ D W, D = g ∧ W = w ∧ Mem W D t cs := ⟨_, _, rfl, rfl, h⟩
theorem keeps_mm {W w3 : World} {B B' : Nat} {t t' : TypeId} {cs cs' : List Value} (h : Mem W B t cs ∧ Mem W B' t' cs') (hb : Below W.heap.size W w3) : Mem w3 B t cs ∧ Mem w3 B' t' cs' :=
  ⟨h.1.below hb h.1.lt, h.2.below hb h.2.lt⟩
theorem StrSlice.alloc {w : World} {v : Value} {ls : List (List UInt8)} (h : StrSlice w v ls) (o : Obj) : StrSlice (w.alloc o) v ls := h.below ((Below.refl _ _).alloc (Nat.le_refl _) o)
/-- A store of a whole array, one step of a region that draws its order. -/
theorem step_store_gen {P : Program} {ops : Array Oper} {o : Oper} {a : Act} {w : World} {Q : Exit → Act → World → Prop} {K : Act → World → Prop} {E : Prop} {g : Nat} {t : TypeId} {old : List Value} (hm : Mem w g t old) (cs : List Value) (ty : TypeId) (x y : Operand)
    (hgd : o.guard = none) (ho : o.op = .store ty x y) (hx : a.eval x = .pointer (some ⟨g, 0, none⟩)) (hy : a.eval y = .agg cs.toArray)
    (hi : (P.info? ty).map (·.size) = some cs.length) (hl : old.length = cs.length) (h1 : ∀ v ∈ cs, v.oneCell' = true)
    (h : ∀ W, Mem W g t cs → w.grownBy W (some g) → K (a.put o.dst undef) W) : if Region.wanted o (yielded ops a.tmps) = true then Oper.wp P o a w K Q else E := by
  have hw : Region.wanted o (yielded ops a.tmps) = true := by simp [Region.wanted, hgd]
  rw [if_pos hw]
  exact wp_store_row ty x y ho g cs.toArray hx hy t old.toArray hm (by simpa using hi) (by simpa using hl) (Array.all_eq_true_iff_forall_mem.2 (fun v hv => h1 v (by simpa using hv))) (h _ (hm.setRow cs) (grown_row (World.grownBy.refl _ _) _))

end Go.Proofs.YtaicjdjfhbmfeaaDoor

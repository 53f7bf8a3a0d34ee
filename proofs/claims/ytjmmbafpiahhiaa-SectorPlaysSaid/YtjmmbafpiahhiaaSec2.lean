/-
  Package sector: New, Read, Sync, Clear, Arm.
-/
import Derived.Test.YtjmmbafpiahhiaaSec1
namespace Go.Proofs.Ytjmmbafpiahhiaa
open Go.RowKit Go.Maps Crv
open Go.ChangeMaps (setBlock heap_setBlock_same heap_setBlock_other)
open Go.MapKept (stamped_empty)

/-- make([]byte, n) at any kind. -/
theorem make_bytes_k (kl kc : IntKind) (n : Nat) (hm : n ≤ 1099511627776) (w : World) : (Instr.makeSlice 38 (.int kl n) (.int kc n)).run Try.prog w = .ok (.slice (some ⟨w.heap.size, 0, none⟩) n n) (w.alloc (.cells (List.replicate n (byteV 0)).toArray 5)) := by
  obtain ⟨i, hi, hz, hs, hb⟩ : ∃ i, Try.prog.info? 5 = some i ∧ i.zero = some (.int .u8 0) ∧ i.size = 1 ∧ i.bytes = 1 := info_of (by kernel_rfl)
  have hr := run_make (P := Try.prog) w 38 5 i (.int .u8 0) Try.underlying38 hi hz kl kc n n (by omega) (by omega) (by rw [hb]; omega) (by omega)
  simp only [Int.toNat_natCast, hs, Nat.mul_one] at hr
  have e : (madeCells (Value.int .u8 0).cells n) = (List.replicate n (byteV 0)).toArray := by
    rw [← toList_madeCells_one]; rfl
  rw [hr, e]

/-- string(b[i:j]) of bytes in memory. -/
theorem bytes_part {P : Program} {w : World} {g off n cap : Nat} {t src dst e : TypeId} {cs : List Value} {l : List UInt8} (h : Mem w g t cs) (hp : l.map byteV <+: cs.drop off) (hs : P.underlying src = some (.slice e)) (he : P.underlying e = some (.int .u8)) (hd : P.underlying dst = some .string) (hn : l.length = n) :
    (convert src dst (.slice (some ⟨g, off, none⟩) n cap)).run P w = .ok (.string (str l)) w := by
  subst hn
  have hnums : strOfNums (l.map fun b => (b.toNat : Int)) = str l := by
    simp only [strOfNums, List.map_map, str]
    congr 2
    have : ((fun n : Int => UInt8.ofNat n.toNat) ∘ fun b : UInt8 => (b.toNat : Int)) = id := by
      funext b; simp
    rw [this, List.map_id]
  have hr := h.range off _ hp
  have := run_convert_bytes_arg w src e hs he g off l.length cap (l.map fun b => (b.toNat : Int)) (by simp) (fun i hi => by
    rw [hr i (byteV l[i]) (by rw [List.getElem?_map, List.getElem?_eq_getElem hi]; rfl), List.getD_eq_getElem?_getD, List.getElem?_map, List.getElem?_eq_getElem hi]
    rfl) dst hd
  rw [this, hnums]

set_option maxRecDepth 100000 in
theorem new_any (s : Nat) (hs2 : s ≤ 65536) (w : World) :
    Calls Try.prog 10 #[.int .i64 (s : Int)] w fun e w' => ∃ fb cb mb db, e = .returned (ptr db) ∧ Dk w' fb cb mb db s false 0 (List.replicate (64 * s) 0) 0 (.map []) ∧ Below w.heap.size w w' ∧
      w.heap.size ≤ fb ∧ w.heap.size ≤ cb ∧ w.heap.size ≤ mb ∧ w.heap.size ≤ db := by
  have hmk := fun W => make_bytes_k .i64 .i64 (s * 64) (by omega) W
  rw [show ((s * 64 : Nat) : Int) = (s : Int) * 64 by omega] at hmk
  have hmm := @run_makeMap Try.prog
  have e0 : decide ((s : Int) < 0) = false := by simp
  have e1 : decide (65536 < (s : Int)) = false := by simp; omega
  go_enter Try.func10, Try.ntmps10
  go_wp2
  go_ret
  refine ⟨w.heap.size, w.heap.size + 1, w.heap.size + 1 + 1, w.heap.size + 1 + 1 + 1, rfl, ?_, ((((Below.refl _ _).alloc (Nat.le_refl _) _).alloc (by simp) _).alloc (by simp; omega) _).alloc (by simp; omega) _, Nat.le_refl _, by omega, by omega, by omega⟩
  rw [Nat.mul_comm s 64]
  refine ⟨Mem.newAt _ _ _ (by simp), (((Mem.newAt w TF [.bool false, .int .i64 0] rfl).alloc _).alloc _).alloc _, ?_, ?_, by simp, hs2, by omega, by omega⟩
  · have h := Mem.newArr (w.alloc (.cells #[.bool false, .int .i64 0] TF)) (g := w.heap.size + 1) TB (Array.replicate (64 * s) (byteV 0)) (by simp)
    rw [Array.toList_replicate, ← List.map_replicate] at h
    exact (h.alloc _).alloc _
  · have h := World.ownsMap_made (H := Unit) ((w.alloc (.cells #[.bool false, .int .i64 0] TF)).alloc (.cells (Array.replicate (64 * s) (byteV 0)) TB)) Try.prog TN secElem
    have e : ((w.alloc (.cells #[.bool false, .int .i64 0] TF)).alloc (.cells (Array.replicate (64 * s) (byteV 0)) TB)).heap.size = w.heap.size + 1 + 1 := by simp
    rw [e] at h
    exact h.alloc _

section
variable {w w' : World} {fb cb mb db sz : Nat} {a : Bool} {k : Int} {bs : List UInt8} {n : Nat} {D : DataW Unit}
set_option maxRecDepth 100000 in
theorem read_out (at_ n' : Int) (ha : at_ ≤ 9223372036854775807) (h : Dk w fb cb mb db sz a k bs n D) (hh : hasS sz at_ n' = false) :
    Calls Try.prog 16 #[ptr db, .int .i64 at_, .int .i64 n'] w fun e w' => e = .returned (.tuple #[.string (str []), .int .i64 10]) ∧ w = w' := by
  have HA := Lib.hid (has_any at_ n' ha h)
  rw [hh] at HA
  clear h hh ha
  go_enter Try.func16, Try.ntmps16
  go_wp2_with fail
  refine HA.out.mono ?_
  rintro e w1 ⟨rfl, rfl⟩
  go_wp2
  ((try simp only [Exit.inBlock, Exit.then]); refine bodyPost_ret (results_tmp2 rfl _ _ _) rfl ?_)
  exact ⟨rfl, rfl⟩
set_option maxRecDepth 100000 in
theorem read_io (at_ n' : Int) (ha : at_ ≤ 9223372036854775807) (h : Dk w fb cb mb db sz a k bs n D) (hh : hasS sz at_ n' = true) (ho : okS a k = false) :
    Calls Try.prog 16 #[ptr db, .int .i64 at_, .int .i64 n'] w fun e w' => e = .returned (.tuple #[.string (str []), .int .i64 13]) ∧ Dk w' fb cb mb db sz a (leftS a k) bs n D ∧ Only [fb, cb, mb] w w' ∧ w'.heap.size = w.heap.size := by
  have HA := Lib.hid (has_any at_ n' ha h)
  have HS := Lib.hid (spend_any h)
  have c0 : w.cell? ⟨db, 0, none⟩ = some (ptr fb) := h.d.cell 0
  rw [hh] at HA
  rw [ho] at HS
  clear h hh ha ho
  go_enter Try.func16, Try.ntmps16
  go_wp2_with fail
  refine HA.out.mono ?_
  rintro e w1 ⟨rfl, rfl⟩
  go_wp2_with fail
  refine HS.out.mono ?_
  rintro e w1 ⟨rfl, hd, hon, hsz⟩
  go_wp2
  ((try simp only [Exit.inBlock, Exit.then]); refine bodyPost_ret (results_tmp2 rfl _ _ _) rfl ?_)
  exact ⟨rfl, hd, hon, hsz⟩
/-- The bytes of n sectors. -/
def rowS (bs : List UInt8) (i n : Nat) : List UInt8 := (bs.drop (64 * i)).take (64 * n)
theorem length_rowS {bs : List UInt8} {sz i n : Nat} (hl : bs.length = 64 * sz) (h : i + n ≤ sz) : (rowS bs i n).length = 64 * n := by
  unfold rowS
  rw [List.length_take, List.length_drop]
  omega
set_option maxRecDepth 100000 in
theorem read_ok (i n' : Nat) (h : Dk w fb cb mb db sz a k bs n D) (hh : i + n' ≤ sz) (ho : okS a k = true) :
    Calls Try.prog 16 #[ptr db, .int .i64 (i : Int), .int .i64 (n' : Int)] w fun e w' => e = .returned (.tuple #[.string (str (rowS bs i n')), .int .i64 0]) ∧ Dk w' fb cb mb db sz a (leftS a k) bs n D ∧ Only [fb, cb, mb] w w' ∧ w'.heap.size = w.heap.size := by
  have hm := h.most
  have HA := Lib.hid (has_any (i : Int) (n' : Int) (by omega) h)
  have HS := Lib.hid (spend_any h)
  have c0 : w.cell? ⟨db, 0, none⟩ = some (ptr fb) := h.d.cell 0
  rw [show hasS sz i n' = true by simp [hasS]; omega] at HA
  rw [ho] at HS
  clear h ho
  by_cases hE : 64 * sz = i * 64
  · have hn0 : n' = 0 := by omega
    subst hn0
    have hr0 : rowS bs i 0 = [] := by simp [rowS]
    rw [hr0]
    go_enter Try.func16, Try.ntmps16
    go_wp2_with fail
    refine HA.out.mono ?_
    rintro e w1 ⟨rfl, rfl⟩
    go_wp2_with fail
    refine HS.out.mono ?_
    rintro e w1 ⟨rfl, hd, hon, hsz⟩
    have c1 : w1.cell? ⟨db, 1, none⟩ = some (.slice (some ⟨cb, 0, none⟩) (64 * sz : Nat) (64 * sz : Nat)) := hd.d.cell 1
    have HD := Lib.hid hd
    have HO := Lib.hid hon
    have hcv : (convert 38 9 (.slice (some ⟨cb, 0, none⟩) 0 0)).run Try.prog w1 = .ok (.string (str [])) w1 :=
      bytes_part (off := 0) hd.c (by simp) Try.underlying38 Try.underlying5 Try.underlying9 rfl
    clear hd hon
    go_wp2
    ((try simp only [Exit.inBlock, Exit.then]); refine bodyPost_ret (results_tmp2 rfl _ _ _) rfl ?_)
    exact ⟨rfl, HD.out, HO.out, hsz⟩
  · skip
    go_enter Try.func16, Try.ntmps16
    go_wp2_with fail
    refine HA.out.mono ?_
    rintro e w1 ⟨rfl, rfl⟩
    go_wp2_with fail
    refine HS.out.mono ?_
    rintro e w1 ⟨rfl, hd, hon, hsz⟩
    have c1 : w1.cell? ⟨db, 1, none⟩ = some (.slice (some ⟨cb, 0, none⟩) (64 * sz : Nat) (64 * sz : Nat)) := hd.d.cell 1
    have HD := Lib.hid hd
    have HO := Lib.hid hon
    have hcv : (convert 38 9 (.slice (some ⟨cb, i * 64, none⟩) ((i + n') * 64 - i * 64) (64 * sz - i * 64))).run Try.prog w1 = .ok (.string (str (rowS bs i n'))) w1 :=
      bytes_part hd.c (by
        unfold rowS
        rw [← List.map_drop, Nat.mul_comm i 64]
        exact List.IsPrefix.map _ (List.take_prefix _ _)) Try.underlying38 Try.underlying5 Try.underlying9 (by rw [length_rowS hd.len hh]; omega)
    clear hd hon
    go_wp2
    ((try simp only [Exit.inBlock, Exit.then]); refine bodyPost_ret (results_tmp2 rfl _ _ _) rfl ?_)
    exact ⟨rfl, HD.out, HO.out, hsz⟩

theorem run_clear_map {P : Program} {w : World} {b n : Nat} {q e t : TypeId} {R : Value → Option (DataW Unit × List MemPlace)} {D : DataW Unit} (h : w.ownsMap P q R b n D) (ht : P.underlying t = some (.map q e)) :
    ∃ w', (∀ ty, (Builtin.clear_ #[t] ty #[.map (some b)]).run P w = .ok (.tuple #[]) w') ∧ w'.ownsMap P q R b 0 (.map []) ∧ w.grownBy w' (some b) ∧ w'.heap.size = w.heap.size := by
  obtain ⟨es, clock, hb, F, hs, hD⟩ := h
  refine ⟨setBlock w b (.map #[] clock), ?_, ⟨#[], clock, heap_setBlock_same hb _, ⟨by simp, stamped_empty _, by simp⟩, Nat.le_refl _, rfl⟩, ⟨rfl, rfl, rfl, by simp [setBlock], fun i _ hi => heap_setBlock_other hb _ (fun e => hi (by rw [e]))⟩, by simp [setBlock]⟩
  intro ty
  simp [Builtin.clear_, run_underlying ht, MapKept.run_getObj_map hb, MapKept.run_setObj_map _ hb, Result.andThen]
  rfl
end
end Go.Proofs.Ytjmmbafpiahhiaa

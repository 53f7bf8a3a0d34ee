/-
  Package sector: Write.
-/
import Derived.Test.YtjmmbafpiahhiaaSec5
import Derived.Lib.SliceRun
namespace Go.Proofs.Ytjmmbafpiahhiaa
open Go.RowKit Go.Maps Crv

/-- A sector with another text. -/
def putS (bs : List UInt8) (i : Nat) (l : List UInt8) : List UInt8 := bs.take (64 * i) ++ ((l ++ List.replicate (64 - l.length) 0) ++ bs.drop (64 * i + 64))
theorem length_putS {bs : List UInt8} {sz i : Nat} {l : List UInt8} (hb : bs.length = 64 * sz) (hi : i < sz) (hl : l.length ≤ 64) : (putS bs i l).length = bs.length := by
  unfold putS
  simp only [List.length_append, List.length_take, List.length_drop, List.length_replicate]
  omega
theorem put_copy (bs : List UInt8) (i : Nat) (l : List UInt8) (hl : l.length ≤ 64) :
    (bs.map byteV).take (64 * i) ++ ((l.take (min l.length 64)).map byteV ++ (bs.map byteV).drop (64 * i + min l.length 64)) = (bs.take (64 * i) ++ (l ++ bs.drop (64 * i + l.length))).map byteV := by
  rw [Nat.min_eq_left hl, List.take_length]
  simp [List.map_take, List.map_drop]
theorem put_clear (bs : List UInt8) (i sz : Nat) (l : List UInt8) (hb : bs.length = 64 * sz) (hi : i < sz) (hl : l.length ≤ 64) :
    ((bs.take (64 * i) ++ (l ++ bs.drop (64 * i + l.length))).map byteV).take (64 * i + l.length) ++ (List.replicate (64 - l.length) (byteV 0) ++ ((bs.take (64 * i) ++ (l ++ bs.drop (64 * i + l.length))).map byteV).drop (64 * i + l.length + (64 - l.length))) = (putS bs i l).map byteV := by
  have h1 : (bs.take (64 * i)).length = 64 * i := by rw [List.length_take]; omega
  have e1 : (bs.take (64 * i) ++ (l ++ bs.drop (64 * i + l.length))).take (64 * i + l.length) = bs.take (64 * i) ++ l := by
    rw [← List.append_assoc]
    exact List.take_left' (by rw [List.length_append, h1])
  have e2 : (bs.take (64 * i) ++ (l ++ bs.drop (64 * i + l.length))).drop (64 * i + l.length + (64 - l.length)) = bs.drop (64 * i + 64) := by
    rw [← List.append_assoc, List.drop_append, List.length_append, h1, List.drop_of_length_le (by rw [List.length_append, h1]; omega), List.nil_append, List.drop_drop]
    congr 1
    omega
  rw [← List.map_take, ← List.map_drop, e1, e2, ← List.map_replicate]
  unfold putS
  simp
theorem put_full (bs : List UInt8) (i : Nat) (l : List UInt8) (hl : l.length = 64) : bs.take (64 * i) ++ (l ++ bs.drop (64 * i + l.length)) = putS bs i l := by
  unfold putS
  rw [hl]
  simp
theorem clear_none {P : Program} {w : World} {t e : TypeId} (ht : P.underlying t = some (.slice e)) (a : Option Addr) (c : Nat) (ty : TypeId) : (Builtin.clear_ #[t] ty #[.slice a 0 c]).run P w = .ok (.tuple #[]) w := by
  cases a <;> simp [Builtin.clear_, run_underlying ht, Result.andThen]

theorem Txs.only {w w' : World} {fb cb mb db sz : Nat} {a : Bool} {k : Int} {bs : List UInt8} {n : Nat} {D : DataW Unit} {v : Value} {ls : List (List UInt8)} (h : Txs w v ls) (hd : Dk w fb cb mb db sz a k bs n D) (ho : Only [fb, cb, mb] w w') : Txs w' v ls := by
  obtain ⟨ad, cap, hv, hc⟩ := h
  refine ⟨ad, cap, hv, fun i hi => ?_⟩
  obtain ⟨b', off, ha, hcell⟩ := hc i hi
  refine ⟨b', off, ha, ?_⟩
  have hlt := World.block_lt_of_cell? w _ hcell
  have hne : b' ∉ [fb, cb, mb] := by
    intro hm
    simp only [List.mem_cons, List.not_mem_nil, or_false] at hm
    rcases hm with rfl | rfl | rfl
    · rw [hd.f.cell] at hcell
      match off + i, hcell with
      | 0, h => simp at h
      | 1, h => simp at h
      | (q + 2), h => simp at h
    · rw [hd.c.cell, List.getElem?_map] at hcell
      cases hq : bs[off + i]? with
      | none => rw [hq] at hcell; simp at hcell
      | some x => rw [hq] at hcell; simp [byteV] at hcell
    · obtain ⟨es, clock, hb, _⟩ := hd.m
      simp [World.cell?, hb] at hcell
  rw [World.cell?_of_block (ho.2 b' hlt hne)]
  exact hcell

/-- The bytes and the map once the first j texts are written. -/
def wrTo (bs : List UInt8) (D : DataW Unit) (i : Nat) (ls : List (List UInt8)) : Nat → List UInt8 × DataW Unit
  | 0 => (bs, D)
  | j + 1 => (putS (wrTo bs D i ls j).1 (i + j) (ls.getD j []), looseD (wrTo bs D i ls j).2 (wrTo bs D i ls j).1 (i + j))

section
variable {w w' : World} {fb cb mb db sz : Nat} {a : Bool} {k : Int} {bs : List UInt8} {n : Nat} {D : DataW Unit}
set_option maxRecDepth 100000 in
theorem write_out (at_ : Int) (v : Value) (ls : List (List UInt8)) (hv : Txs w v ls) (ha : at_ ≤ 9223372036854775807) (h : Dk w fb cb mb db sz a k bs n D) (hh : hasS sz at_ ls.length = false) :
    Calls Try.prog 23 #[ptr db, .int .i64 at_, v] w fun e w' => e = .returned (.int .i64 10) ∧ w = w' := by
  have HA := Lib.hid (has_any at_ ls.length ha h)
  obtain ⟨ad, cap, rfl, _⟩ := hv
  rw [hh] at HA
  clear h hh ha
  go_enter Try.func23, Try.ntmps23
  go_wp2_with fail
  refine HA.out.mono ?_
  rintro e w1 ⟨rfl, rfl⟩
  go_wp2
  go_ret
  exact ⟨rfl, rfl⟩
set_option maxRecDepth 100000 in
theorem write_long (at_ : Int) (v : Value) (ls : List (List UInt8)) (hv : Txs w v ls) (hn : ls.length ≤ 100000) (ha : at_ ≤ 9223372036854775807) (h : Dk w fb cb mb db sz a k bs n D) (hh : hasS sz at_ ls.length = true) (hl : longS ls = true) :
    Calls Try.prog 23 #[ptr db, .int .i64 at_, v] w fun e w' => e = .returned (.int .i64 10) ∧ w = w' := by
  have HA := Lib.hid (has_any at_ ls.length ha h)
  have HC := Lib.hid (contains_any w v ls hv hn)
  obtain ⟨ad, cap, rfl, _⟩ := hv
  rw [hh] at HA
  rw [hl] at HC
  clear h hh ha hl
  go_enter Try.func23, Try.ntmps23
  go_wp2_with fail
  refine HA.out.mono ?_
  rintro e w1 ⟨rfl, rfl⟩
  go_wp2_with fail
  refine HC.out.mono ?_
  rintro e w1 ⟨rfl, rfl⟩
  go_wp2
  go_ret
  exact ⟨rfl, rfl⟩
set_option maxRecDepth 100000 in
theorem write_io (at_ : Int) (v : Value) (ls : List (List UInt8)) (hv : Txs w v ls) (hn : ls.length ≤ 100000) (ha : at_ ≤ 9223372036854775807) (h : Dk w fb cb mb db sz a k bs n D) (hh : hasS sz at_ ls.length = true) (hl : longS ls = false) (ho : okS a k = false) :
    Calls Try.prog 23 #[ptr db, .int .i64 at_, v] w fun e w' => e = .returned (.int .i64 13) ∧ Dk w' fb cb mb db sz a (leftS a k) bs n D ∧ Only [fb, cb, mb] w w' ∧ w'.heap.size = w.heap.size := by
  have HA := Lib.hid (has_any at_ ls.length ha h)
  have HC := Lib.hid (contains_any w v ls hv hn)
  have HS := Lib.hid (spend_any h)
  have c0 : w.cell? ⟨db, 0, none⟩ = some (ptr fb) := h.d.cell 0
  obtain ⟨ad, cap, rfl, _⟩ := hv
  rw [hh] at HA
  rw [hl] at HC
  rw [ho] at HS
  clear h hh ha hl ho
  go_enter Try.func23, Try.ntmps23
  go_wp2_with fail
  refine HA.out.mono ?_
  rintro e w1 ⟨rfl, rfl⟩
  go_wp2_with fail
  refine HC.out.mono ?_
  rintro e w1 ⟨rfl, rfl⟩
  go_wp2_with fail
  refine HS.out.mono ?_
  rintro e w1 ⟨rfl, hd, hon, hsz⟩
  go_wp2
  go_ret
  exact ⟨rfl, hd, hon, hsz⟩
end
end Go.Proofs.Ytjmmbafpiahhiaa

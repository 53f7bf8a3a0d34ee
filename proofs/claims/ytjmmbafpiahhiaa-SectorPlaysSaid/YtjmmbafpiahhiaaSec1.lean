/-
  Package sector: a disk in memory; Size, has, spend, sector.
-/
import Derived.Test.YtjmmbafpiahhiaaBase
import Derived.Maps.OwnSet
namespace Go.Proofs.Ytjmmbafpiahhiaa
open Go.RowKit Go.Maps Crv

abbrev ptr (g : Nat) : Value := .pointer (some ⟨g, 0, none⟩)
abbrev TD : TypeId := 41
abbrev TF : TypeId := 62
abbrev TB : TypeId := 5
abbrev TN : TypeId := 3
abbrev TM : TypeId := 39
abbrev TA : TypeId := 74

/-- Nothing but these blocks has turned. -/
def Only (S : List Nat) (w w' : World) : Prop := Below 0 w w' ∧ ∀ i, i < w.heap.size → i ∉ S → w'.heap[i]? = w.heap[i]?
theorem Only.refl (S : List Nat) (w : World) : Only S w w := ⟨Below.refl _ _, fun _ _ _ => rfl⟩
theorem Only.trans {S : List Nat} {a b c : World} (h : Only S a b) (k : Only S b c) : Only S a c :=
  ⟨h.1.trans k.1, fun i hi hn => (k.2 i (Nat.lt_of_lt_of_le hi h.1.size) hn).trans (h.2 i hi hn)⟩
theorem Only.of_below {S : List Nat} {w w' : World} (h : Below w.heap.size w w') : Only S w w' := ⟨h.mono (Nat.zero_le _), fun i hi _ => h.block i hi⟩
theorem Only.mono {S S' : List Nat} {w w' : World} (h : Only S w w') (hs : ∀ i, i ∈ S → i ∈ S') : Only S' w w' := ⟨h.1, fun i hi hn => h.2 i hi (fun hm => hn (hs i hm))⟩
theorem Only.below {S : List Nat} {B : Nat} {w w' : World} (h : Only S w w') (hB : B ≤ w.heap.size) (hs : ∀ i, i ∈ S → B ≤ i) : Below B w w' :=
  ⟨h.1.os, h.1.tape, h.1.output, h.1.size, fun i hi => h.2 i (Nat.lt_of_lt_of_le hi hB) (fun hm => absurd (hs i hm) (Nat.not_le_of_lt hi))⟩
theorem Only.grown {S : List Nat} {g : Nat} {w w' : World} (h : w.grownBy w' (some g)) (hg : g ∈ S) : Only S w w' :=
  ⟨⟨h.os, h.tape, h.output, h.size, fun i hi => by omega⟩, fun i hi hn => h.block i hi (fun e => hn (by injection e with e; rw [e]; exact hg))⟩
theorem Only.alloc (S : List Nat) (w : World) (o : Obj) : Only S w (w.alloc o) := Only.of_below (belowSelf w o)
theorem Only.drew {S : List Nat} {a w : World} (h : Only S a w) : Only S a w.drew := ⟨below_drewN h.1 1, h.2⟩
theorem Only.mem {S : List Nat} {w w' : World} {g : Nat} {t : TypeId} {cs : List Value} (h : Only S w w') (hm : Mem w g t cs) (hg : g ∉ S) : Mem w' g t cs := (h.2 g hm.lt hg).trans hm

theorem byteV_inj {a b : UInt8} (h : byteV a = byteV b) : a = b := by
  have h' : (Value.int IntKind.u8 (a.toNat : Int)) = .int .u8 (b.toNat : Int) := h
  injection h' with _ h2
  exact UInt8.toNat_inj.1 (by omega)
theorem bytes_inj {a b : List UInt8} (h : a.map byteV = b.map byteV) : a = b := (List.map_inj_right (fun _ _ e => byteV_inj e)).1 h

open Classical in
/-- How a sector that a map keeps reads. -/
noncomputable def secElem (v : Value) : Option (DataW Unit × List MemPlace) :=
  if h : ∃ l : List UInt8, l.length = 64 ∧ v = .agg (l.map byteV).toArray then some (.lit (.string h.choose), []) else none
theorem secElem_mk (l : List UInt8) (hl : l.length = 64) : secElem (.agg (l.map byteV).toArray) = some (.lit (.string l), []) := by
  have h : ∃ l' : List UInt8, l'.length = 64 ∧ (.agg (l.map byteV).toArray : Value) = .agg (l'.map byteV).toArray := ⟨l, hl, rfl⟩
  unfold secElem
  rw [dif_pos h]
  have e := h.choose_spec.2
  injection e with e
  have e2 := bytes_inj (List.toArray_inj e)
  exact congrArg (fun l' => some (DataW.lit (Lit.string l'), [])) e2.symm
theorem secElem_inv {v : Value} {z : DataW Unit × List MemPlace} (h : secElem v = some z) : ∃ l : List UInt8, l.length = 64 ∧ v = .agg (l.map byteV).toArray ∧ z = (.lit (.string l), []) := by
  unfold secElem at h
  split at h
  · rename_i hx
    injection h with h
    exact ⟨hx.choose, hx.choose_spec.1, hx.choose_spec.2, h.symm⟩
  · cases h

/-- A disk in memory: the fuse, the bytes, the map of what is durable. -/
structure Dk (w : World) (fb cb mb db sz : Nat) (a : Bool) (k : Int) (bs : List UInt8) (n : Nat) (D : DataW Unit) : Prop where
  d : Mem w db TD [ptr fb, .slice (some ⟨cb, 0, none⟩) (64 * sz : Nat) (64 * sz : Nat), .map (some mb)]
  f : Mem w fb TF [.bool a, .int .i64 k]
  c : Mem w cb TB (bs.map byteV)
  m : w.ownsMap Try.prog TN secElem mb n D
  len : bs.length = 64 * sz
  most : sz ≤ 65536
  kin : 0 ≤ k ∧ k ≤ 9223372036854775807

section
variable {w w' : World} {fb cb mb db sz : Nat} {a : Bool} {k : Int} {bs : List UInt8} {n : Nat} {D : DataW Unit}
theorem _root_.Crv.Mem.ne {w : World} {g g' : Nat} {t t' : TypeId} {cs cs' : List Value} (h : Mem w g t cs) (h' : Mem w g' t' cs') (ht : t ≠ t') : g ≠ g' := by
  rintro rfl
  unfold Mem at h h'
  rw [h] at h'
  injection h' with h'
  injection h' with _ h2
  exact ht h2
theorem _root_.Crv.Mem.ne_map {w : World} {g b n : Nat} {t : TypeId} {cs : List Value} {D : DataW Unit} {R : Value → Option (DataW Unit × List MemPlace)} {q : TypeId} (h : Mem w g t cs) (h' : w.ownsMap Try.prog q R b n D) : g ≠ b := by
  rintro rfl
  obtain ⟨es, clock, hb, _⟩ := h'
  unfold Mem at h
  rw [h] at hb
  cases hb
theorem Dk.df (h : Dk w fb cb mb db sz a k bs n D) : db ≠ fb := h.d.ne h.f (by decide)
theorem Dk.dc (h : Dk w fb cb mb db sz a k bs n D) : db ≠ cb := h.d.ne h.c (by decide)
theorem Dk.dm (h : Dk w fb cb mb db sz a k bs n D) : db ≠ mb := h.d.ne_map h.m
theorem Dk.fc (h : Dk w fb cb mb db sz a k bs n D) : fb ≠ cb := h.f.ne h.c (by decide)
theorem Dk.fm (h : Dk w fb cb mb db sz a k bs n D) : fb ≠ mb := h.f.ne_map h.m
theorem Dk.cm (h : Dk w fb cb mb db sz a k bs n D) : cb ≠ mb := h.c.ne_map h.m
theorem Dk.only {S : List Nat} (h : Dk w fb cb mb db sz a k bs n D) (ho : Only S w w') (h1 : db ∉ S) (h2 : fb ∉ S) (h3 : cb ∉ S) (h4 : mb ∉ S) : Dk w' fb cb mb db sz a k bs n D :=
  ⟨ho.mem h.d h1, ho.mem h.f h2, ho.mem h.c h3, by
    have hlt := h.m.lt
    obtain ⟨es, clock, hb, r⟩ := h.m
    exact ⟨es, clock, (ho.2 _ hlt h4).trans hb, r⟩, h.len, h.most, h.kin⟩
theorem Dk.below (h : Dk w fb cb mb db sz a k bs n D) (ho : Below w.heap.size w w') : Dk w' fb cb mb db sz a k bs n D :=
  h.only (Only.of_below (S := []) ho) (by simp) (by simp) (by simp) (by simp)
theorem Dk.drew (h : Dk w fb cb mb db sz a k bs n D) : Dk w.drew fb cb mb db sz a k bs n D := ⟨h.d, h.f, h.c, h.m, h.len, h.most, h.kin⟩

theorem size_any (h : Dk w fb cb mb db sz a k bs n D) :
    Calls Try.prog 26 #[ptr db] w fun e w' => e = .returned (.int .i64 (sz : Int)) ∧ w = w' := by
  have c1 : w.cell? ⟨db, 1, none⟩ = some (.slice (some ⟨cb, 0, none⟩) (64 * sz : Nat) (64 * sz : Nat)) := h.d.cell 1
  have hm := h.most
  clear h
  go_enter Try.func26, Try.ntmps26
  go_wp2
  go_ret
  exact ⟨rfl, rfl⟩

/-- Are there n sectors from at on? -/
def hasS (sz : Nat) (at_ n : Int) : Bool := decide (0 ≤ at_) && decide (0 ≤ n) && decide (n ≤ sz - at_)
theorem has_any (at_ n' : Int) (ha : at_ ≤ 9223372036854775807) (h : Dk w fb cb mb db sz a k bs n D) :
    Calls Try.prog 33 #[ptr db, .int .i64 at_, .int .i64 n'] w fun e w' => e = .returned (.bool (hasS sz at_ n')) ∧ w = w' := by
  have hsize := Lib.hid (size_any h)
  have hm := h.most
  clear h
  unfold hasS
  by_cases h1 : 0 ≤ at_
  · by_cases h2 : 0 ≤ n'
    · have e1 : decide (0 ≤ at_) = true := by simpa using h1
      have e2 : decide (0 ≤ n') = true := by simpa using h2
      rw [e1, e2]
      go_enter Try.func33, Try.ntmps33
      go_wp2_with fail
      refine hsize.out.mono ?_
      rintro e w1 ⟨rfl, rfl⟩
      go_wp2
      go_ret
      exact ⟨rfl, rfl⟩
    · have e1 : decide (0 ≤ at_) = true := by simpa using h1
      have e2 : decide (0 ≤ n') = false := by simpa using h2
      rw [e1, e2]
      clear h2
      go_enter Try.func33, Try.ntmps33
      go_wp2
      go_ret
      exact ⟨rfl, rfl⟩
  · have e1 : decide (0 ≤ at_) = false := by simpa using h1
    rw [e1]
    clear h1
    go_enter Try.func33, Try.ntmps33
    go_wp2
    go_ret
    exact ⟨rfl, rfl⟩

/-- A call that the fuse lets through, and what is left of the fuse. -/
def okS (a : Bool) (k : Int) : Bool := !a || decide (k ≠ 0)
def leftS (a : Bool) (k : Int) : Int := if a = true ∧ k ≠ 0 then k - 1 else k
theorem spend_any (h : Dk w fb cb mb db sz a k bs n D) :
    Calls Try.prog 34 #[ptr fb] w fun e w' => e = .returned (.bool (okS a k)) ∧ Dk w' fb cb mb db sz a (leftS a k) bs n D ∧ Only [fb, cb, mb] w w' ∧ w'.heap.size = w.heap.size := by
  have c0 : w.cell? ⟨fb, 0, none⟩ = some (.bool a) := h.f.cell 0
  have c1 : w.cell? ⟨fb, 1, none⟩ = some (.int .i64 k) := h.f.cell 1
  have f1 := h.f.frozen 1
  have hk := h.kin
  have H := Lib.hid h
  clear h
  cases a with
  | false =>
    go_enter Try.func34, Try.ntmps34
    go_wp2
    go_ret
    exact ⟨rfl, H.out, Only.refl _ _, rfl⟩
  | true =>
    by_cases hz : k = 0
    · subst hz
      go_enter Try.func34, Try.ntmps34
      go_wp2
      go_ret
      exact ⟨rfl, H.out, Only.refl _ _, rfl⟩
    · have hd : ((k : Int) == 0) = false := by simpa using hz
      have HL := Lib.hid (show leftS true k = k - 1 by simp [leftS, hz])
      have HO := Lib.hid (show okS true k = true by simp [okS, hz])
      clear hz
      go_enter Try.func34, Try.ntmps34
      go_wp2
      go_ret
      rw [HL.out, HO.out]
      have h := H.out
      have hk0 : k ≠ 0 := by simpa using hd
      exact ⟨rfl, ⟨h.d.other h.df _, h.f.set 1 _, h.c.other h.fc.symm _, h.m.setCell h.fm.symm _, h.len, h.most, by omega, by omega⟩,
        ⟨⟨rfl, rfl, rfl, by simp [World.setCell], fun i hi => by omega⟩, fun i _ hn => Below.heap_setCell _ _ _ _ (fun e => hn (by rw [e]; simp))⟩, by simp [World.setCell]⟩

theorem sector_any (i : Nat) (hi : i < sz) (h : Dk w fb cb mb db sz a k bs n D) :
    Calls Try.prog 37 #[ptr db, .int .i64 (i : Int)] w fun e w' => e = .returned (.slice (some ⟨cb, 64 * i, none⟩) 64 (64 * sz - 64 * i)) ∧ w = w' := by
  have c1 : w.cell? ⟨db, 1, none⟩ = some (.slice (some ⟨cb, 0, none⟩) (64 * sz : Nat) (64 * sz : Nat)) := h.d.cell 1
  have hm := h.most
  clear h
  go_enter Try.func37, Try.ntmps37
  go_wp2
  go_ret
  have e1 : i * 64 = 64 * i := by omega
  have e2 : (i + 1) * 64 - 64 * i = 64 := by omega
  refine ⟨?_, rfl⟩
  show Ending.returned (Value.slice (some { block := cb, off := i * 64 }) ((i + 1) * 64 - i * 64) (64 * sz - i * 64)) = _
  rw [e1, e2]
end
end Go.Proofs.Ytjmmbafpiahhiaa

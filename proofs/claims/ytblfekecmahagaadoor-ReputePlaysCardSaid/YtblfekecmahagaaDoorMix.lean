/-
  hash.mix: the contract.
-/
import Derived.Test.YtblfekecmahagaaDoorSched
import Derived.Deep.Light
namespace Go.Proofs.YtblfekecmahagaaDoor
open Go.RowKit Crv

/-- A variable's block holds these cells. -/
def Laid (w : World) (g : Nat) (cs : List Value) : Prop := ∃ t fr, w.heap[g]? = some (.cells cs.toArray t fr)
theorem Laid.lt {w : World} {g : Nat} {cs : List Value} (h : Laid w g cs) : g < w.heap.size := by
  obtain ⟨t, fr, h⟩ := h
  exact (Array.getElem?_eq_some_iff.1 h).1
theorem Laid.cell {w : World} {g : Nat} {cs : List Value} (h : Laid w g cs) (i : Nat) : w.cell? ⟨g, i, none⟩ = cs[i]? := by
  obtain ⟨t, fr, h⟩ := h
  simp [World.cell?, h]
theorem Laid.below {w w' : World} {g B : Nat} {cs : List Value} (h : Laid w g cs) (hb : Below B w w') (hg : g < B) : Laid w' g cs := by
  obtain ⟨t, fr, h⟩ := h
  exact ⟨t, fr, (hb.block g hg).trans h⟩
theorem Laid.grown {w w' : World} {g : Nat} {cs : List Value} {row : Option Nat} (h : Laid w g cs) (hg : w.grownBy w' row) (hne : some g ≠ row) : Laid w' g cs := by
  have hl := h.lt
  obtain ⟨t, fr, h⟩ := h
  exact ⟨t, fr, (hg.block g hl hne).trans h⟩
theorem Laid.alloc {w : World} {g : Nat} {cs : List Value} (h : Laid w g cs) (o : Obj) : Laid (w.alloc o) g cs := h.below ((Below.refl w.heap.size w).alloc (Nat.le_refl _) o) h.lt
/-- What the two listed variables of package hash hold. -/
def Consts (w : World) : Prop := Laid w 0 (init.list.map wordV) ∧ Laid w 1 (keyList.map wordV)

theorem Consts.below {w w' : World} (h : Consts w) (hb : Below w.heap.size w w') : Consts w' := ⟨h.1.below hb h.1.lt, h.2.below hb h.2.lt⟩
theorem Consts.grown {w w' : World} {b : Nat} (h : Consts w) (hg : w.grownBy w' (some b)) (hb : 2 ≤ b) : Consts w' :=
  ⟨h.1.grown hg (fun e => by injection e with e; omega), h.2.grown hg (fun e => by injection e with e; omega)⟩
theorem Consts.key {w : World} (h : Consts w) (k : Nat) (hk : k < 64) : w.cell? ⟨1, k, none⟩ = some (.int .u32 (key k : Nat)) := by
  rw [h.2.cell k, List.getElem?_map, Crv.key, List.getD_eq_getElem?_getD, List.getElem?_eq_getElem (by simpa [keyList] using hk)]
  rfl

theorem and_u32 (a b : Nat) (ha : a < 4294967296) (hb : b < 4294967296) : bits .and .u32 (a : Int) (b : Int) = ((a &&& b : Nat) : Int) := u32_and_nat a b ha hb
theorem not_nat (a : Nat) (ha : a < 4294967296) : 4294967295 ^^^ a = 4294967295 - a := by
  have h := congrArg BitVec.toNat (BitVec.allOnes_xor (x := BitVec.ofNat 32 a))
  rw [BitVec.toNat_xor, BitVec.toNat_not, BitVec.toNat_allOnes, BitVec.toNat_ofNat, Nat.mod_eq_of_lt (by omega)] at h
  omega
theorem not_u32 (a : Nat) (ha : a < 4294967296) : bits .xor .u32 IntKind.u32.max (a : Int) = ((4294967295 - a : Nat) : Int) := by
  have e : IntKind.u32.max = ((4294967295 : Nat) : Int) := by decide
  rw [e, xor_u32 _ _ (by omega) ha]
  rw [not_nat a ha]
theorem ch_bits (e f g : Nat) (he : e < 4294967296) (hf : f < 4294967296) (hg : g < 4294967296) :
    bits .xor .u32 (bits .and .u32 (e : Int) (f : Int)) (bits .and .u32 (bits .xor .u32 IntKind.u32.max (e : Int)) (g : Int)) = ((ch e f g : Nat) : Int) := by
  rw [not_u32 e he, and_u32 _ _ he hf, and_u32 _ _ (by omega) hg, xor_u32 _ _ (and_lt hf) (and_lt hg)]
  rfl
theorem maj_bits (a b c : Nat) (ha : a < 4294967296) (hb : b < 4294967296) (hc : c < 4294967296) :
    bits .xor .u32 (bits .xor .u32 (bits .and .u32 (a : Int) (b : Int)) (bits .and .u32 (a : Int) (c : Int))) (bits .and .u32 (b : Int) (c : Int)) = ((maj a b c : Nat) : Int) := by
  rw [and_u32 _ _ ha hb, and_u32 _ _ ha hc, and_u32 _ _ hb hc, xor_u32 _ _ (and_lt hb) (and_lt hc), xor_u32 _ _ (xor_lt (and_lt hb) (and_lt hc)) (and_lt hc)]
  rfl

theorem round_a (S : St) (k w : Nat) : (((S.h : Int) + ((rotr 6 S.e ^^^ rotr 11 S.e ^^^ rotr 25 S.e : Nat) : Int) + (ch S.e S.f S.g : Int) + (k : Int) + (w : Int)) % 4294967296 + (((rotr 2 S.a ^^^ rotr 13 S.a ^^^ rotr 22 S.a : Nat) : Int) + (maj S.a S.b S.c : Int)) % 4294967296) % 4294967296 = ((round S k w).a : Int) := by
  simp only [round, t1, t2, bs0, bs1]; omega
theorem round_e (S : St) (k w : Nat) : ((S.d : Int) + ((S.h : Int) + ((rotr 6 S.e ^^^ rotr 11 S.e ^^^ rotr 25 S.e : Nat) : Int) + (ch S.e S.f S.g : Int) + (k : Int) + (w : Int)) % 4294967296) % 4294967296 = ((round S k w).e : Int) := by
  simp only [round, t1, bs1]; omega

theorem plus_cells (s S : St) : Value.agg #[.int .u32 (((s.a : Int) + (S.a : Int)) % 4294967296), .int .u32 (((s.b : Int) + (S.b : Int)) % 4294967296), .int .u32 (((s.c : Int) + (S.c : Int)) % 4294967296), .int .u32 (((s.d : Int) + (S.d : Int)) % 4294967296),
    .int .u32 (((s.e : Int) + (S.e : Int)) % 4294967296), .int .u32 (((s.f : Int) + (S.f : Int)) % 4294967296), .int .u32 (((s.g : Int) + (S.g : Int)) % 4294967296), .int .u32 (((s.h : Int) + (S.h : Int)) % 4294967296)] = .agg ((s.plus S).list.map wordV).toArray := by
  simp [St.plus, St.list, wordV]

/-- The memory of the call: the words, the block's bytes, the result's cells. -/
def MixMem (w0 : World) (s : St) (m : List UInt8) (w : World) : Prop :=
  Below w0.heap.size w0 w ∧ w0.heap.size + 1 + 1 + 1 ≤ w.heap.size ∧ Mem w w0.heap.size 89 (s.list.map wordV) ∧ Mem w (w0.heap.size + 1) 90 (m.map byteV) ∧
    Mem w (w0.heap.size + 1 + 1) 89 (List.replicate 8 (wordV 0))
def zero8 : Array Value := #[.int .u32 0, .int .u32 0, .int .u32 0, .int .u32 0, .int .u32 0, .int .u32 0, .int .u32 0, .int .u32 0]
theorem MixMem.start (w : World) (s : St) (m : List UInt8) : MixMem w s m (((w.alloc (.cells (s.list.map wordV).toArray 89)).alloc (.cells (m.map byteV).toArray 90)).alloc
    (.cells #[.int .u32 0, .int .u32 0, .int .u32 0, .int .u32 0, .int .u32 0, .int .u32 0, .int .u32 0, .int .u32 0] 89)) := by
  refine ⟨(((Below.refl _ _).alloc (Nat.le_refl _) _).alloc (by simp) _).alloc (by simp; omega) _, by simp, ((Mem.new w _ _).alloc _).alloc _, ?_, ?_⟩
  · exact (Mem.newAt (w.alloc (.cells (s.list.map wordV).toArray 89)) 90 (m.map byteV) (by simp)).alloc _
  · exact Mem.newAt ((w.alloc (.cells (s.list.map wordV).toArray 89)).alloc (.cells (m.map byteV).toArray 90)) 89 (List.replicate 8 (wordV 0)) (by simp)
theorem MixMem.drewN {w0 w : World} {s : St} {m : List UInt8} (h : MixMem w0 s m w) (n : Nat) : MixMem w0 s m (w.drewN n) := ⟨below_drewN h.1 n, h.2⟩
theorem MixMem.below {w0 w w' : World} {s : St} {m : List UInt8} (h : MixMem w0 s m w) (hb : Below w.heap.size w w') : MixMem w0 s m w' := by
  obtain ⟨h1, h2, h3, h4, h5⟩ := h
  exact ⟨h1.trans (hb.mono h1.size), Nat.le_trans h2 hb.size, h3.below hb h3.lt, h4.below hb h4.lt, h5.below hb h5.lt⟩
theorem MixMem.words {w0 w : World} {s : St} {m : List UInt8} (h : MixMem w0 s m w) :
    w.cell? ⟨w0.heap.size, 0, none⟩ = some (.int .u32 s.a) ∧ w.cell? ⟨w0.heap.size, 1, none⟩ = some (.int .u32 s.b) ∧ w.cell? ⟨w0.heap.size, 2, none⟩ = some (.int .u32 s.c) ∧ w.cell? ⟨w0.heap.size, 3, none⟩ = some (.int .u32 s.d) ∧
    w.cell? ⟨w0.heap.size, 4, none⟩ = some (.int .u32 s.e) ∧ w.cell? ⟨w0.heap.size, 5, none⟩ = some (.int .u32 s.f) ∧ w.cell? ⟨w0.heap.size, 6, none⟩ = some (.int .u32 s.g) ∧ w.cell? ⟨w0.heap.size, 7, none⟩ = some (.int .u32 s.h) := by
  have h3 := h.2.2.1
  refine ⟨?_, ?_, ?_, ?_, ?_, ?_, ?_, ?_⟩ <;> rw [h3.cell] <;> rfl

set_option maxHeartbeats 1000000 in
set_option maxRecDepth 100000 in
theorem mix_any (s : St) (m : List UInt8) (w : World) (hs : s.ok) (hm : m.length = 64) (hc : Consts w) :
    Calls Tryd.prog 59 #[.agg (s.list.map wordV).toArray, .agg (m.map byteV).toArray] w fun e w' => e = .returned (.agg ((mix s m).list.map wordV).toArray) ∧ Below w.heap.size w w' := by
  have HM := Lib.hid hm
  have HC := Lib.hid hc
  clear hm hc
  have hst := MixMem.start w s m
  go_enter Tryd.func59, Tryd.ntmps59
  go_wp2_with fail
  revert hst
  generalize ((w.alloc (.cells (s.list.map wordV).toArray 89)).alloc (.cells (m.map byteV).toArray 90)).alloc
    (.cells #[.int .u32 0, .int .u32 0, .int .u32 0, .int .u32 0, .int .u32 0, .int .u32 0, .int .u32 0, .int .u32 0] 89) = W
  intro hst
  obtain ⟨c0, c1, c2, c3, c4, c5, c6, c7⟩ := hst.words
  go_quiet (fail)
  go_wp2
  go_quiet (fail)
  have sz1 : (Tryd.prog.info? 90).map (·.size) = some (m.map byteV).length := by rw [List.length_map, HM.out]; kernel_rfl
  go_wp2_with (first
    | (refine wp_load_mem (by exact hst.2.2.2.1) 90 (.tmp 3) (.array 64 5) rfl rfl rfl Tryd.underlying90 rfl sz1 ?_)
    | fail)
  refine (schedule_any m _ HM.out).mono ?_
  rintro e w1 ⟨rfl, hb⟩
  have hm1 : MixMem w s m w1 := MixMem.below (hst.drewN _) hb
  clear hst c0 c1 c2 c3 c4 c5 c6 c7 hb
  obtain ⟨ws, hws⟩ : ∃ ws, ws = schedule m := ⟨_, rfl⟩
  rw [← hws]
  have HWS := Lib.hid hws
  clear hws
  go_wp2
  go_loopw [5, 6, 7, 8, 9, 10, 11, 12, 37] (fun a b c d e f g h i wr => ∃ k : Nat, k ≤ 64 ∧ i = .int .i64 k ∧ a = .int .u32 (rounds ws s k).a ∧ b = .int .u32 (rounds ws s k).b ∧ c = .int .u32 (rounds ws s k).c ∧ d = .int .u32 (rounds ws s k).d ∧
      e = .int .u32 (rounds ws s k).e ∧ f = .int .u32 (rounds ws s k).f ∧ g = .int .u32 (rounds ws s k).g ∧ h = .int .u32 (rounds ws s k).h ∧ MixMem w s m wr) (fun _ _ _ _ _ _ _ _ i _ => 64 - (intOf i).toNat)
  case atStart => exact ⟨0, by omega, rfl, rfl, rfl, rfl, rfl, rfl, rfl, rfl, rfl, hm1⟩
  case round =>
    clear hm1
    obtain ⟨k, hk, rfl, rfl, rfl, rfl, rfl, rfl, rfl, rfl, rfl, hmem⟩ := hrel
    by_cases hlt : k < 64
    · have HR := Lib.hid (show rounds ws s (k + 1) = round (rounds ws s k) (key k) (ws.getD k 0) from rfl)
      have hok := rounds_ok hs ws k
      revert HR hok
      generalize rounds ws s k = S
      intro HR hok
      have HMEM := Lib.hid hmem
      clear hmem
      obtain ⟨la, lb, lc, ld, le_, lf, lg, lh⟩ := ok_iff.1 hok
      have hkey := (HC.out.below HMEM.out.1).key k hlt
      have hd : decide ((k : Int) < 64) = true := by simp; omega
      obtain ⟨wk, hwk⟩ : ∃ x, x = ws.getD k 0 := ⟨_, rfl⟩
      have hix := fun W => run_index_agg (P := Tryd.prog) 118 77 64 (ws.map wordV) .u32 .i64 k (.int .u32 wk) Tryd.underlying118 Tryd.underlying77 (by kernel_rfl) hlt (by rw [hwk, List.getElem?_map, List.getD_eq_getElem?_getD, List.getElem?_eq_getElem (by rw [HWS.out, length_schedule]; exact hlt)]; rfl) W
      have hch := ch_bits S.e S.f S.g le_ lf lg
      have hmaj := maj_bits S.a S.b S.c la lb lc
      have HWK := Lib.hid hwk
      clear hwk
      go_wp2
      go_quiet ((go_at_call 69; exact quiet_here (rotations_int S.e _ _ _ _ le_ (by decide) (by decide) (by decide) (by decide) (by decide) (by decide))))
      go_wp2_with fail
      refine (rotations_int S.a _ _ _ _ la (by decide) (by decide) (by decide) (by decide) (by decide) (by decide)).mono ?_
      rintro e w2 ⟨rfl, rfl⟩
      go_wp2
      go_roundw
      case rel =>
        refine ⟨k + 1, by omega, by go_num, ?_⟩
        rw [HR.out, ← HWK.out]
        exact ⟨congrArg (Value.int .u32) (round_a S (key k) wk), rfl, rfl, rfl, congrArg (Value.int .u32) (round_e S (key k) wk), rfl, rfl, rfl, HMEM.out.drewN _⟩
      case measure => simp [intOf]; omega
    · have e64 : k = 64 := by omega
      subst e64
      have hm := show mix s m = s.plus (rounds ws s 64) by rw [HWS.out]; rfl
      have hok := rounds_ok hs ws 64
      have HX := Lib.hid hm
      clear hm
      revert HX hok
      generalize rounds ws s 64 = S
      intro hok HX
      obtain ⟨c0, c1, c2, c3, c4, c5, c6, c7⟩ := hmem.words
      have HMEM := Lib.hid hmem
      clear hmem
      have sz8 : (Tryd.prog.info? 89).map (·.size) = some ((mix s m).list.map wordV).length := by rw [List.length_map]; kernel_rfl
      go_wp2_with (first
        | (refine wp_store_mem HMEM.out.2.2.2.2 ((mix s m).list.map wordV) 89 (.tmp 4) (.tmp 121) rfl rfl rfl ?_ sz8 ?_ ?_ ?_)
        | fail)
      · rw [HX.out]
        exact plus_cells s S
      · simp [St.list]
      · intro v hv
        obtain ⟨x, _, rfl⟩ := List.mem_map.1 hv
        rfl
      · exact bodyPost_ret (v := .agg ((mix s m).list.map wordV).toArray) (results_mem (HMEM.out.2.2.2.2.setRow _) rfl _ (.array 8 77) rfl Tryd.underlying89 rfl sz8) rfl ⟨rfl, below_row HMEM.out.1 (by omega) _⟩
end Go.Proofs.YtblfekecmahagaaDoor

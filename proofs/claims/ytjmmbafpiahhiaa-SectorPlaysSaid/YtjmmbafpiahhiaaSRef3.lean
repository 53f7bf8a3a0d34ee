/-
  The document's disk: sure, Sync.
-/
import Derived.Test.YtjmmbafpiahhiaaSRef2
import Derived.Test.YtjmmbafpiahhiaaApa
import Derived.Deep.Cut
namespace Go.Proofs.Ytjmmbafpiahhiaa
open Go.RowKit Go.Maps Crv
theorem sowns_none (w : World) (T : TypeId) {g B : Nat} (hg : g = w.heap.size) (hB : B ≤ g) : Owns (w.alloc (.cells #[] T)) B T (.slice (some ⟨g, 0, none⟩) 0 0) [] :=
  Owns.of_mem (Mem.newAt w T [] hg) hB 0 0 (Nat.le_refl _) rfl (Nat.zero_le _) rfl
theorem stext_info : ∃ i, Try.prog.info? 9 = some i ∧ i.zero = some (.string ⟨#[]⟩) ∧ i.size = 1 ∧ i.bytes = 16 := info_of (by kernel_rfl)
theorem sbool_info : ∃ i, Try.prog.info? 4 = some i ∧ i.zero = some (.bool false) ∧ i.size = 1 ∧ i.bytes = 1 := info_of (by kernel_rfl)
theorem make_bools (n : Nat) (hm : n ≤ 1099511627776) (w : World) : (Instr.makeSlice 27 (.int .i64 n) (.int .i64 n)).run Try.prog w = .ok (.slice (some ⟨w.heap.size, 0, none⟩) n n) (w.alloc (.cells (List.replicate n (Value.bool false)).toArray 4)) := by
  obtain ⟨i, hi, hz, hs, hb⟩ := sbool_info
  have hr := run_make (P := Try.prog) w 27 4 i (.bool false) Try.underlying27 hi hz .i64 .i64 n n (by omega) (by omega) (by rw [hb]; omega) (by omega)
  simp only [Int.toNat_natCast, hs, Nat.mul_one] at hr
  have e : (madeCells (Value.bool false).cells n) = (List.replicate n (Value.bool false)).toArray := by
    rw [← toList_madeCells_one]; rfl
  rw [hr, e]
theorem sowns_base {w : World} {B B' : Nat} {e : TypeId} {v : Value} {xs : List Value} (h : Owns w B e v xs) (hb : B' ≤ B) : Owns w B' e v xs := by
  refine ⟨h.1, ?_⟩
  rcases h.2 with h0 | ⟨g, cap, cur, rfl, h1, h2⟩
  · exact .inl h0
  · exact .inr ⟨g, cap, cur, rfl, Nat.le_trans hb h1, h2⟩
theorem _root_.Crv.Owns.lowCell {w : World} {B g i : Nat} {e : TypeId} {v u : Value} {xs : List Value} (h : Owns w B e v xs) (hg : g < B) : Owns (w.setCell ⟨g, i, none⟩ u) B e v xs :=
  h.of_below fun b hb => Below.heap_setCell _ _ _ _ (fun e => by have e' : b = g := e; have := (h.lt b hb).2; omega)
theorem put4 {w : World} {g : Nat} {t : TypeId} {x0 x1 x2 x3 : Value} (h : Mem w g t [x0, x1, x2, x3]) (y0 y1 y2 y3 : Value) : Mem ((((w.setCell ⟨g, 0, none⟩ y0).setCell ⟨g, 1, none⟩ y1).setCell ⟨g, 2, none⟩ y2).setCell ⟨g, 3, none⟩ y3) g t [y0, y1, y2, y3] :=
  (((h.set 0 _).set 1 _).set 2 _).set 3 _
theorem below_put4 {B g : Nat} {w0 w : World} (hb : Below B w0 w) (hB : B ≤ g) (y0 y1 y2 y3 : Value) : Below B w0 ((((w.setCell ⟨g, 0, none⟩ y0).setCell ⟨g, 1, none⟩ y1).setCell ⟨g, 2, none⟩ y2).setCell ⟨g, 3, none⟩ y3) := by
  have one : ∀ (w : World), Below B w0 w → ∀ i u, Below B w0 (w.setCell ⟨g, i, none⟩ u) := fun w hb i u => ⟨hb.os, hb.tape, hb.output, by simpa [World.setCell] using hb.size, fun k hk => (Below.heap_setCell w _ u k (fun e => by have e' : k = g := e; omega)).trans (hb.block k hk)⟩
  exact one _ (one _ (one _ (one _ hb 0 _) 1 _) 2 _) 3 _
theorem owns_put4 {w : World} {B g : Nat} {e : TypeId} {v : Value} {xs : List Value} (h : Owns w B e v xs) (hg : g < B) (y0 y1 y2 y3 : Value) : Owns ((((w.setCell ⟨g, 0, none⟩ y0).setCell ⟨g, 1, none⟩ y1).setCell ⟨g, 2, none⟩ y2).setCell ⟨g, 3, none⟩ y3) B e v xs :=
  (((h.lowCell hg).lowCell hg).lowCell hg).lowCell hg
theorem below_cell {B g : Nat} {w0 w : World} (hb : Below B w0 w) (hB : B ≤ g) (i : Nat) (u : Value) : Below B w0 (w.setCell ⟨g, i, none⟩ u) :=
  ⟨hb.os, hb.tape, hb.output, by simpa [World.setCell] using hb.size, fun k hk => (Below.heap_setCell w _ u k (fun e => by have e' : k = g := e; omega)).trans (hb.block k hk)⟩
theorem Bx.app {w0 W W' : World} {d r : List Value} {o : Obj} {g n c : Nat} (h : Bx w0 W d r) (hg : (W.alloc o).grownBy W' (Value.ownBlock (.slice (some ⟨g, 0, none⟩) n c))) (hgl : w0.heap.size + 1 < g) : Bx w0 W' d r := by
  have hg' : (W.alloc o).grownBy W' (some g) := hg
  exact ⟨(h.d.alloc _).grown hg' (fun e => by injection e with e; omega), (h.r.alloc _).grown hg' (fun e => by injection e with e; omega), belowNew (belowThen h.b (belowSelf _ _)) hg' (by omega)⟩
set_option maxRecDepth 100000 in
set_option maxHeartbeats 600000 in
theorem rsure_any (b1 b2 b3 a1 : Option Addr) (e1 e2 e3 m c1 : Nat) (f : Int) (ls : List (List UInt8)) (B : Nat) (w : World) (hl : Owns w B TS (.slice a1 ls.length c1) (ls.map tx)) (hn : ls.length ≤ 65536) :
    Calls Try.prog 38 #[.agg (rdC b1 b2 b3 e1 e2 e3 m f).toArray, .slice a1 ls.length c1] w fun e w' => ∃ a2 c2 a3 c3, e = .returned (.agg (rdC a1 a2 a3 c1 c2 c3 ls.length f).toArray) ∧ Owns w' w.heap.size TS (.slice a2 ls.length c2) (ls.map tx) ∧ Owns w' w.heap.size TBo (.slice a3 ls.length c3) (List.replicate ls.length (.bool false)) ∧ Below w.heap.size w w' := by
  obtain ⟨tt, htt, htz, hts, htb⟩ := stext_info
  have HTT := Lib.hid htt
  have HTZ := Lib.hid htz
  have HTS := Lib.hid hts
  have HTB := Lib.hid (show tt.bytes ≤ 64 by omega)
  have hmk := fun W => make_bools ls.length (by omega) W
  have HX1 := Lib.hid (Bx.new w [.slice a1 ls.length c1, .slice b2 m e2, .slice b3 m e3, .int .i64 f] zRd)
  have HOL := Lib.hid (hl.below (belowThen HX1.out.b (belowSelf _ (.cells #[] TS))))
  have HO1 := Lib.hid (sowns_none ((w.alloc (.cells #[.slice a1 ls.length c1, .slice b2 m e2, .slice b3 m e3, .int .i64 f] TRd)).alloc (.cells zRd.toArray TRd)) TS (g := w.heap.size + 1 + 1) (B := w.heap.size + 1 + 1) (by simp) (Nat.le_refl _))
  have HLE := Lib.hid (show ([] : List Value).length + (ls.map tx).length ≤ 1099511627776 by simp; omega)
  have HBS := Lib.hid (show w.heap.size + 1 + 1 ≤ (((w.alloc (.cells #[.slice a1 ls.length c1, .slice b2 m e2, .slice b3 m e3, .int .i64 f] TRd)).alloc (.cells zRd.toArray TRd)).alloc (.cells #[] TS)).heap.size by simp)
  clear htt htz hts htb hl
  go_enter Try.func38, Try.ntmps38
  go_upto_region 3 with (first
    | (at_builtin; refine swp_append_all (base := w.heap.size + 1 + 1) HO1.out HOL.out (.tmp 7) (.tmp 8) 26 tt (.string ⟨#[]⟩) rfl rfl Try.underlying26 HTT.out HTZ.out HTS.out HTB.out rfl rfl rfl (sone_txs ls) HLE.out HBS.out ?_
       intro v2 w2 ho2 hg2
       have HX2 := Lib.hid (HX1.out.app hg2 (Nat.lt_succ_self _))
       obtain ⟨a2, c2, hv2, -, -, -⟩ := ho2.form
       rw [List.nil_append, List.length_map] at hv2
       subst hv2
       have HO2 := Lib.hid ho2
       obtain ⟨⟨k0, g0⟩, ⟨k1, g1⟩, ⟨k2, g2⟩, ⟨k3, g3⟩⟩ := mem4 HX2.out.d
       obtain ⟨⟨r0, q0⟩, ⟨r1, q1⟩, ⟨r2, q2⟩, ⟨r3, q3⟩⟩ := mem4 HX2.out.r
       have hlt : w.heap.size + 1 < w2.heap.size := HX2.out.r.lt
       clear ho2 hg2)
    | fail)
  obtain ⟨W3, hW3⟩ : ∃ W, W = w2.setCell ⟨w.heap.size, 1, none⟩ (.slice a2 ls.length c2) := ⟨_, rfl⟩
  have HX3 := Lib.hid (show Bx w W3 [.slice a1 ls.length c1, .slice a2 ls.length c2, .slice b3 m e3, .int .i64 f] zRd by
    rw [hW3]
    exact HX2.out.setD (HX2.out.d.set 1 _) (below_cell HX2.out.b (Nat.le_refl _) _ _) (fun k hk => Below.heap_setCell _ _ _ _ (fun e => hk e)))
  have HO3 := Lib.hid (show Owns W3 (w.heap.size + 1 + 1) TS (.slice a2 ls.length c2) (ls.map tx) by
    rw [hW3]
    exact HO2.out.lowCell (by omega))
  rw [← hW3]
  clear hW3 k0 g0 k1 g1 k2 g2 k3 g3 r0 q0 r1 q1 r2 q2 r3 q3
  obtain ⟨⟨k0, g0⟩, ⟨k1, g1⟩, ⟨k2, g2⟩, ⟨k3, g3⟩⟩ := mem4 HX3.out.d
  obtain ⟨⟨r0, q0⟩, ⟨r1, q1⟩, ⟨r2, q2⟩, ⟨r3, q3⟩⟩ := mem4 HX3.out.r
  have hp1 : w.heap.size < W3.heap.size := HX3.out.d.lt
  have hp2 : w.heap.size + 1 < W3.heap.size := HX3.out.r.lt
  go_wp2_with fail
  have hm := (put4 (HX3.out.r.other (p := ⟨w.heap.size, 2, none⟩) (by simp) (.slice (some ⟨W3.heap.size, 0, none⟩) ls.length ls.length)) (.slice a1 ls.length c1) (.slice a2 ls.length c2) (.slice (some ⟨W3.heap.size, 0, none⟩) ls.length ls.length) (.int .i64 f)).alloc (.cells (Array.replicate ls.length (Value.bool false)) TBo)
  refine bodyPost_ret (results_mem hm rfl _ _ rfl Try.underlying29 rfl szRd) rfl ⟨a2, c2, some ⟨W3.heap.size, 0, none⟩, ls.length, rfl, ?_, ?_, ?_⟩
  · exact sowns_base ((owns_put4 (HO3.out.lowCell (by omega)) (by omega) _ _ _ _).alloc _) (by omega)
  · refine Owns.of_mem (Mem.newArr _ _ _ (by simp [World.setCell])) (by omega) _ _ (Nat.le_refl _) (by simp) (by simp only [maxLen]; omega) ?_
    rw [Array.toList_replicate, List.take_of_length_le (by simp)]
  · exact belowThen (below_put4 (below_cell HX3.out.b (Nat.le_refl _) _ _) (by omega) _ _ _ _) (belowSelf _ _)
end Go.Proofs.Ytjmmbafpiahhiaa

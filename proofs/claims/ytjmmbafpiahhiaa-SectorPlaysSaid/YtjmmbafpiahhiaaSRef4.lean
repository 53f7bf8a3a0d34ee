/-
  The document's disk: Sync.
-/
import Derived.Test.YtjmmbafpiahhiaaSRef3
namespace Go.Proofs.Ytjmmbafpiahhiaa
open Go.RowKit Go.Maps Crv
/-- The document's disk as a value. -/
def Rf (w : World) (v : Value) (sz : Nat) (bs : List UInt8) (du : Nat → Option (List UInt8)) (f : Int) : Prop := ∃ aS aN aL cS cN cL, v = .agg (rdC aS aN aL cS cN cL sz f).toArray ∧ Owns w 0 TS (.slice aS sz cS) ((rows (sureF bs du) sz).map tx) ∧ Owns w 0 TS (.slice aN sz cN) ((rows (nowF bs) sz).map tx) ∧ Owns w 0 TBo (.slice aL sz cL) ((rows (looseF du) sz).map .bool)
theorem Rf.below {w w' : World} {v : Value} {sz : Nat} {bs : List UInt8} {du : Nat → Option (List UInt8)} {f : Int} (h : Rf w v sz bs du f) (hb : Below w.heap.size w w') : Rf w' v sz bs du f := by
  obtain ⟨aS, aN, aL, cS, cN, cL, h1, h2, h3, h4⟩ := h
  exact ⟨aS, aN, aL, cS, cN, cL, h1, h2.below hb, h3.below hb, h4.below hb⟩
theorem rsure_n (b1 b2 b3 a1 : Option Addr) (e1 e2 e3 m c1 n : Nat) (f : Int) (ls : List (List UInt8)) (B : Nat) (w : World) (hl : Owns w B TS (.slice a1 n c1) (ls.map tx)) (hn : n ≤ 65536) (hlen : ls.length = n) :
    Calls Try.prog 38 #[.agg (rdC b1 b2 b3 e1 e2 e3 m f).toArray, .slice a1 n c1] w fun e w' => ∃ a2 c2 a3 c3, e = .returned (.agg (rdC a1 a2 a3 c1 c2 c3 n f).toArray) ∧ Owns w' w.heap.size TS (.slice a2 n c2) (ls.map tx) ∧ Owns w' w.heap.size TBo (.slice a3 n c3) (List.replicate n (.bool false)) ∧ Below w.heap.size w w' := by
  subst hlen
  exact rsure_any b1 b2 b3 a1 e1 e2 e3 m c1 f ls B w hl hn
theorem loose_none (n : Nat) : (rows (looseF (fun _ => none)) n).map Value.bool = List.replicate n (.bool false) := by
  rw [show looseF (fun _ => none) = fun _ => false from rfl, rows_const, List.map_replicate]
theorem sure_none' (bs : List UInt8) : sureF bs (fun _ => none) = nowF bs := rfl
theorem Bx.putR {w0 W : World} {d : List Value} {x0 x1 x2 x3 : Value} (h : Bx w0 W d [x0, x1, x2, x3]) (y0 y1 y2 y3 : Value) : Bx w0 ((((W.setCell ⟨w0.heap.size + 1, 0, none⟩ y0).setCell ⟨w0.heap.size + 1, 1, none⟩ y1).setCell ⟨w0.heap.size + 1, 2, none⟩ y2).setCell ⟨w0.heap.size + 1, 3, none⟩ y3) d [y0, y1, y2, y3] :=
  ⟨(((h.d.other (by simp) _).other (by simp) _).other (by simp) _).other (by simp) _, put4 h.r _ _ _ _, below_put4 h.b (Nat.le_succ _) _ _ _ _⟩
/-- A box that is there, whatever it holds. -/
def Bd (w0 : World) (d : List Value) (W : World) : Prop := ∃ r0 r1 r2 r3, Bx w0 W d [r0, r1, r2, r3]
theorem Bd.below {w0 W W' : World} {d : List Value} (h : Bd w0 d W) (hb : Below W.heap.size W W') : Bd w0 d W' := by
  obtain ⟨r0, r1, r2, r3, h⟩ := h
  exact ⟨r0, r1, r2, r3, h.below hb⟩
set_option maxRecDepth 100000 in
set_option maxHeartbeats 400000 in
theorem rsync_io (v : Value) (sz : Nat) (bs : List UInt8) (du : Nat → Option (List UInt8)) (w : World) (h : Rf w v sz bs du 0) :
    Calls Try.prog 29 #[v] w fun e w' => e = .returned (.tuple #[v, .int .i64 13]) ∧ Below w.heap.size w w' := by
  obtain ⟨a1, a2, a3, c1, c2, c3, rfl, -, -, -⟩ := h
  have HC := Lib.hid (fun W => rcall_any a1 a2 a3 c1 c2 c3 sz 0 W (by omega) (by omega))
  rw [decide_eq_true rfl, show leftF 0 = 0 from rfl] at HC
  have HX0 := Lib.hid (Bx.new w (rdC a1 a2 a3 c1 c2 c3 sz 0) zRd)
  go_enter Try.func29, Try.ntmps29
  go_wp2_with fail
  refine (HC.out _).mono ?_
  rintro e w2 ⟨rfl, hb2⟩
  have HX2 := Lib.hid (HX0.out.below hb2)
  clear hb2
  go_wp2_with (first
    | (refine wp_store_gen (B := w.heap.size) (w0 := w) HX2.out.b (Nat.le_refl _) HX2.out.d (rdC a1 a2 a3 c1 c2 c3 sz 0) TRd (.tmp 1) (.tmp 8) rfl rfl rfl rfl szRd rfl (oneRd a1 a2 a3 c1 c2 c3 sz 0) ?_
       intro W3 hm3 hb3 hz3 hk3
       have HX3 := Lib.hid (HX2.out.setD hm3 hb3 hk3)
       clear hm3 hb3 hz3 hk3)
    | (refine wp_load_mem HX3.out.d TRd (.tmp 1) _ rfl rfl rfl Try.underlying29 rfl szRd ?_)
    | (refine wp_store_gen (B := w.heap.size) (w0 := w) HX3.out.b (Nat.le_succ _) HX3.out.r (rdC a1 a2 a3 c1 c2 c3 sz 0) TRd (.tmp 2) (.tmp 11) rfl rfl rfl rfl szRd rfl (oneRd a1 a2 a3 c1 c2 c3 sz 0) ?_
       intro W4 hm4 hb4 hz4 hk4
       have HX4 := Lib.hid (HX3.out.setR hm4 hb4 hk4)
       clear hm4 hb4 hz4 hk4)
    | fail)
  exact bodyPost_ret (sres2 HX4.out.r rfl _ _ rfl Try.underlying29 rfl szRd) rfl ⟨rfl, HX4.out.b⟩
set_option maxRecDepth 100000 in
set_option maxHeartbeats 600000 in
theorem rsync_ok (v : Value) (sz : Nat) (bs : List UInt8) (du : Nat → Option (List UInt8)) (f : Int) (w : World) (h : Rf w v sz bs du f) (hs : sz ≤ 65536) (h0 : f ≠ 0) (hf : -1 ≤ f) (hf2 : f ≤ 9223372036854775807) :
    Calls Try.prog 29 #[v] w fun e w' => ∃ v', e = .returned (.tuple #[v', .int .i64 0]) ∧ Rf w' v' sz bs (fun _ => none) (leftF f) ∧ Below w.heap.size w w' := by
  obtain ⟨a1, a2, a3, c1, c2, c3, rfl, -, hN, -⟩ := h
  have HC := Lib.hid (fun W => rcall_any a1 a2 a3 c1 c2 c3 sz f W hf hf2)
  rw [decide_eq_false h0] at HC
  have HX0 := Lib.hid (Bx.new w (rdC a1 a2 a3 c1 c2 c3 sz f) zRd)
  have HN := Lib.hid hN
  obtain ⟨f', hf'⟩ : ∃ x, x = leftF f := ⟨_, rfl⟩
  rw [← hf'] at HC ⊢
  obtain ⟨tt, htt, htz, hts, htb⟩ := stext_info
  have HTT := Lib.hid htt
  have HTZ := Lib.hid htz
  have HTS := Lib.hid hts
  have HTB := Lib.hid (show tt.bytes ≤ 64 by omega)
  have HLE := Lib.hid (show ([] : List Value).length + ((rows (nowF bs) sz).map tx).length ≤ 1099511627776 by rw [List.length_map, length_rows]; simp; omega)
  have HLR := Lib.hid (length_rows (nowF bs) sz)
  obtain ⟨ls, hls⟩ : ∃ ls, ls = rows (nowF bs) sz := ⟨_, rfl⟩
  rw [← hls] at HN HLE HLR
  have HLS := Lib.hid hls
  clear htt htz hts htb h0 hf hf2 hf' hN hls
  go_enter Try.func29, Try.ntmps29
  go_wp2_with fail
  refine (HC.out _).mono ?_
  rintro e w2 ⟨rfl, hb2⟩
  have HX2 := Lib.hid (HX0.out.below hb2)
  clear hb2
  go_wp2_with (first
    | (refine wp_store_gen (B := w.heap.size) (w0 := w) HX2.out.b (Nat.le_refl _) HX2.out.d (rdC a1 a2 a3 c1 c2 c3 sz f') TRd (.tmp 1) (.tmp 8) rfl rfl rfl rfl szRd rfl (oneRd a1 a2 a3 c1 c2 c3 sz f') ?_
       intro W3 hm3 hb3 hz3 hk3
       have HX3 := Lib.hid (HX2.out.setD hm3 hb3 hk3)
       clear hm3 hb3 hz3 hk3)
    | fail)
  have HS0 := Lib.hid (show Bd w (rdC a1 a2 a3 c1 c2 c3 sz f') W3.drew from ⟨_, _, _, _, HX3.out.below (below_drewN (Below.refl _ _) 1)⟩)
  have HNd := Lib.hid (show Owns W3.drew 0 TS (.slice a2 sz c2) (ls.map tx) from HN.out.below (below_drewN HX3.out.b 1))
  refine wp_region_held_drew (S := Bd w (rdC a1 a2 a3 c1 c2 c3 sz f')) (by kernel_rfl) HS0.out (fun hHeld => ?_)
  refine wpAnyH_take (i := 0) (oi := { dst := some 12, op := Op.load 29 (Operand.tmp 1), type := 29, pos := "ref.go:99", after := #[], guard := none }) (v := .agg #[.slice a1 sz c1, .slice a2 sz c2, .slice a3 sz c3, .int .i64 f']) rfl (by kernel_rfl) (by kernel_rfl) (by kernel_rfl) (fun _ _ _ h => h) (Or.inl ⟨by rfl, ?_⟩) hHeld ?_
  · intro w' hSw
    obtain ⟨r0, r1, r2, r3, hSx⟩ := hSw
    obtain ⟨⟨k0, g0⟩, ⟨k1, g1⟩, ⟨k2, g2⟩, ⟨k3, g3⟩⟩ := mem4 hSx.d
    clear hSx
    go_simp
  simp only [Act.put, List.setIfInBounds_toArray, List.set_cons_zero, List.set_cons_succ]
  refine wpAnyH_take (i := 2) (oi := { dst := some 14, op := Op.fieldAddr 29 (Operand.tmp 1) 1, type := 0, pos := "ref.go:99", after := #[], guard := none }) (v := .pointer (some ⟨w.heap.size, 1, none⟩)) rfl (by kernel_rfl) (by kernel_rfl) (by kernel_rfl) (fun _ _ _ h => h) (Or.inl ⟨by rfl, ?_⟩) hHeld ?_
  · intro w' hSw
    obtain ⟨r0, r1, r2, r3, hSx⟩ := hSw
    obtain ⟨⟨k0, g0⟩, ⟨k1, g1⟩, ⟨k2, g2⟩, ⟨k3, g3⟩⟩ := mem4 hSx.d
    clear hSx
    go_simp
  simp only [Act.put, List.setIfInBounds_toArray, List.set_cons_zero, List.set_cons_succ]
  refine wpAnyH_take (i := 3) (oi := { dst := some 15, op := Op.load 26 (Operand.tmp 14), type := 26, pos := "ref.go:99", after := #[{ on := 2, ground := Ground.data }], guard := none }) (v := .slice a2 sz c2) rfl (by kernel_rfl) (by kernel_rfl) (by kernel_rfl) (fun _ _ _ h => h) (Or.inl ⟨by rfl, ?_⟩) hHeld ?_
  · intro w' hSw
    obtain ⟨r0, r1, r2, r3, hSx⟩ := hSw
    obtain ⟨⟨k0, g0⟩, ⟨k1, g1⟩, ⟨k2, g2⟩, ⟨k3, g3⟩⟩ := mem4 hSx.d
    clear hSx
    go_simp
  simp only [Act.put, List.setIfInBounds_toArray, List.set_cons_zero, List.set_cons_succ]
  refine wpAnyH_ready (rs := [1]) (by kernel_rfl) (by simp) (AllReadyH.cons rfl (fun K hK => ?_) AllReadyH.nil)
  go_simp
  have HS1 := Lib.hid (HS0.out.below (belowSelf _ (.cells #[] TS)))
  have HN1 := Lib.hid (HNd.out.below (belowSelf _ (.cells #[] TS)))
  have HO1 := Lib.hid (sowns_none W3.drew TS (g := W3.heap.size) (B := W3.heap.size) rfl (Nat.le_refl _))
  refine hK.out _ _ HS1.out (fun hH1 => ?_)
  clear hK K
  refine wpAnyH_ready (rs := [4]) (by kernel_rfl) (by simp) (AllReadyH.cons rfl (fun K hK => ?_) AllReadyH.nil)
  refine sstep_append_all (base := W3.heap.size) HO1.out HN1.out (.tmp 13) (.tmp 15) 26 tt (.string ⟨#[]⟩) rfl rfl Try.underlying26 HTT.out HTZ.out HTS.out HTB.out rfl rfl rfl (sone_txs ls) HLE.out (by simp) ?_
  intro v4 w4 ho4 hg4
  obtain ⟨r0, r1, r2, r3, hx3⟩ := HS0.out
  have HX4 := Lib.hid (hx3.app hg4 hx3.r.lt)
  obtain ⟨a4, c4, hv4, -, -, -⟩ := ho4.form
  rw [List.nil_append, List.length_map, HLR.out] at hv4
  subst hv4
  rw [List.nil_append] at ho4
  have HO4 := Lib.hid ho4
  refine hK.out _ _ ⟨_, _, _, _, HX4.out⟩ (fun hH2 => ?_)
  clear hK K hg4 ho4
  refine wpAnyH_ready (rs := [5]) (by kernel_rfl) (by simp) (AllReadyH.cons rfl (fun K hK => ?_) AllReadyH.nil)
  go_simp
  refine (rsure_n a1 a2 a3 a4 c1 c2 c3 sz c4 sz f' ls W3.heap.size w4 HO4.out hs HLR.out).mono ?_
  rintro e w5 ⟨a5, c5, a6, c6, rfl, ho5, ho6, hb5⟩
  dsimp only
  have HX5 := Lib.hid (HX4.out.below hb5)
  have HO41 := Lib.hid (HO4.out.below hb5)
  have HO5 := Lib.hid ho5
  have HO6 := Lib.hid ho6
  have hz4 : w.heap.size + 1 < w4.heap.size := HX4.out.r.lt
  refine hK.out _ _ ⟨_, _, _, _, HX5.out⟩ (fun hH3 => ?_)
  clear hK K hb5 ho5 ho6
  obtain ⟨⟨k0, g0⟩, ⟨k1, g1⟩, ⟨k2, g2⟩, ⟨k3, g3⟩⟩ := mem4 HX5.out.r
  refine wpAnyH_ready (rs := [6]) (by kernel_rfl) (by simp) (AllReadyH.cons rfl (fun K hK => ?_) AllReadyH.nil)
  go_simp
  have HXF := Lib.hid (HX5.out.putR (.slice a4 sz c4) (.slice a5 sz c5) (.slice a6 sz c6) (.int .i64 f'))
  refine hK.out _ _ ⟨_, _, _, _, HXF.out⟩ (fun hH4 => ?_)
  clear hK K k0 g0 k1 g1 k2 g2 k3 g3
  refine wpAnyH_take (i := 7) (oi := { dst := some 3, op := Op.assign (Operand.const (Value.int IntKind.i64 0)), type := 3, pos := "ref.go:99", after := #[{ on := 6, ground := Ground.chain }, { on := 0, ground := Ground.phase }, { on := 1, ground := Ground.phase }, { on := 2, ground := Ground.phase }, { on := 3, ground := Ground.phase }, { on := 4, ground := Ground.phase }, { on := 5, ground := Ground.phase }, { on := 6, ground := Ground.phase }], guard := none }) (v := .int .i64 0) rfl (by kernel_rfl) (by kernel_rfl) (by kernel_rfl) (fun _ _ _ h => h) (Or.inl ⟨by rfl, ?_⟩) hH4 ?_
  · intro w' hSw
    obtain ⟨r0, r1, r2, r3, hSx⟩ := hSw
    obtain ⟨⟨k0, g0⟩, ⟨k1, g1⟩, ⟨k2, g2⟩, ⟨k3, g3⟩⟩ := mem4 hSx.d
    clear hSx
    go_simp
  simp only [Act.put, List.setIfInBounds_toArray, List.set_cons_zero, List.set_cons_succ]
  refine wpAnyH_done (by kernel_rfl) ?_ _
  rename_i Kz hKz
  refine hKz _ _ ?_
  go_wp2_with fail
  refine bodyPost_ret (sres2 HXF.out.r rfl _ _ rfl Try.underlying29 rfl szRd) rfl ⟨_, rfl, ⟨a4, a5, a6, c4, c5, c6, rfl, ?_, ?_, ?_⟩, HXF.out.b⟩
  · rw [sure_none', ← HLS.out]
    exact sowns_base (owns_put4 HO41.out (by have := HX3.out.r.lt; omega) _ _ _ _) (Nat.zero_le _)
  · rw [← HLS.out]
    exact sowns_base (owns_put4 HO5.out (by omega) _ _ _ _) (Nat.zero_le _)
  · rw [loose_none]
    exact sowns_base (owns_put4 HO6.out (by omega) _ _ _ _) (Nat.zero_le _)
end Go.Proofs.Ytjmmbafpiahhiaa

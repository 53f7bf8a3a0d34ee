/-
  The document's disk: Write where the texts fit.
-/
import Derived.Test.YtjmmbafpiahhiaaSRef6
namespace Go.Proofs.Ytjmmbafpiahhiaa
open Go.RowKit Go.Maps Crv
set_option maxRecDepth 100000 in
set_option maxHeartbeats 600000 in
theorem rwrite_io (v : Value) (sz : Nat) (bs : List UInt8) (du : Tab) (at_ : Int) (tv : Value) (ls : List (List UInt8)) (w : World) (h : Rf w v sz bs du 0) (hv : Txs w tv ls) (hn : ls.length ≤ 1000) (ha : at_ ≤ 9223372036854775807) (hs : sz ≤ 65536) (hh : hasS sz at_ ls.length = true) (hl : ∀ l ∈ ls, l.length ≤ 64) :
    Calls Try.prog 28 #[v, .int .i64 at_, tv] w fun e w' => e = .returned (.tuple #[v, .int .i64 13]) ∧ Below w.heap.size w w' := by
  obtain ⟨a1, a2, a3, c1, c2, c3, rfl, -, -, -⟩ := h
  have HI := Lib.hid (fun W => rin_any a1 a2 a3 c1 c2 c3 0 at_ (ls.length : Int) sz W ha hs)
  rw [hh] at HI
  have HC := Lib.hid (fun W => rcall_any a1 a2 a3 c1 c2 c3 sz 0 W (by omega) (by omega))
  rw [decide_eq_true rfl, show leftF 0 = 0 from rfl] at HC
  have HX0 := Lib.hid (Bx.new w (rdC a1 a2 a3 c1 c2 c3 sz 0) zRd)
  have ONE := Lib.hid (oneRd a1 a2 a3 c1 c2 c3 sz 0)
  have HL := Lib.hid hl
  have HV := Lib.hid hv
  obtain ⟨ta, tc, rfl, -⟩ := hv
  clear hh ha hs hl
  go_enter Try.func28, Try.ntmps28
  go_wp2_with fail
  refine (HI.out _).mono ?_
  rintro e w1 ⟨rfl, hb1⟩
  have HX1 := Lib.hid (HX0.out.below hb1)
  clear hb1
  go_wp2_with fail
  go_loopw [9, 24] (fun s x wr => ∃ k : Nat, k ≤ ls.length ∧ x = .int .i64 (k : Int) ∧ w1 = wr) (fun _ x _ => ls.length - (intOf x).toNat)
  case atStart => exact ⟨0, by omega, rfl, rfl⟩
  case round =>
    obtain ⟨k, hk, rfl, rfl⟩ := hrel
    by_cases hlt : k < ls.length
    · have hd : decide (k < ls.length) = true := by simpa using hlt
      obtain ⟨a', cap', hv', hc'⟩ := HV.out.below HX1.out.b
      injection hv' with e1 e2 e3
      obtain ⟨b, off, hab, hcell⟩ := hc' k hlt
      rw [← e1] at hab
      subst hab
      have hlk := HL.out _ (getD_mem hlt)
      obtain ⟨t, ht⟩ : ∃ t, t = ls.getD k [] := ⟨_, rfl⟩
      rw [← ht] at hcell hlk
      clear e1 e2 e3 hc' ht
      have hd2 : decide ((64 : Int) < (t.length : Int)) = false := by simp; omega
      go_wp2_with fail
      go_roundw
      case rel => exact ⟨k + 1, by omega, by go_num, by first | trivial | rfl⟩
      case measure => simp [intOf]; omega
    · have hd : decide (k < ls.length) = false := by simpa using hlt
      go_wp2_with (first
        | (refine wp_load_mem HX1.out.d TRd (.tmp 3) _ rfl rfl rfl Try.underlying29 rfl szRd ?_)
        | fail)
      refine (HC.out _).mono ?_
      rintro e w2 ⟨rfl, hb2⟩
      have HX2 := Lib.hid (HX1.out.below hb2)
      clear hb2
      go_wp2_with (first
        | (refine wp_store_gen (B := w.heap.size) (w0 := w) HX2.out.b (Nat.le_refl _) HX2.out.d (rdC a1 a2 a3 c1 c2 c3 sz 0) TRd (.tmp 3) (.tmp 36) rfl rfl rfl rfl szRd rfl ONE.out ?_
           intro W3 hm3 hb3 hz3 hk3
           have HX3 := Lib.hid (HX2.out.setD hm3 hb3 hk3)
           clear hm3 hb3 hz3 hk3)
        | (refine wp_load_mem HX3.out.d TRd (.tmp 3) _ rfl rfl rfl Try.underlying29 rfl szRd ?_)
        | (refine wp_store_gen (B := w.heap.size) (w0 := w) HX3.out.b (Nat.le_succ _) HX3.out.r (rdC a1 a2 a3 c1 c2 c3 sz 0) TRd (.tmp 6) (.tmp 39) rfl rfl rfl rfl szRd rfl ONE.out ?_
           intro W4 hm4 hb4 hz4 hk4
           have HX4 := Lib.hid (HX3.out.setR hm4 hb4 hk4)
           clear hm4 hb4 hz4 hk4)
        | fail)
      exact bodyPost_ret (sres2 HX4.out.r rfl _ _ rfl Try.underlying29 rfl szRd) rfl ⟨rfl, HX4.out.b⟩
theorem aside_new {w w' : World} {B n c : Nat} {T : TypeId} {v : Value} {xs : List Value} {o : Obj} (h : Owns w B T v xs) (hg : (w.alloc o).grownBy w' (Value.ownBlock (.slice (some ⟨w.heap.size, 0, none⟩) n c))) : Owns w' B T v xs :=
  (h.alloc o).of_below fun g hb => hg.block g (by have := (h.lt g hb).1; simp; omega) (fun e => by
    have e' : g = w.heap.size := Option.some.inj e
    have := (h.lt g hb).1
    omega)
/-- What the second loop of Write keeps: the boxes, the two lists that are filled. -/
structure WrS (w : World) (d : List Value) (B sz : Nat) (g : Nat → List UInt8) (l : Nat → Bool) (vN vL : Value) (W : World) : Prop where
  x : Bx w W d zRd
  n : Owns W B TS vN ((rows g sz).map tx)
  l : Owns W B TBo vL ((rows l sz).map .bool)
theorem WrS.below {w W W' : World} {d : List Value} {B sz : Nat} {g : Nat → List UInt8} {l : Nat → Bool} {vN vL : Value} (h : WrS w d B sz g l vN vL W) (hb : Below W.heap.size W W') : WrS w d B sz g l vN vL W' := ⟨h.x.below hb, h.n.below hb, h.l.below hb⟩
theorem Bx.cellD {w0 W : World} {d r : List Value} (h : Bx w0 W d r) (i : Nat) (u : Value) : Bx w0 (W.setCell ⟨w0.heap.size, i, none⟩ u) (d.set i u) r :=
  ⟨h.d.set i u, h.r.other (by simp) _, below_cell h.b (Nat.le_refl _) _ _⟩
theorem Bx.otherCell {w0 W : World} {d r : List Value} (h : Bx w0 W d r) {b i : Nat} (hb : w0.heap.size + 1 < b) (u : Value) : Bx w0 (W.setCell ⟨b, i, none⟩ u) d r :=
  ⟨h.d.other (by simp; omega) _, h.r.other (by simp; omega) _, below_cell h.b (by omega) _ _⟩
theorem WrS.step {w W : World} {d : List Value} {B sz q gn gl cn cl : Nat} {g : Nat → List UInt8} {l : Nat → Bool} (h : WrS w d B sz g l (.slice (some ⟨gn, 0, none⟩) sz cn) (.slice (some ⟨gl, 0, none⟩) sz cl) W) (hB : w.heap.size + 1 < B) (t : List UInt8) (b : Bool) {g' : Nat → List UInt8} {l' : Nat → Bool} (h1 : (rows g sz).set q t = rows g' sz) (h2 : (rows l sz).set q b = rows l' sz) :
    WrS w d B sz g' l' (.slice (some ⟨gn, 0, none⟩) sz cn) (.slice (some ⟨gl, 0, none⟩) sz cl) ((W.setCell ⟨gn, q, none⟩ (tx t)).setCell ⟨gl, q, none⟩ (.bool b)) := by
  have hgn := (h.n.lt gn rfl).2
  have hgl := (h.l.lt gl rfl).2
  have n1 := h.n.setAt (i := q) (tx t)
  have l1 := h.l.otherCell (u := tx t) (i := q) h.n (by decide)
  rw [← List.map_set, h1] at n1
  have l2 := l1.setAt (i := q) (.bool b)
  rw [← List.map_set, h2] at l2
  exact ⟨(h.x.otherCell (by omega) _).otherCell (by omega) _, n1.otherCell l1 (by decide), l2⟩
set_option maxRecDepth 100000 in
set_option maxHeartbeats 1000000 in
theorem rwrite_ok (v : Value) (sz : Nat) (bs : List UInt8) (du : Tab) (f : Int) (i0 : Nat) (tv : Value) (ls : List (List UInt8)) (D : DataW Unit) (w : World) (h : Rf w v sz bs du f) (hv : Txs w tv ls) (hs : sz ≤ 65536) (hb0 : bs.length = 64 * sz) (hh : i0 + ls.length ≤ sz) (hl : ∀ l ∈ ls, l.length ≤ 64) (h0 : f ≠ 0) (hf : -1 ≤ f) (hf2 : f ≤ 9223372036854775807) :
    Calls Try.prog 28 #[v, .int .i64 (i0 : Int), tv] w fun e w' => ∃ v', e = .returned (.tuple #[v', .int .i64 0]) ∧ Rf w' v' sz (wrTo bs D i0 ls ls.length).1 (duTo du bs D i0 ls ls.length) (leftF f) ∧ Below w.heap.size w w' := by
  obtain ⟨a1, a2, a3, c1, c2, c3, rfl, hS, hN, hL⟩ := h
  have HI := Lib.hid (fun W => rin_any a1 a2 a3 c1 c2 c3 f (i0 : Int) (ls.length : Int) sz W (by omega) hs)
  rw [show hasS sz (i0 : Int) (ls.length : Int) = true by simp [hasS]; omega] at HI
  have HC := Lib.hid (fun W => rcall_any a1 a2 a3 c1 c2 c3 sz f W hf hf2)
  rw [decide_eq_false h0] at HC
  have HX0 := Lib.hid (Bx.new w (rdC a1 a2 a3 c1 c2 c3 sz f) zRd)
  have ONE := Lib.hid (oneRd a1 a2 a3 c1 c2 c3 sz)
  obtain ⟨tt, htt, htz, hts, htb⟩ := stext_info
  have HTT := Lib.hid htt
  have HTZ := Lib.hid htz
  have HTS := Lib.hid hts
  have HTB := Lib.hid (show tt.bytes ≤ 64 by omega)
  obtain ⟨tb, hut, huz, hus, hub⟩ := sbool_info
  have HUT := Lib.hid hut
  have HUZ := Lib.hid huz
  have HUS := Lib.hid hus
  have HUB := Lib.hid (show tb.bytes ≤ 64 by omega)
  have HLN := Lib.hid (show ([] : List Value).length + ((rows (nowF bs) sz).map tx).length ≤ 1099511627776 by rw [List.length_map, length_rows]; simp; omega)
  have HLL := Lib.hid (show ([] : List Value).length + ((rows (looseF du) sz).map Value.bool).length ≤ 1099511627776 by rw [List.length_map, length_rows]; simp; omega)
  have HS := Lib.hid hS
  have HN := Lib.hid hN
  have HLo := Lib.hid hL
  have HL := Lib.hid hl
  have HV := Lib.hid hv
  have HFI := Lib.hid (fun l hl W => rfill_any l hl W)
  have HNW := Lib.hid (fun j hj => now_write (D := D) hb0 hh hl (j := j) hj)
  have HLW := Lib.hid (fun j => loose_write (du := du) (bs := bs) (D := D) (i := i0) (sz := sz) (ls := ls) (j := j))
  have HSW := Lib.hid (fun q => sure_write (du := du) (D := D) hb0 hh hl q ls.length (Nat.le_refl _))
  have hn : ls.length ≤ 65536 := by omega
  obtain ⟨ta, tc, rfl, -⟩ := hv
  obtain ⟨f', hf'⟩ : ∃ x, x = leftF f := ⟨_, rfl⟩
  rw [← hf'] at HC ⊢
  clear htt htz hts htb hut huz hus hub hS hN hL hl h0 hf hf2 hf'
  go_enter Try.func28, Try.ntmps28
  go_wp2_with fail
  refine (HI.out _).mono ?_
  rintro e w1 ⟨rfl, hb1⟩
  have HX1 := Lib.hid (HX0.out.below hb1)
  clear hb1
  go_wp2_with fail
  go_loopw [9, 24] (fun s x wr => ∃ k : Nat, k ≤ ls.length ∧ x = .int .i64 (k : Int) ∧ w1 = wr) (fun _ x _ => ls.length - (intOf x).toNat)
  case atStart => exact ⟨0, by omega, rfl, rfl⟩
  case round =>
    obtain ⟨k, hk, rfl, rfl⟩ := hrel
    by_cases hlt : k < ls.length
    · have hd : decide (k < ls.length) = true := by simpa using hlt
      obtain ⟨a', cap', hv', hc'⟩ := HV.out.below HX1.out.b
      injection hv' with e1 e2 e3
      obtain ⟨b, off, hab, hcell⟩ := hc' k hlt
      rw [← e1] at hab
      subst hab
      have hlk := HL.out _ (getD_mem hlt)
      obtain ⟨t, ht⟩ : ∃ t, t = ls.getD k [] := ⟨_, rfl⟩
      rw [← ht] at hcell hlk
      clear e1 e2 e3 hc' ht
      have hd2 : decide ((64 : Int) < (t.length : Int)) = false := by simp; omega
      go_wp2_with fail
      go_roundw
      case rel => exact ⟨k + 1, by omega, by go_num, by first | trivial | rfl⟩
      case measure => simp [intOf]; omega
    · have hd : decide (k < ls.length) = false := by simpa using hlt
      go_wp2_with (first
        | (refine wp_load_mem HX1.out.d TRd (.tmp 3) _ rfl rfl rfl Try.underlying29 rfl szRd ?_)
        | fail)
      refine (HC.out _).mono ?_
      rintro e w2 ⟨rfl, hb2⟩
      have HX2 := Lib.hid (HX1.out.below hb2)
      clear hb2
      go_upto_region 10 with (first
        | (refine wp_store_gen (B := w.heap.size) (w0 := w) HX2.out.b (Nat.le_refl _) HX2.out.d (rdC a1 a2 a3 c1 c2 c3 sz f') TRd (.tmp 3) (.tmp 36) rfl rfl rfl rfl szRd rfl (ONE.out f') ?_
           intro W3 hm3 hb3 hz3 hk3
           have HX3 := Lib.hid (HX2.out.setD hm3 hb3 hk3)
           clear hm3 hb3 hz3 hk3)
        | fail)
      have n1 : W3.cell? ⟨w.heap.size, 1, none⟩ = some (.slice a2 sz c2) := HX3.out.d.cell 1
      have hz3 : w.heap.size < W3.heap.size := HX3.out.d.lt
      have hz3' : w.heap.size + 1 < W3.heap.size := HX3.out.r.lt
      have HO4 := Lib.hid (sowns_none W3 TS (g := W3.heap.size) (B := W3.heap.size) rfl (Nat.le_refl _))
      have HN4 := Lib.hid (HN.out.below (belowThen HX3.out.b (belowSelf W3 (.cells #[] TS))))
      have HBS4 := Lib.hid (show W3.heap.size ≤ (W3.alloc (.cells #[] TS)).heap.size by simp)
      go_wp2_with (first
        | (at_builtin; refine swp_append_all (base := W3.heap.size) HO4.out HN4.out (.tmp 40) (.tmp 42) 26 tt (.string ⟨#[]⟩) rfl rfl Try.underlying26 HTT.out HTZ.out HTS.out HTB.out rfl rfl rfl (sone_txs _) HLN.out HBS4.out ?_
           intro v5 w5 ho5 hg5
           obtain ⟨a5, c5, hv5, -, -, -⟩ := ho5.form
           rw [List.nil_append, List.length_map, length_rows] at hv5
           subst hv5
           have HX5 := Lib.hid (HX3.out.app hg5 hz3')
           have HO5 := Lib.hid ho5
           have n2 : w5.cell? ⟨w.heap.size, 2, none⟩ = some (.slice a3 sz c3) := HX5.out.d.cell 2
           have hz5 : w.heap.size < w5.heap.size := HX5.out.d.lt
           have hz5' : w.heap.size + 1 < w5.heap.size := HX5.out.r.lt
           have HP6 := Lib.hid (sowns_none w5 TBo (g := w5.heap.size) (B := W3.heap.size) rfl (Nat.le_trans (HBS4.out) hg5.size))
           have HN6 := Lib.hid (HLo.out.below (belowThen HX5.out.b (belowSelf w5 (.cells #[] TBo))))
           have HBS6 := Lib.hid (show W3.heap.size ≤ (w5.alloc (.cells #[] TBo)).heap.size from Nat.le_trans (Nat.le_trans HBS4.out hg5.size) (belowSelf w5 (.cells #[] TBo)).size)
           clear ho5 hg5)
        | (at_builtin; refine swp_append_all (base := W3.heap.size) HP6.out HN6.out (.tmp 44) (.tmp 46) 27 tb (.bool false) rfl rfl Try.underlying27 HUT.out HUZ.out HUS.out HUB.out rfl rfl rfl (sone_bools _) HLL.out HBS6.out ?_
           intro v7 w7 ho7 hg7
           obtain ⟨a7, c7, hv7, -, -, -⟩ := ho7.form
           rw [List.nil_append, List.length_map, length_rows] at hv7
           subst hv7
           have HX7 := Lib.hid (HX5.out.app hg7 hz5')
           have HO57 := Lib.hid (aside_new HO5.out hg7)
           have HO7 := Lib.hid ho7
           clear ho7 hg7)
        | fail)
      have HW0 := Lib.hid (show WrS w (rdC a1 a2 a3 c1 c2 c3 sz f') W3.heap.size sz (nowF (wrTo bs D i0 ls 0).1) (looseF (duTo du bs D i0 ls 0)) (.slice a5 sz c5) (.slice a7 sz c7) w7 from ⟨HX7.out, HO57.out, HO7.out⟩)
      clear HO57 HO7 HX7 HX5 HO5 HN4 HO4 HN6 HP6 HBS4 HBS6 n1 n2 hz5 hz5'
      go_loopw [13, 14, 50] (fun _ _ x wr => ∃ k : Nat, k ≤ ls.length ∧ x = .int .i64 (k : Int) ∧ Hid (WrS w (rdC a1 a2 a3 c1 c2 c3 sz f') W3.heap.size sz (nowF (wrTo bs D i0 ls k).1) (looseF (duTo du bs D i0 ls k)) (.slice a5 sz c5) (.slice a7 sz c7) wr)) (fun _ _ x _ => ls.length - (intOf x).toNat)
      case atStart => exact ⟨0, by omega, rfl, HW0⟩
      case round =>
        obtain ⟨j, hj, rfl, HW⟩ := hrel
        clear HW0
        by_cases hlt2 : j < ls.length
        · have hdj : decide (j < ls.length) = true := by simpa using hlt2
          obtain ⟨q, hq⟩ : ∃ q, q = i0 + j := ⟨_, rfl⟩
          have hqs : q < sz := by omega
          have hwq : IntKind.i64.wrap ((i0 : Int) + (j : Int)) = (q : Int) := (IntWalk.i64_in _ (by omega)).trans (by omega)
          have hdq : decide (q < sz) = true := by simpa using hqs
          have hnw := HNW.out j hlt2
          have hlw := HLW.out j
          rw [← hq] at hnw hlw
          obtain ⟨gn, rfl, cN, -, fN⟩ := own_cell HW.out.n hqs
          obtain ⟨gl, rfl, cL, -, fL⟩ := own_cell HW.out.l hqs
          obtain ⟨a', cap', hv', hc'⟩ := HV.out.below HW.out.x.b
          injection hv' with e1 e2 e3
          obtain ⟨b, off, hab, hcell⟩ := hc' j hlt2
          rw [← e1] at hab
          subst hab
          have hlk := HL.out _ (getD_mem hlt2)
          obtain ⟨t, ht⟩ : ∃ t, t = ls.getD j [] := ⟨_, rfl⟩
          rw [← ht] at hcell hlk hnw
          have HFT := Lib.hid (HFI.out t hlk)
          obtain ⟨pt, hpt⟩ : ∃ p, p = t ++ List.replicate (64 - t.length) 0 := ⟨_, rfl⟩
          rw [← hpt] at HFT
          rw [show padS t = pt from hpt.symm] at hnw
          have HSTEP := Lib.hid (HW.out.step hz3' pt true hnw hlw)
          have hne : gn ≠ gl := fun e => by
            obtain ⟨k1, h1⟩ := own_tag HW.out.n gn rfl
            obtain ⟨k2, h2⟩ := own_tag HW.out.l gl rfl
            rw [e, h2] at h1
            injection h1 with h1
            injection h1 with _ h1
            exact absurd h1 (by decide)
          have hne' : gl ≠ gn := fun e => hne e.symm
          obtain ⟨x0, hx0⟩ : ∃ x, x = nowF (wrTo bs D i0 ls j).1 q := ⟨_, rfl⟩
          obtain ⟨y0, hy0⟩ : ∃ x, x = looseF (duTo du bs D i0 ls j) q := ⟨_, rfl⟩
          rw [← hx0] at cN
          rw [← hy0] at cL
          clear e1 e2 e3 hc' ht hpt hnw hlw hx0 hy0 hq
          go_wp2_with fail
          refine (HFT.out _).mono ?_
          rintro e wX ⟨rfl, rfl⟩
          go_wp2_with fail
          go_roundw
          case rel => exact ⟨j + 1, by omega, by go_num, HSTEP⟩
          case measure => simp [intOf]; omega
        · have ej : j = ls.length := by omega
          subst ej
          have hdj : decide (ls.length < ls.length) = false := by simp
          obtain ⟨⟨k0, g0⟩, ⟨k1, g1⟩, ⟨k2, g2⟩, ⟨k3, g3⟩⟩ := mem4 HW.out.x.d
          obtain ⟨⟨r0, q0⟩, ⟨r1, q1⟩, ⟨r2, q2⟩, ⟨r3, q3⟩⟩ := mem4 HW.out.x.r
          go_wp2_with fail
          have hxf := ((HW.out.x.cellD 1 (.slice a5 sz c5)).cellD 2 (.slice a7 sz c7)).putR (.slice a1 sz c1) (.slice a5 sz c5) (.slice a7 sz c7) (.int .i64 f')
          refine bodyPost_ret (sres2 hxf.r rfl _ _ rfl Try.underlying29 rfl szRd) rfl ⟨_, rfl, ⟨a1, a5, a7, c1, c5, c7, rfl, ?_, ?_, ?_⟩, hxf.b⟩
          · rw [rows_congr (fun q _ => HSW.out q)]
            exact HS.out.below hxf.b
          · exact sowns_base (owns_put4 ((HW.out.n.lowCell (by omega)).lowCell (by omega)) (by omega) _ _ _ _) (Nat.zero_le _)
          · exact sowns_base (owns_put4 ((HW.out.l.lowCell (by omega)).lowCell (by omega)) (by omega) _ _ _ _) (Nat.zero_le _)
end Go.Proofs.Ytjmmbafpiahhiaa

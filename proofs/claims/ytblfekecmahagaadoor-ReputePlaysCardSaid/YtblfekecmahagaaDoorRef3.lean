/-
  The reference of layer 1: Mixed.
-/
import Derived.Test.YtblfekecmahagaaDoorRef2
import Derived.Test.YtblfekecmahagaaDoorMix
namespace Go.Proofs.YtblfekecmahagaaDoor
open Go.RowKit Crv

/-- Eight words lie at the head of block g. -/
def Eight (w : World) (g : Nat) (s : St) : Prop := ∀ j u, (s.list.map wordV)[j]? = some u → w.cell? ⟨g, j, none⟩ = some u
theorem Eight.below {w w' : World} {g : Nat} {s : St} (h : Eight w g s) (hb : Below w.heap.size w w') : Eight w' g s := fun j u hu =>
  (hb.cell (p := ⟨g, j, none⟩) (World.block_lt_of_cell? w _ (h j u hu))).trans (h j u hu)
theorem Eight.words {w : World} {g : Nat} {s : St} (h : Eight w g s) :
    w.cell? ⟨g, 0, none⟩ = some (.int .u32 s.a) ∧ w.cell? ⟨g, 1, none⟩ = some (.int .u32 s.b) ∧ w.cell? ⟨g, 2, none⟩ = some (.int .u32 s.c) ∧ w.cell? ⟨g, 3, none⟩ = some (.int .u32 s.d) ∧
    w.cell? ⟨g, 4, none⟩ = some (.int .u32 s.e) ∧ w.cell? ⟨g, 5, none⟩ = some (.int .u32 s.f) ∧ w.cell? ⟨g, 6, none⟩ = some (.int .u32 s.g) ∧ w.cell? ⟨g, 7, none⟩ = some (.int .u32 s.h) :=
  ⟨h 0 _ rfl, h 1 _ rfl, h 2 _ rfl, h 3 _ rfl, h 4 _ rfl, h 5 _ rfl, h 6 _ rfl, h 7 _ rfl⟩
/-- A slice of eight words of the call's own, laid open. -/
theorem owns_eight {w : World} {base : Nat} {e : TypeId} {v : Value} {s : St} (h : Owns w base e v (s.list.map wordV)) : ∃ g cap, v = .slice (some ⟨g, 0, none⟩) 8 cap ∧ base ≤ g ∧ Eight w g s := by
  obtain ⟨a, cap, hv, _, _, hc⟩ := h.form
  have hl : (s.list.map wordV).length = 8 := rfl
  obtain ⟨g, rfl, hg, _⟩ := hc 0 (by rw [hl]; omega)
  refine ⟨g, cap, hv, hg, fun j u hu => ?_⟩
  obtain ⟨g', hg', _, hcell⟩ := hc j (List.getElem?_eq_some_iff.1 hu).1
  injection hg' with hg'
  injection hg' with hg'
  subst hg'
  rw [hcell, hu]

theorem bs_bits (n m o x : Nat) (hx : x < 4294967296) (hn : n ≤ 32) (hm : m ≤ 32) (ho : o ≤ 32) : bits .xor .u32 (bits .xor .u32 (rotr n x : Int) (rotr m x : Int)) (rotr o x : Int) = ((rotr n x ^^^ rotr m x ^^^ rotr o x : Nat) : Int) := by
  have l1 := rotr_lt (n := n) hn hx
  have l2 := rotr_lt (n := m) hm hx
  have l3 := rotr_lt (n := o) ho hx
  rw [xor_u32 _ _ l1 l2, xor_u32 _ _ (xor_lt l1 l2) l3]
theorem keeps_eight {W w3 : World} {gv gw k : Nat} {x0 x1 x2 x3 x5 x6 x7 y : Value} (hb : Below W.heap.size W w3)
    (h : W.cell? ⟨gv, 0, none⟩ = some x0 ∧ W.cell? ⟨gv, 1, none⟩ = some x1 ∧ W.cell? ⟨gv, 2, none⟩ = some x2 ∧ W.cell? ⟨gv, 3, none⟩ = some x3 ∧ W.cell? ⟨gv, 5, none⟩ = some x5 ∧ W.cell? ⟨gv, 6, none⟩ = some x6 ∧ W.cell? ⟨gv, 7, none⟩ = some x7 ∧ W.cell? ⟨gw, k, none⟩ = some y) :
    w3.cell? ⟨gv, 0, none⟩ = some x0 ∧ w3.cell? ⟨gv, 1, none⟩ = some x1 ∧ w3.cell? ⟨gv, 2, none⟩ = some x2 ∧ w3.cell? ⟨gv, 3, none⟩ = some x3 ∧ w3.cell? ⟨gv, 5, none⟩ = some x5 ∧ w3.cell? ⟨gv, 6, none⟩ = some x6 ∧ w3.cell? ⟨gv, 7, none⟩ = some x7 ∧ w3.cell? ⟨gw, k, none⟩ = some y := by
  have hk : ∀ (p : Addr) (v : Value), W.cell? p = some v → w3.cell? p = some v := fun p v hp => (hb.cell (World.block_lt_of_cell? W p hp)).trans hp
  exact ⟨hk _ _ h.1, hk _ _ h.2.1, hk _ _ h.2.2.1, hk _ _ h.2.2.2.1, hk _ _ h.2.2.2.2.1, hk _ _ h.2.2.2.2.2.1, hk _ _ h.2.2.2.2.2.2.1, hk _ _ h.2.2.2.2.2.2.2⟩

theorem round_cells (S : St) (k x : Nat) : #[Value.int .u32 (((((((S.h : Int) + (bs1 S.e : Int)) % 4294967296 + (ch S.e S.f S.g : Int)) % 4294967296 + (key k : Int)) % 4294967296 + (x : Int)) % 4294967296 + ((bs0 S.a : Int) + (maj S.a S.b S.c : Int)) % 4294967296) % 4294967296),
      .int .u32 (S.a : Int), .int .u32 (S.b : Int), .int .u32 (S.c : Int), .int .u32 (((S.d : Int) + (((((S.h : Int) + (bs1 S.e : Int)) % 4294967296 + (ch S.e S.f S.g : Int)) % 4294967296 + (key k : Int)) % 4294967296 + (x : Int)) % 4294967296) % 4294967296),
      .int .u32 (S.e : Int), .int .u32 (S.f : Int), .int .u32 (S.g : Int)] = ((round S (key k) x).list.map wordV).toArray := by
  have e1 : (((((S.h : Int) + (bs1 S.e : Int)) % 4294967296 + (ch S.e S.f S.g : Int)) % 4294967296 + (key k : Int)) % 4294967296 + (x : Int)) % 4294967296 = ((t1 S (key k) x : Nat) : Int) := by unfold t1; omega
  have e2 : ((bs0 S.a : Int) + (maj S.a S.b S.c : Int)) % 4294967296 = ((t2 S : Nat) : Int) := by unfold t2; omega
  rw [e1, e2, show (((t1 S (key k) x : Nat) : Int) + ((t2 S : Nat) : Int)) % 4294967296 = (((t1 S (key k) x + t2 S) % 4294967296 : Nat) : Int) from by omega, show ((S.d : Int) + ((t1 S (key k) x : Nat) : Int)) % 4294967296 = (((S.d + t1 S (key k) x) % 4294967296 : Nat) : Int) from by omega]
  rfl
theorem eight_get (s : St) (j : Nat) (h : j < 8) : (s.list.map wordV)[j]? = some (.int .u32 ((s.list.getD j 0 : Nat) : Int)) := by
  rw [List.getElem?_map, List.getD_eq_getElem?_getD, List.getElem?_eq_getElem (show j < s.list.length from h)]
  rfl
theorem plus_get (s t : St) (j : Nat) (h : j < 8) : (s.plus t).list.getD j 0 = (s.list.getD j 0 + t.list.getD j 0) % 4294967296 := by
  match j, h with
  | 0, _ => rfl | 1, _ => rfl | 2, _ => rfl | 3, _ => rfl | 4, _ => rfl | 5, _ => rfl | 6, _ => rfl | 7, _ => rfl
theorem list_take_succ (s : St) (j : Nat) (h : j < 8) : s.list.take (j + 1) = s.list.take j ++ [s.list.getD j 0] := by
  rw [List.take_succ_eq_append_getElem (show j < s.list.length from h), List.getD_eq_getElem?_getD, List.getElem?_eq_getElem (show j < s.list.length from h)]
  rfl
theorem owns_base {w : World} {base base' : Nat} {e : TypeId} {v : Value} {xs : List Value} (h : Owns w base e v xs) (hb : base' ≤ base) : Owns w base' e v xs := by
  refine ⟨h.1, ?_⟩
  rcases h.2 with h0 | ⟨g, cap, cur, h1, h2, h3⟩
  · exact .inl h0
  · exact .inr ⟨g, cap, cur, h1, Nat.le_trans hb h2, h3⟩

theorem Eight.lt0 {w : World} {g : Nat} {s : St} (h : Eight w g s) : g < w.heap.size := World.block_lt_of_cell? w _ (h 0 _ rfl)
/-- A slice of younger memory lies in no older block. -/
theorem own_other {w : World} {base g B : Nat} {e : TypeId} {v : Value} {xs : List Value} (h : Owns w base e v xs) (hg : g < base) (_hB : base ≤ B) : v.ownBlock ≠ some g := fun e => by
  have := (h.lt g e).2
  omega
theorem keeps_both {wr w5 : World} {d : Nat} {ob : Obj} {v : Value} {n g g' i : Nat} {x y : Value} (h : Keeps ((wr.drewN d).alloc ob) v n w5) (hx : wr.cell? ⟨g, i, none⟩ = some x) (hy : wr.cell? ⟨g', i, none⟩ = some y)
    (h1 : v.ownBlock ≠ some g) (h2 : v.ownBlock ≠ some g') : w5.cell? ⟨g, i, none⟩ = some x ∧ w5.cell? ⟨g', i, none⟩ = some y :=
  ⟨h _ _ _ ((World.cell?_alloc_lt (wr.drewN d) ob ⟨g, i, none⟩ (World.block_lt_of_cell? wr _ hx)).trans hx) (fun e => absurd e h1), h _ _ _ ((World.cell?_alloc_lt (wr.drewN d) ob ⟨g', i, none⟩ (World.block_lt_of_cell? wr _ hy)).trans hy) (fun e => absurd e h2)⟩

set_option maxHeartbeats 2000000 in
set_option maxRecDepth 100000 in
theorem refMixed_any (s : St) (g cap : Nat) (m : List UInt8) (w : World) (hs : s.ok) (hm : m.length = 64) (hv : Eight w g s) :
    Calls Tryd.prog 48 #[.slice (some ⟨g, 0, none⟩) 8 cap, .string (str m)] w fun e w' => ∃ v', e = .returned v' ∧ Owns w' w.heap.size 77 v' ((mix s m).list.map wordV) ∧ Below w.heap.size w w' := by
  have HM := Lib.hid hm
  have HV := Lib.hid hv
  clear hm hv
  obtain ⟨i, hi, hz, hs1, hby⟩ : ∃ i, Tryd.prog.info? 77 = some i ∧ i.zero = some (.int .u32 0) ∧ i.size = 1 ∧ i.bytes = 4 := info_of (by kernel_rfl)
  have HBY : i.bytes ≤ 64 := by omega
  have HI := Lib.hid hi
  have HZ := Lib.hid hz
  have HS := Lib.hid hs1
  clear hi hz hs1 hby
  go_enter Tryd.func48, Tryd.ntmps48
  go_wp2_with fail
  refine (refSchedule_any m _ HM.out).mono ?_
  rintro e w1 ⟨ws, rfl, hws, hb1⟩
  have hv1 := HV.out.below hb1
  have HWS := Lib.hid hws
  have HV1 := Lib.hid hv1
  clear hws hv1
  have hbz1 := hb1.size
  go_wp2_with (first
    | (at_builtin; refine wp_append_keep (Owns.of_mem (Mem.new w1 77 []) (Nat.le_refl _) 0 0 (Nat.le_refl _) rfl (by simp [maxLen]) rfl) w1.heap.size ((Below.refl w1.heap.size w1).alloc (Nat.le_refl _) _) (Nat.le_refl _) (s.list.map wordV) (.tmp 16) (.tmp 17) 96 i (.int .u32 0) rfl rfl Tryd.underlying96 HI.out HZ.out HS.out HBY rfl rfl rfl ?news ?one ?len ?base ?_)
    | fail)
  case news => intro j u hu; exact (World.cell?_alloc_lt w1 _ ⟨g, j, none⟩ (World.block_lt_of_cell? w1 _ (HV1.out j u hu))).trans (HV1.out j u hu)
  case one => intro u hu; obtain ⟨x, _, rfl⟩ := List.mem_map.1 hu; rfl
  case len => simp [St.list]
  case base => simp
  intro v0 w2 hown2 hb2 hz2 _
  have HO2 := Lib.hid hown2
  clear hown2
  obtain ⟨aw, capw, hwv, hcw1, hcw2, hcw⟩ := HWS.out.form
  rw [List.length_map, length_schedule] at hwv hcw1 hcw
  obtain ⟨gw, rfl, hgw, _⟩ := hcw 0 (by omega)
  subst hwv
  have hwat : ∀ j, j < 64 → w1.cell? ⟨gw, j, none⟩ = some (.int .u32 (((schedule m).getD j 0 : Nat) : Int)) := fun j hj => by
    obtain ⟨g', hg', _, hc⟩ := hcw j hj
    injection hg' with hg'
    injection hg' with hg'
    subst hg'
    rw [hc, List.getElem?_map, List.getD_eq_getElem?_getD, List.getElem?_eq_getElem (by rw [length_schedule]; exact hj)]
    rfl
  have HWAT := Lib.hid hwat
  clear hwat hcw HWS
  have hb02 := hb1.trans (hb2.mono (Nat.le_trans (Nat.le_refl _) hbz1))
  go_wp2
  go_loopw [6, 7] (fun v i wr => ∃ (k gv capv : Nat), k ≤ 64 ∧ i = .int .i64 k ∧ v = .slice (some ⟨gv, 0, none⟩) 8 capv ∧ Hid (Eight wr gv (rounds (schedule m) s k)) ∧ Below w1.heap.size w1 wr) (fun _ i _ => 64 - (intOf i).toNat)
  case atStart =>
    obtain ⟨g0, cap0, rfl, _, h8⟩ := owns_eight HO2.out
    exact ⟨0, g0, cap0, by omega, rfl, rfl, Lib.hid h8, hb2⟩
  case round =>
    clear HO2 hz2 hb2 hb02
    obtain ⟨k, gv, capv, hk, rfl, rfl, H8, hbr⟩ := hrel
    by_cases hlt : k < 64
    · have HR := Lib.hid (show rounds (schedule m) s (k + 1) = round (rounds (schedule m) s k) (key k) ((schedule m).getD k 0) from rfl)
      have hok := rounds_ok hs (schedule m) k
      have hws := (hbr.cell (p := ⟨gw, k, none⟩) (World.block_lt_of_cell? w1 _ (HWAT.out k hlt))).trans (HWAT.out k hlt)
      revert HR hok H8 hws
      generalize rounds (schedule m) s k = S
      generalize (schedule m).getD k 0 = x
      intro H8 HR hok hws
      obtain ⟨c0, c1, c2, c3, c4, c5, c6, c7⟩ := H8.out.words
      obtain ⟨la, lb, lc, ld, le_, lf, lg, lh⟩ := ok_iff.1 hok
      have hd : decide ((k : Int) < 64) = true := by simp; omega
      have hch := ch_bits S.e S.f S.g le_ lf lg
      have hbs1 : bits .xor .u32 (bits .xor .u32 (rotr 6 S.e : Int) (rotr 11 S.e : Int)) (rotr 25 S.e : Int) = ((bs1 S.e : Nat) : Int) := bs_bits _ _ _ _ le_ (by omega) (by omega) (by omega)
      have hk64 : (k : Int) < 64 := by omega
      go_wp2_with fail
      go_region_held3 (fun w' => w'.cell? ⟨gv, 0, none⟩ = some (.int .u32 S.a) ∧ w'.cell? ⟨gv, 1, none⟩ = some (.int .u32 S.b) ∧ w'.cell? ⟨gv, 2, none⟩ = some (.int .u32 S.c) ∧ w'.cell? ⟨gv, 3, none⟩ = some (.int .u32 S.d) ∧
          w'.cell? ⟨gv, 5, none⟩ = some (.int .u32 S.f) ∧ w'.cell? ⟨gv, 6, none⟩ = some (.int .u32 S.g) ∧ w'.cell? ⟨gv, 7, none⟩ = some (.int .u32 S.h) ∧ w'.cell? ⟨gw, k, none⟩ = some (.int .u32 x))
        (first
          | go_keep
          | (exact keeps_eight hbk (by assumption)))
        (first
          | (go_at_call 61; refine (ror_int _ _ _ le_ (by decide) (by decide)).mono ?_; rintro e w3 ⟨rfl, n, rfl⟩)
          | (go_at_call 62; refine (key_any k _ hlt).mono ?_; rintro e w3 ⟨rfl, hbk⟩))
      have hb3 : Below w1.heap.size w1 w3 := (below_drewN hbr _).trans (hbk.mono hbr.size)
      obtain ⟨d0, d1, d2, d3, d5, d6, d7, dw⟩ := keeps_eight hbk ⟨c0, c1, c2, c3, c5, c6, c7, hws⟩
      have hmaj := maj_bits S.a S.b S.c la lb lc
      have hbs0 : bits .xor .u32 (bits .xor .u32 (rotr 2 S.a : Int) (rotr 13 S.a : Int)) (rotr 22 S.a : Int) = ((bs0 S.a : Nat) : Int) := bs_bits _ _ _ _ la (by omega) (by omega) (by omega)
      clear c0 c1 c2 c3 c4 c5 c6 c7 hws hbr hch hbs1 hbk d7 dw hk64
      go_wp2_with fail
      go_quiet ((go_at_call 61; exact Calls.quiet_of (ror_int S.a _ _ la (by decide) (by decide))))
      go_wp2_with fail
      clear hmaj hbs0
      go_region_held3 (fun w' => w'.cell? ⟨gv, 1, none⟩ = some (.int .u32 S.b) ∧ w'.cell? ⟨gv, 2, none⟩ = some (.int .u32 S.c) ∧ w'.cell? ⟨gv, 3, none⟩ = some (.int .u32 S.d) ∧ w'.cell? ⟨gv, 5, none⟩ = some (.int .u32 S.f) ∧ w'.cell? ⟨gv, 6, none⟩ = some (.int .u32 S.g))
        (go_keep) (fail)
      go_wp2
      go_roundw
      case rel =>
        rw [round_cells]
        refine ⟨k + 1, w3.heap.size, 8, by omega, by go_num, rfl, Lib.hid ?_, (below_drewN hb3 _).alloc hb3.size _⟩
        rw [HR.out]
        intro j u hu
        exact (Mem.cell (Mem.newAt (w3.drewN _) 77 _ rfl) j).trans hu
      case measure => simp [intOf]; omega
    · have e64 : k = 64 := by omega
      subst e64
      have hmx := Lib.hid (show mix s m = s.plus (rounds (schedule m) s 64) from rfl)
      have hok := rounds_ok hs (schedule m) 64
      revert hmx hok H8
      generalize rounds (schedule m) s 64 = S
      intro H8 hmx hok
      have HV2 := Lib.hid (HV1.out.below hbr)
      have hbw := hb1.trans (hbr.mono hbz1)
      have hbwz := hbw.size
      clear hbr HV1 HWAT
      obtain ⟨We, hWe⟩ : ∃ We : World, We = wr := ⟨_, rfl⟩
      subst hWe
      go_wp2
      go_loopw [12, 13] (fun v i w4 => ∃ j : Nat, j ≤ 8 ∧ i = .int .i64 j ∧ Owns w4 We.heap.size 77 v (((mix s m).list.take j).map wordV) ∧ Below We.heap.size We w4) (fun _ i _ => 8 - (intOf i).toNat)
      case atStart => exact ⟨0, by omega, rfl, Owns.of_mem (Mem.new We 77 []) (Nat.le_refl _) 0 0 (Nat.le_refl _) rfl (by simp [maxLen]) rfl, (Below.refl _ _).alloc (Nat.le_refl _) _⟩
      case round =>
        obtain ⟨j, hj, rfl, hown, hb⟩ := hrel
        have HO := Lib.hid hown
        clear hown
        have hbz := hb.size
        by_cases hjl : j < 8
        · have hd : decide ((j : Int) < 8) = true := by simp; omega
          have hj8 : (j : Int) < 8 := by omega
          have hj0 : (0 : Int) ≤ (j : Int) := by omega
          obtain ⟨x, hx⟩ : ∃ x, x = s.list.getD j 0 := ⟨_, rfl⟩
          obtain ⟨y, hy⟩ : ∃ y, y = S.list.getD j 0 := ⟨_, rfl⟩
          have cx : wr.cell? ⟨g, j, none⟩ = some (.int .u32 (x : Int)) := (HV2.out.below hb) j _ (by rw [hx]; exact eight_get s j hjl)
          have cy : wr.cell? ⟨gv, j, none⟩ = some (.int .u32 (y : Int)) := (H8.out.below hb) j _ (by rw [hy]; exact eight_get S j hjl)
          obtain ⟨nx, hnx⟩ : ∃ z, z = (mix s m).list.getD j 0 := ⟨_, rfl⟩
          have hsum : IntKind.u32.wrap ((x : Int) + (y : Int)) = (nx : Int) := by rw [hnx, hmx.out, plus_get s S j hjl, ← hx, ← hy, IntKind.wrap_u32']; omega
          have HNX := Lib.hid hnx
          have hone : ∀ u ∈ [wordV nx], u.oneCell' = true := by intro u hu; simp at hu; subst hu; rfl
          have hlo : ((mix s m).list.take j).length = j := by rw [List.length_take]; exact Nat.min_eq_left (show j ≤ 8 from hj)
          have HLO := Lib.hid hlo
          clear hx hy hnx hlo
          go_wp2_with fail
          go_region_held3 (fun w' => w'.cell? ⟨g, j, none⟩ = some (.int .u32 (x : Int)) ∧ w'.cell? ⟨gv, j, none⟩ = some (.int .u32 (y : Int)))
            (first
              | go_keep
              | (exact keeps_both hkp cx cy (own_other HO.out HV2.out.lt0 hbz) (own_other HO.out H8.out.lt0 hbz)))
            (first
              | (refine step_append_keep ((HO.out.drewN _).alloc _) We.heap.size ((below_drewN hb _).alloc hbz _) (Nat.le_refl _) [wordV nx] (.tmp 118) (.tmp 128) 96 i (.int .u32 0) rfl rfl Tryd.underlying96 HI.out HZ.out HS.out HBY rfl rfl rfl (fun j u hu => cell_news_one _ _ _ j u hu) hone (by rw [List.length_map, HLO.out]; simp; omega) (by simp; omega) ?_; intro v' w5 hown' hb5 hz5 hkp; have HO5 := Lib.hid hown'; clear hown'))
          have HR2 : Hid (Owns w5 We.heap.size 77 v' (((mix s m).list.take (j + 1)).map wordV)) := Lib.hid (by
            have := HO5.out
            rw [HNX.out] at this
            rw [list_take_succ _ j hjl, List.map_append]
            exact this)
          clear hkp hz5 hsum hone
          go_wp2
          go_roundw
          case rel =>
            first
              | exact ⟨j + 1, by omega, by go_num, HR2.out, hb5⟩
              | ((repeat apply Exists.intro); exact ⟨⟨j + 1, by omega, by go_num, HR2.out, hb5⟩, rfl⟩)
          case measure => simp [intOf]; omega
        · have e8 : j = 8 := by omega
          subst e8
          rw [show (mix s m).list.take 8 = (mix s m).list from rfl] at HO
          go_wp2
          go_ret
          exact ⟨_, rfl, owns_base HO.out hbwz, hbw.trans (hb.mono hbwz)⟩
end Go.Proofs.YtblfekecmahagaaDoor

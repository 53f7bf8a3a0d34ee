/-
  Package cutter: New; the reference's End and Cut; the law's Bytes and same.
-/
import Derived.Test.YtbjeiiofanpkdaaDoorCut1
namespace Go.Proofs.YtbjeiiofanpkdaaDoor
open Go.RowKit Crv

theorem sz_tab {t : List Nat} (h : t.length = 256) : (Tryd.prog.info? 89).map (·.size) = some (t.map nV).length := by rw [List.length_map, h]; kernel_rfl
theorem one_nums (t : List Nat) : ∀ v ∈ t.map nV, v.oneCell' = true := by
  intro v hv
  obtain ⟨x, _, rfl⟩ := List.mem_map.1 hv
  rfl
theorem zero_tab : Tryd.zeroCells89 = (List.replicate 256 (nV 0)).toArray := by kernel_rfl
set_option maxHeartbeats 1000000 in
set_option maxRecDepth 100000 in
theorem cutNew_any (b : Nat) (t : List Nat) (w : World) (ht : Tb w b t) :
    Calls Tryd.prog 44 #[pV b] w fun e w' => ∃ tb rb cb, e = .returned (pV cb) ∧ Tb w' tb t ∧ Rl w' rb tb 0 0 ∧ Cu w' cb rb (.slice none 0 0) ∧ Below w.heap.size w w' ∧ w.heap.size ≤ tb ∧ w.heap.size ≤ rb ∧ w.heap.size ≤ cb := by
  have HT := Lib.hid ht
  have SZ := Lib.hid (sz_tab ht.2.1)
  have HLT := Lib.hid (show (t.map nV).length = 256 by rw [List.length_map]; exact ht.2.1)
  have HZ := Lib.hid (show Mem (w.alloc (.cells Tryd.zeroCells89 89)) w.heap.size 89 (List.replicate 256 (nV 0)) by
    rw [zero_tab]
    exact Mem.new w _ _)
  have HB0 := Lib.hid (belowSelf w (.cells Tryd.zeroCells89 89))
  clear ht
  go_enter Tryd.func44, Tryd.ntmps44
  go_wp2_with (first
    | (refine wp_load_mem HT.out.1 89 (.tmp 5) (.array 256 41) rfl rfl rfl Tryd.underlying89 rfl SZ.out ?_)
    | (refine wp_store_mem HZ.out (t.map nV) 89 (.tmp 3) (.tmp 6) rfl rfl rfl rfl SZ.out (by rw [HLT.out]; rfl) (one_nums t) ?_)
    | fail)
  have HTN := Lib.hid (show Tb ((w.alloc (.cells Tryd.zeroCells89 89)).setRow w.heap.size (t.map nV).toArray) w.heap.size t from ⟨HZ.out.setRow _, HT.out.2⟩)
  have HB1 := Lib.hid (below_row HB0.out (Nat.le_refl _) (t.map nV).toArray)
  obtain ⟨W1, hW1⟩ : ∃ W1, W1 = (w.alloc (.cells Tryd.zeroCells89 89)).setRow w.heap.size (t.map nV).toArray := ⟨_, rfl⟩
  rw [← hW1] at HTN HB1 ⊢
  clear hW1 HZ HB0
  refine (over_any w.heap.size W1).mono ?_
  rintro e w2 ⟨rfl, hr2, hb2⟩
  have HB2 := Lib.hid (belowThen HB1.out hb2)
  have HT2 := Lib.hid (HTN.out.below hb2)
  have HS1 := Lib.hid HB1.out.size
  have HS2 := Lib.hid HB2.out.size
  have HC2 := Lib.hid (show Cu (w2.alloc (.cells #[pV W1.heap.size, .slice none 0 0] 98)) w2.heap.size W1.heap.size (.slice none 0 0) from Mem.new w2 _ [pV W1.heap.size, .slice none 0 0])
  have HB3 := Lib.hid (belowSelf w2 (.cells #[pV W1.heap.size, .slice none 0 0] 98))
  have HR2 := Lib.hid hr2
  clear hb2 hr2 HTN HB1
  go_wp2
  go_ret
  exact ⟨w.heap.size, W1.heap.size, w2.heap.size, rfl, HT2.out.below HB3.out, HR2.out.below HB3.out, HC2.out, belowThen HB2.out HB3.out, Nat.le_refl _, HS1.out, HS2.out⟩

set_option maxHeartbeats 2000000 in
set_option maxRecDepth 100000 in
theorem refEnd_any (b : Nat) (t : List Nat) (s : List UInt8) (w : World) (ht : Tb w b t) (hs : s.length ≤ 1099511627776) :
    Calls Tryd.prog 64 #[.slice (some ⟨b, 0, none⟩) 256 256, .string (str s)] w fun e w' => e = .returned (.int .i64 (endOf t s : Nat)) ∧ w = w' := by
  have HT := Lib.hid ht
  have HM8 := Lib.hid (fun W => refMask_any 8 W)
  have HM5 := Lib.hid (fun W => refMask_any 5 W)
  rw [clampM_eight] at HM8
  rw [clampM_five] at HM5
  have hl8 := mask_lt (i := 8) (by omega)
  have hl5 := mask_lt (i := 5) (by omega)
  have HE5 := Lib.hid (fun n v h1 h2 => endsB_mid (n := n) (v := v) h1 h2)
  have HE8 := Lib.hid (fun n v h1 h2 => endsB_low (n := n) (v := v) h1 h2)
  obtain ⟨m8, hm8⟩ : ∃ m, m = maskOf 8 := ⟨_, rfl⟩
  obtain ⟨m5, hm5⟩ : ∃ m, m = maskOf 5 := ⟨_, rfl⟩
  simp only [← hm8] at HM8 hl8 HE8
  simp only [← hm5] at HM5 hl5 HE5
  clear ht hm8 hm5
  go_enter Tryd.func64, Tryd.ntmps64
  go_wp2_with fail
  refine (HM8.out _).mono ?_
  rintro e w' ⟨rfl, rfl⟩
  go_wp2_with fail
  refine (HM5.out _).mono ?_
  rintro e w' ⟨rfl, rfl⟩
  go_wp2_with fail
  go_loopw [7, 8] (fun v i wr => ∃ k : Nat, k ≤ s.length ∧ i = .int .i64 ((k : Int) + 1) ∧ v = nV (rollFrom t 0 (s.take k)) ∧ Hid (∀ j, j < k → stops t 0 0 s j = false) ∧ w = wr) (fun _ i _ => s.length + 1 - (intOf i).toNat)
  case atStart => exact ⟨0, by omega, rfl, rfl, Lib.hid (fun j hj => by omega), rfl⟩
  case round =>
    obtain ⟨k, hk, rfl, rfl, HNO, rfl⟩ := hrel
    by_cases hlt : k < s.length
    · have hd : decide ((k : Int) + 1 ≤ (s.length : Int)) = true := by simp; omega
      have HST := Lib.hid (show rollFrom t 0 (s.take (k + 1)) = roll t (rollFrom t 0 (s.take k)) (s.getD k 0) by
        rw [List.take_succ_eq_append_getElem hlt, rollFrom_append, List.getD_eq_getElem?_getD, List.getElem?_eq_getElem hlt]
        rfl)
      obtain ⟨c, hcc⟩ : ∃ c, c = s.getD k 0 := ⟨_, rfl⟩
      rw [← hcc] at HST
      have hix := fun W => run_index_str (P := Tryd.prog) 9 Tryd.underlying9 s .i64 k hlt W
      rw [← hcc] at hix
      obtain ⟨hcell, hxl⟩ := HT.out.at c
      have hcl : c.toNat < 256 := c.toNat_lt
      have hvl := rollFrom_lt t (s.take k) 0 (by omega)
      have HR := Lib.hid (show roll t (rollFrom t 0 (s.take k)) c = (rollFrom t 0 (s.take k) * 2 + t.getD c.toNat 0) % 18446744073709551616 from rfl)
      have HSP := Lib.hid (show stops t 0 0 s k = endsB (k + 1) (rollFrom t 0 (s.take (k + 1))) by unfold stops; rw [Nat.zero_add])
      have hyl := rollFrom_lt t (s.take (k + 1)) 0 (by omega)
      obtain ⟨x, hxe⟩ : ∃ x, x = t.getD c.toNat 0 := ⟨_, rfl⟩
      rw [← hxe] at HR hcell hxl
      rw [HR.out] at HST
      obtain ⟨y, hye⟩ : ∃ y, y = rollFrom t 0 (s.take (k + 1)) := ⟨_, rfl⟩
      rw [← hye] at HST HSP hyl
      have HY := Lib.hid hye
      obtain ⟨v, hve⟩ : ∃ v, v = rollFrom t 0 (s.take k) := ⟨_, rfl⟩
      rw [← hve] at HST hvl
      simp only [← hve]
      have hwr : IntKind.u64.wrap (IntKind.u64.wrap ((v : Int) * 2) + (x : Int)) = (y : Int) := by rw [HST.out, IntKind.wrap_u64, IntKind.wrap_u64]; omega
      obtain ⟨bb, hbb⟩ : ∃ b, stops t 0 0 s k = b := ⟨_, rfl⟩
      have HBB := Lib.hid hbb
      rw [HSP.out] at hbb
      clear hcc hve HR hxe hye HST
      have HGO := Lib.hid (show stops t 0 0 s k = false → ∀ j, j < k + 1 → stops t 0 0 s j = false from fun h j hj => by
        rcases Nat.lt_or_ge j k with h1 | h1
        · exact HNO.out j h1
        · have e : j = k := by omega
          subst e
          exact h)
      have HEN := Lib.hid (show stops t 0 0 s k = true → endOf t s = k + 1 from fun h => adv_some (firstStop_some hlt h HNO.out))
      by_cases c1 : 256 ≤ k + 1
      · have d1 : decide ((256 : Int) ≤ (k : Int) + 1) = true := by simp; omega
        have HX := Lib.hid (HEN.out (by rw [HSP.out]; exact endsB_long c1))
        clear hbb
        go_wp2_with fail
        go_ret
        exact ⟨by rw [HX.out]; go_num, rfl⟩
      · have d1 : decide ((256 : Int) ≤ (k : Int) + 1) = false := by simp; omega
        by_cases c2 : 96 ≤ k + 1
        · have d2 : decide ((96 : Int) ≤ (k : Int) + 1) = true := by simp; omega
          have d3 : decide ((32 : Int) ≤ (k : Int) + 1) = true := by simp; omega
          have d4 : decide ((k : Int) + 1 < 96) = false := by simp; omega
          have HZ := Lib.hid (fun W => zero_any y m5 bb W hyl hl5 (by rw [← HE5.out (k + 1) y c2 (by omega)]; exact hbb))
          clear hbb
          go_wp2_with fail
          refine (HZ.out _).mono ?_
          rintro e w' ⟨rfl, rfl⟩
          cases bb with
          | true =>
            have HX := Lib.hid (HEN.out HBB.out)
            go_wp2_with fail
            go_ret
            exact ⟨by rw [HX.out]; go_num, rfl⟩
          | false =>
            have HG := Lib.hid (HGO.out HBB.out)
            go_wp2_with fail
            refine ⟨⟨k + 1, by omega, by go_num, by rw [HY.out], HG, trivial⟩, ?_⟩
            simp [intOf]; omega
        · have d2 : decide ((96 : Int) ≤ (k : Int) + 1) = false := by simp; omega
          by_cases c3 : 32 ≤ k + 1
          · have d3 : decide ((32 : Int) ≤ (k : Int) + 1) = true := by simp; omega
            have d4 : decide ((k : Int) + 1 < 96) = true := by simp; omega
            have HZ := Lib.hid (fun W => zero_any y m8 bb W hyl hl8 (by rw [← HE8.out (k + 1) y c3 (by omega)]; exact hbb))
            clear hbb
            go_wp2_with fail
            refine (HZ.out _).mono ?_
            rintro e w' ⟨rfl, rfl⟩
            cases bb with
            | true =>
              have HX := Lib.hid (HEN.out HBB.out)
              go_wp2_with fail
              go_ret
              exact ⟨by rw [HX.out]; go_num, rfl⟩
            | false =>
              have HG := Lib.hid (HGO.out HBB.out)
              go_wp2_with fail
              refine ⟨⟨k + 1, by omega, by go_num, by rw [HY.out], HG, trivial⟩, ?_⟩
              simp [intOf]; omega
          · have d3 : decide ((32 : Int) ≤ (k : Int) + 1) = false := by simp; omega
            have HG := Lib.hid (HGO.out (by rw [HSP.out]; exact endsB_short (by omega)))
            clear hbb
            go_wp2_with fail
            refine ⟨⟨k + 1, by omega, by go_num, by rw [HY.out], HG, trivial⟩, ?_⟩
            simp [intOf]; omega
    · have e : k = s.length := by omega
      subst e
      have hd : decide ((s.length : Int) + 1 ≤ (s.length : Int)) = false := by simp; omega
      have HF := Lib.hid (show endOf t s = s.length from adv_none (firstStop_none HNO.out))
      go_wp2_with fail
      go_ret
      exact ⟨by rw [HF.out]; rfl, rfl⟩
end Go.Proofs.YtbjeiiofanpkdaaDoor

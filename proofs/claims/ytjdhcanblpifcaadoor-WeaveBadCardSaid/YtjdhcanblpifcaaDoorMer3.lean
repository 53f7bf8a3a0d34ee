/-
  Package merkle: Text, Make.
-/
import Derived.Test.YtjdhcanblpifcaaDoorSbd
import Derived.Test.YtjdhcanblpifcaaDoorBld
import Derived.Test.YtjdhcanblpifcaaDoorMer1
namespace Go.Proofs.YtjdhcanblpifcaaDoor
open Go.RowKit Crv

abbrev Ti64 : TypeId := 3
theorem ints_new (w : World) (ks : List Int) (cap : Nat) : Ints (w.alloc (.cells (ks.map fun k => Value.int .i64 k).toArray Ti64)) (.slice (some ⟨w.heap.size, 0, none⟩) ks.length cap) ks := by
  refine ⟨_, cap, by rw [List.length_map], fun i hi => ⟨w.heap.size, 0, rfl, ?_⟩⟩
  rw [Nat.zero_add]
  exact (Mem.new w Ti64 (ks.map fun k => Value.int .i64 k)).cell i
theorem length_ptTxt (p : Pt) (h : p.1.length = 32) (hb : p.2 < 9223372036854775808) : (ptTxt p).length ≤ 41 := by
  have := length_numOf (n := nat0 p.2) (by unfold nat0; omega)
  simp [ptTxt, h]
  omega
theorem length_flatTxt : ∀ (ps : List Pt), (∀ p ∈ ps, p.1.length = 32 ∧ p.2 < 9223372036854775808) → (ps.flatMap ptTxt).length ≤ 41 * ps.length
  | [], _ => by simp
  | p :: r, h => by
    have h1 := length_ptTxt p (h p (by simp)).1 (h p (by simp)).2
    have h2 := length_flatTxt r (fun q hq => h q (by simp [hq]))
    rw [List.flatMap_cons, List.length_append, List.length_cons]
    omega
theorem ptTxt_take_succ (ps : List Pt) (k : Nat) (h : k < ps.length) : (ps.take (k + 1)).flatMap ptTxt = (ps.take k).flatMap ptTxt ++ (ps[k].1 ++ numOf (nat0 ps[k].2)) := by
  rw [List.take_succ_eq_append_getElem h, List.flatMap_append]
  simp [ptTxt]
theorem mem_rng {w : World} {g : Nat} {t : TypeId} {a b : List Value} (h : Mem w g t (a ++ b)) : w.rangeAt g 0 a := fun j u hu => by
  rw [Nat.zero_add, h.cell, List.getElem?_append_left (List.getElem?_eq_some_iff.1 hu).1]
  exact hu
set_option maxRecDepth 100000 in
set_option maxHeartbeats 2000000 in
theorem text_any (lv : Int) (v : Value) (ps : List Pt) (w : World) (h : Pts w v ps) (hn : ps.length ≤ 1000000) (hlv : -9223372036854775808 ≤ lv ∧ lv < 9223372036854775808) (hb : ∀ p ∈ ps, -9223372036854775808 ≤ p.2 ∧ p.2 < 9223372036854775808) :
    Calls Tryd.prog 13 #[.agg #[.int .i64 lv, v]] w fun e w' => e = .returned (.string (str (txtN lv ps))) ∧ Below w.heap.size w w' := by
  obtain ⟨a, cap, rfl, hcap, hc⟩ := h.form
  have HP := Lib.hid h
  have HBD := Lib.hid hb
  have HLT := Lib.hid (length_flatTxt ps (fun p hp => ⟨h.1 p hp, (hb p hp).2⟩))
  have HHD := Lib.hid (show ([lv, (ps.length : Int)].flatMap fun k => numOf (nat0 k)) = numOf (nat0 lv) ++ numOf ps.length by simp [nat0_top])
  have HL0 := Lib.hid (show (numOf (nat0 lv) ++ numOf ps.length).length ≤ 18 by
    have h1 := length_numOf (n := nat0 lv) (by unfold nat0; omega)
    have h2 := length_numOf (n := ps.length) (by omega)
    rw [List.length_append]
    omega)
  have HTX := Lib.hid (show txtN lv ps = (numOf (nat0 lv) ++ numOf ps.length) ++ ps.flatMap ptTxt from rfl)
  obtain ⟨hdr, hhdr⟩ : ∃ q, q = numOf (nat0 lv) ++ numOf ps.length := ⟨_, rfl⟩
  rw [← hhdr] at HHD HL0 HTX
  obtain ⟨W1, hW1⟩ : ∃ W, W = w.alloc (.cells #[.int .i64 lv, .slice a ps.length cap] 25) := ⟨_, rfl⟩
  have hs1 : W1.heap.size = w.heap.size + 1 := by rw [hW1]; simp
  obtain ⟨W2, hW2⟩ : ∃ W, W = W1.alloc (.cells #[.pointer none, .slice none 0 0] Tsb) := ⟨_, rfl⟩
  have HSB := Lib.hid (show Sbm W1.heap.size W1.heap.size [] W2 by rw [hW2]; exact Sbm.new W1)
  have hs2 : W2.heap.size = w.heap.size + 1 + 1 := by rw [hW2, World.size_alloc, hs1]
  have HB2 := Lib.hid (show Below w.heap.size w W2 by rw [hW2, hW1]; exact (belowSelf w _).alloc (by simp) _)
  have hcn0 : W2.cell? ⟨w.heap.size, 0, none⟩ = some (.int .i64 lv) := by rw [hW2, hW1]; exact ((Mem.new w 25 [.int .i64 lv, .slice a ps.length cap]).alloc _).cell 0
  have hcn1 : W2.cell? ⟨w.heap.size, 1, none⟩ = some (.slice a ps.length cap) := by rw [hW2, hW1]; exact ((Mem.new w 25 [.int .i64 lv, .slice a ps.length cap]).alloc _).cell 1
  have HWW1 := Lib.hid hW1
  have HWW2 := Lib.hid hW2
  rw [hs1] at HSB
  have HSZ1 := Lib.hid hs1
  clear hc h hb hhdr hW1 hW2 hs1
  go_enter Tryd.func13, Tryd.ntmps13
  go_wp2_with fail
  have HNU := Lib.hid (nums_any _ _ [lv, (ps.length : Int)] (ints_new W2 [lv, (ps.length : Int)] 2) (by simp) (by simp; omega))
  rw [HHD.out] at HNU
  have hw12 : W2 = (w.alloc (.cells #[.int .i64 lv, .slice a ps.length cap] 25)).alloc (.cells #[.pointer none, .slice none 0 0] Tsb) := by rw [HWW2.out, HWW1.out]
  rw [← hw12]
  rw [hs2] at HNU
  refine HNU.out.mono ?_
  rintro e w3 ⟨rfl, hb3⟩
  have HB3 := Lib.hid (belowThen HB2.out (belowThen (belowSelf W2 _) hb3))
  have hW23 : Below W2.heap.size W2 w3 := belowThen (belowSelf W2 _) hb3
  have HS3 := Lib.hid (HSB.out.below hW23)
  have HSW := Lib.hid (sbWrite (w.heap.size + 1) (w.heap.size + 1) [] hdr w3 HS3.out (by have := HL0.out; simp; omega) (by have := hW23.size; omega))
  clear hb3 HNU hw12
  go_wp2_with fail
  refine HSW.out.mono ?_
  rintro e w4 ⟨rfl, hsb4, hb4, -⟩
  rw [List.nil_append] at hsb4
  have HS4 := Lib.hid hsb4
  have HB24 := Lib.hid (show Below (w.heap.size + 1) W2 w4 from (hW23.mono (by omega)).trans hb4)
  have hd0 : w4.cell? ⟨w.heap.size, 0, none⟩ = some (.int .i64 lv) := (HB24.out.cell (p := ⟨w.heap.size, 0, none⟩) (Nat.lt_succ_self _)).trans hcn0
  have hd1 : w4.cell? ⟨w.heap.size, 1, none⟩ = some (.slice a ps.length cap) := (HB24.out.cell (p := ⟨w.heap.size, 1, none⟩) (Nat.lt_succ_self _)).trans hcn1
  have hsz4 : w.heap.size + 1 ≤ w4.heap.size := by have := HB24.out.size; omega
  clear hsb4 hb4 HSW HS3 HB3 HSB hW23 hcn0 hcn1
  go_wp2_with fail
  go_loopw [17] (fun i wr => ∃ k : Nat, k ≤ ps.length ∧ i = .int .i64 k ∧ Hid (Sbm (w.heap.size + 1) (w.heap.size + 1) (hdr ++ (ps.take k).flatMap ptTxt) wr) ∧ Below (w.heap.size + 1) W2 wr) (fun i _ => ps.length - (intOf i).toNat)
  case atStart => exact ⟨0, by omega, rfl, Lib.hid (by simpa using HS4.out), HB24.out⟩
  case round =>
    clear HS4 HB24 hd0 hd1
    obtain ⟨k, hk, rfl, HSR, hb⟩ := hrel
    have hszr : w.heap.size + 1 ≤ wr.heap.size := by have := hb.size; omega
    have HBW := Lib.hid (show Below w.heap.size w wr from HB2.out.trans (hb.mono (by omega)))
    have HLK := Lib.hid (show (hdr ++ (ps.take k).flatMap ptTxt).length ≤ 50000000 by
      have h1 := HL0.out
      have h2 := length_flatTxt (ps.take k) (fun p hp => ⟨HP.out.1 p (List.mem_of_mem_take hp), (HBD.out p (List.mem_of_mem_take hp)).2⟩)
      have h3 := List.length_take_le k ps
      rw [List.length_append]
      omega)
    by_cases hlt : k < ps.length
    · obtain ⟨a', cap', hv', -, hc'⟩ := (HP.out.below HBW.out).form
      injection hv' with h1 h2 h3
      obtain ⟨g, off, ha, hgl, hrng⟩ := hc' k hlt
      rw [← h1] at ha
      subst ha
      have HAPP := Lib.hid (ptTxt_take_succ ps k hlt)
      obtain ⟨p, hp⟩ : ∃ p, p = ps[k] := ⟨_, rfl⟩
      have hp32 := HP.out.1 p (by rw [hp]; exact List.getElem_mem hlt)
      have hpb := HBD.out p (by rw [hp]; exact List.getElem_mem hlt)
      rw [← hp] at hrng HAPP
      have HRNG := Lib.hid hrng
      have SZ := Lib.hid (sz_pt p hp32)
      have SZI := Lib.hid (sz_id p.1 hp32)
      have HZ := Lib.hid (show (List.replicate 32 (byteV 0) ++ [Value.int .i64 0]).length = (ptC p).length by rw [length_ptC p hp32]; rfl)
      have ONE := Lib.hid (one_ptC p)
      have HC32 := Lib.hid (show (ptC p)[32]? = some (.int .i64 p.2) by simp [ptC, hp32])
      have HBY := Lib.hid (fun W => bytes_any p.1 W hp32)
      have HNK := Lib.hid (show (numOf (nat0 p.2)).length ≤ 9 from length_numOf (by unfold nat0; omega))
      have HX32 := Lib.hid hp32
      obtain ⟨acc, hacc⟩ : ∃ q, q = hdr ++ (ps.take k).flatMap ptTxt := ⟨_, rfl⟩
      have HNX := Lib.hid (show hdr ++ (ps.take (k + 1)).flatMap ptTxt = (acc ++ p.1) ++ numOf (nat0 p.2) by rw [HAPP.out, hacc]; simp [List.append_assoc])
      rw [← hacc] at HSR HLK
      clear hp h1 h2 h3 hc' hrng hp32 hacc HAPP
      have hdk : decide (k < ps.length) = true := by simpa using hlt
      go_wp2_with (first
        | (refine wp_load_row HRNG.out Tpt (.tmp 19) _ rfl rfl rfl Tryd.underlying43 rfl SZ.out ?_)
        | (refine wp_store_gen (B := wr.heap.size) (w0 := wr) (belowSelf wr _) (Nat.le_refl _) (Mem.newAt wr Tpt (List.replicate 32 (byteV 0) ++ [.int .i64 0]) rfl) (ptC p) Tpt (.tmp 5) (.tmp 20) rfl rfl rfl rfl SZ.out HZ.out ONE.out ?_
           intro W5 hm5 hb5 hz5 hk5
           have HM5 := Lib.hid hm5
           have HB5 := Lib.hid hb5
           clear hm5 hb5 hz5 hk5)
        | (refine wp_load_row (b := wr.heap.size) (off := 0) (mem_rng HM5.out) TI (.tmp 21) (.array 32 5) rfl rfl rfl Tryd.underlying41 rfl SZI.out ?_)
        | fail)
      refine (HBY.out _).mono ?_
      rintro e w6 ⟨rfl, hb6⟩
      have HB6 := Lib.hid (belowThen HB5.out hb6)
      have HSW6 := Lib.hid (sbWrite (w.heap.size + 1) (w.heap.size + 1) acc p.1 w6 (HSR.out.below HB6.out) (by have := HLK.out; have := HX32.out; omega) (by have := HB6.out.size; omega))
      have HM6 := Lib.hid (HM5.out.below hb6 HM5.out.lt)
      clear hb6 HB5 HM5
      go_wp2_with fail
      refine HSW6.out.mono ?_
      rintro e w7 ⟨rfl, hsb7, hb7, hkb7⟩
      have HS7 := Lib.hid hsb7
      have HB7 := Lib.hid (show Below (w.heap.size + 1) wr w7 from (HB6.out.mono (by omega)).trans hb7)
      have HM7 := Lib.hid (hkb7.mem HM6.out (by decide) (by decide))
      have hc7 : w7.cell? ⟨wr.heap.size, 32, none⟩ = some (.int .i64 p.2) := (HM7.out.cell 32).trans HC32.out
      have HNU := Lib.hid (nums_any _ _ [p.2] (ints_new w7 [p.2] 1) (by simp) (by simp; omega))
      rw [show ([p.2].flatMap fun k => numOf (nat0 k)) = numOf (nat0 p.2) from by simp] at HNU
      clear HSW6 hsb7 hb7 hkb7 HM6 HM7
      go_wp2_with fail
      refine HNU.out.mono ?_
      rintro e w8 ⟨rfl, hb8⟩
      have HB78 := Lib.hid (belowThen (belowSelf w7 _) hb8)
      have HSW8 := Lib.hid (sbWrite (w.heap.size + 1) (w.heap.size + 1) (acc ++ p.1) (numOf (nat0 p.2)) w8 (HS7.out.below HB78.out) (by rw [List.length_append]; have := HLK.out; have := HX32.out; have := HNK.out; omega) (by have := HB78.out.size; have := HB7.out.size; omega))
      clear hb8 HNU HS7
      go_wp2_with fail
      refine HSW8.out.mono ?_
      rintro e w9 ⟨rfl, hsb9, hb9, -⟩
      rw [← HNX.out] at hsb9
      have HS9 := Lib.hid hsb9
      have HB9 := Lib.hid (show Below (w.heap.size + 1) W2 w9 from hb.trans (HB7.out.trans ((HB78.out.mono (by have := HB7.out.size; omega)).trans hb9)))
      clear hsb9 hb9 HSW8
      go_wp2_with fail
      go_roundw
      case rel => exact ⟨k + 1, by omega, by go_num, HS9, HB9.out⟩
      case measure => simp [intOf]; omega
    · have ek : k = ps.length := by omega
      subst ek
      rw [List.take_length, ← HTX.out] at HSR
      have HST := Lib.hid (sbText (w.heap.size + 1) (w.heap.size + 1) (txtN lv ps) wr HSR.out hszr)
      have hdk : decide (ps.length < ps.length) = false := by simp
      clear HSR HLK
      go_wp2_with fail
      refine HST.out.mono ?_
      rintro e w5 ⟨rfl, hb5⟩
      go_wp2_with fail
      go_ret
      exact ⟨rfl, HBW.out.trans (hb5.mono (by omega))⟩
end Go.Proofs.YtjdhcanblpifcaaDoor

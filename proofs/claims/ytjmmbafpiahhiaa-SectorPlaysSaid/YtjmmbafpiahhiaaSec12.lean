/-
  Layer 3's laws: awake.
-/
import Derived.Test.YtjmmbafpiahhiaaSec11
namespace Go.Proofs.Ytjmmbafpiahhiaa
open Go.RowKit Go.Maps Go.Sort Go.Shelf Crv

theorem Only.belowW {S : List Nat} {w0 w w' : World} (h : Below w0.heap.size w0 w) (ho : Only S w w') (hs : ∀ i ∈ S, w0.heap.size ≤ i) : Below w0.heap.size w0 w' := h.trans (ho.below h.size hs)
theorem three_ge {B fb cb mb : Nat} (h1 : B ≤ fb) (h2 : B ≤ cb) (h3 : B ≤ mb) : ∀ i ∈ [fb, cb, mb], B ≤ i := by
  intro i hi
  simp only [List.mem_cons, List.not_mem_nil, or_false] at hi
  rcases hi with rfl | rfl | rfl <;> assumption
theorem Zs.new {w : World} {t : TypeId} (xs : List Int) (cap : Nat) : Zs (w.alloc (.cells (xs.map encZ).toArray t)) (.slice (some ⟨w.heap.size, 0, none⟩) xs.length cap) xs :=
  ⟨_, cap, rfl, fun i hi => ⟨w.heap.size, 0, rfl, by
    rw [Nat.zero_add, (Mem.new w t (xs.map encZ)).cell, List.getElem?_map, List.getD_eq_getElem?_getD, List.getElem?_eq_getElem hi]
    rfl⟩⟩

section
variable {w w' : World} {fb cb mb db sz : Nat} {a : Bool} {k : Int} {bs : List UInt8} {n : Nat} {D : DataW Unit}
/-- Write of one text. -/
theorem write_one (i : Nat) (v : Value) (l : List UInt8) (hv : Txs w v [l]) (hn : n + 1 < 1000000) (h : Dk w fb cb mb db sz a k bs n D) (hi : i < sz) (hl : l.length ≤ 64) (ho : okS a k = true) :
    Calls Try.prog 23 #[ptr db, .int .i64 (i : Int), v] w fun e w' => e = .returned (.int .i64 0) ∧ Dk w' fb cb mb db sz a (leftS a k) (putS bs i l) (n + 1) (looseD D bs i) ∧ Only [fb, cb, mb] w w' :=
  write_ok i v [l] hv hn h hi (by intro x hx; rw [List.mem_singleton.1 hx]; exact hl) ho
end
theorem aw_read : rowS (crTo (putS (putS (List.replicate (64 * 2) 0) 0 [97, 98]) 0 [120, 121]) (looseT (fun _ => none) (putS (List.replicate (64 * 2) 0) 0 [97, 98]) 0) (looseL (looseT (fun _ => none) (putS (List.replicate (64 * 2) 0) 0 [97, 98]) 0) 2) [1] (looseL (looseT (fun _ => none) (putS (List.replicate (64 * 2) 0) 0 [97, 98]) 0) 2).length) 0 1 = 120 :: 98 :: 0 :: List.replicate 61 0 := by kernel_rfl
theorem aw_size : (str (120 :: 98 :: 0 :: List.replicate 61 0)).size = 64 := by kernel_rfl
theorem aw_take : (((str (120 :: 98 :: 0 :: List.replicate 61 0)).extract 0 3).toList == [120, 98, 0]) = true := by kernel_rfl

set_option maxHeartbeats 1000000 in
set_option maxRecDepth 100000 in
theorem awake3_any (w : World) : Calls Try.prog 9 #[] w fun e w' => e = .returned (.bool true) ∧ Below w.heap.size w w' := by
  have HN := Lib.hid (new_any 2 (by omega) w)
  have HAR := Lib.hid aw_read
  obtain ⟨b0, hb0⟩ : ∃ b, b = List.replicate (64 * 2) (0 : UInt8) := ⟨_, rfl⟩
  rw [← hb0] at HN HAR
  clear hb0
  obtain ⟨b1, hb1e⟩ : ∃ b, b = putS b0 0 [97, 98] := ⟨_, rfl⟩
  have E1 := Lib.hid hb1e
  rw [← hb1e] at HAR
  clear hb1e
  obtain ⟨T, hTe⟩ : ∃ T, T = looseT (fun _ => none) b1 0 := ⟨_, rfl⟩
  have E2 := Lib.hid hTe
  rw [← hTe] at HAR
  clear hTe
  obtain ⟨b2, hb2e⟩ : ∃ b, b = putS b1 0 [120, 121] := ⟨_, rfl⟩
  have E3 := Lib.hid hb2e
  rw [← hb2e] at HAR
  clear hb2e
  obtain ⟨res, hres⟩ : ∃ r : List UInt8, r = 120 :: 98 :: 0 :: List.replicate 61 0 := ⟨_, rfl⟩
  have hrl : res.length = 64 := by rw [hres]; exact aw_size
  have hx3 : (((str res).extract 0 3).toList == [120, 98, 0]) = true := by rw [hres]; exact aw_take
  rw [← hres] at HAR
  clear hres
  go_enter Try.func9, Try.ntmps9
  go_wp2_with fail
  refine HN.out.mono ?_
  rintro e w1 ⟨fb, cb, mb, db, rfl, hd1, hb1, g1, g2, g3, g4⟩
  have HG := Lib.hid (three_ge g1 g2 g3)
  have HW := Lib.hid (write_one 0 (.slice (some ⟨w1.heap.size, 0, none⟩) 1 1) [97, 98] (Txs.new (w := w1) (t := 9) [[97, 98]] 1) (by omega) (hd1.below (belowSelf w1 _)) (by omega) (by decide) rfl)
  rw [← E1.out] at HW
  have HB1 := Lib.hid (belowThen hb1 (belowSelf w1 (.cells #[tx [97, 98]] 9)))
  clear HN hd1 hb1
  go_wp2_with fail
  refine HW.out.mono ?_
  rintro e w2 ⟨rfl, hd2, ho2⟩
  have HB2 := Lib.hid (Only.belowW HB1.out ho2 HG.out)
  have HS := Lib.hid (sync_ok hd2 rfl)
  clear HW HB1 hd2 ho2
  go_wp2_with fail
  refine HS.out.mono ?_
  rintro e w3 ⟨rfl, hd3, ho3, -⟩
  have HLB1 := Lib.hid hd3.len
  have HB3 := Lib.hid (Only.belowW HB2.out ho3 HG.out)
  have HW := Lib.hid (write_one 0 (.slice (some ⟨w3.heap.size, 0, none⟩) 1 1) [120, 121] (Txs.new (w := w3) (t := 9) [[120, 121]] 1) (by omega) (hd3.below (belowSelf w3 _)) (by omega) (by decide) rfl)
  rw [← E3.out] at HW
  have HB4 := Lib.hid (belowThen HB3.out (belowSelf w3 (.cells #[tx [120, 121]] 9)))
  clear HS HB2 HB3 hd3 ho3
  go_wp2_with fail
  refine HW.out.mono ?_
  rintro e w4 ⟨rfl, hd4, ho4⟩
  have HB5 := Lib.hid (Only.belowW HB4.out ho4 HG.out)
  have HD4 := Lib.hid hd4
  clear HW HB4 hd4 ho4
  have hlt1 := HD4.out.f.lt
  have hlt2 := HD4.out.c.lt
  have hlt3 := HD4.out.m.lt
  have HDU := Lib.hid ((Du.none 2).loose (bs := b1) isMap_empty (show 0 < 2 by omega) (length_rowS HLB1.out (show 0 + 1 ≤ 2 by omega)))
  rw [← E2.out] at HDU
  have HC := Lib.hid (crash_any (.slice (some ⟨w4.heap.size, 0, none⟩) 1 1) [1] T (Zs.new (w := w4) (t := TN) [1] 1) (fun _ g hg => by
    injection hg with hg
    subst hg
    simp only [List.mem_cons, List.not_mem_nil, or_false, not_or]
    exact ⟨by omega, by omega, by omega⟩) (by simp) (by omega) (HD4.out.below (belowSelf w4 _)) HDU.out)
  have HB6 := Lib.hid (belowThen HB5.out (belowSelf w4 (.cells #[.int .i64 1] TN)))
  clear HB5 HD4 HDU hlt1 hlt2 hlt3
  go_wp2_with fail
  refine HC.out.mono ?_
  rintro e w5 ⟨rfl, hd5, ho5⟩
  have HB7 := Lib.hid (Only.belowW HB6.out ho5 HG.out)
  have HR := Lib.hid (read_ok 0 1 hd5 (by omega) rfl)
  rw [HAR.out] at HR
  clear HC HB6 hd5 ho5
  go_wp2_with fail
  refine HR.out.mono ?_
  rintro e w6 ⟨rfl, hd6, ho6, -⟩
  have HB8 := Lib.hid (Only.belowW HB7.out ho6 HG.out)
  have HZ := Lib.hid (size_any hd6)
  clear HR HB7 hd6 ho6
  go_wp2_with fail
  refine HZ.out.mono ?_
  rintro e w7 ⟨rfl, rfl⟩
  go_wp2
  go_ret
  exact ⟨rfl, HB8.out⟩
end Go.Proofs.Ytjmmbafpiahhiaa

/-
  MerkleReads.
-/
import Derived.Test.YtjdhcanblpifcaaDoorMLaw0
import Derived.Test.YtjdhcanblpifcaaDoorMLaw1
namespace Go.Proofs.YtjdhcanblpifcaaDoor
open Go.RowKit Crv

set_option maxRecDepth 100000 in
set_option maxHeartbeats 600000 in
theorem merkleReads_walk (s0 : List UInt8) (w : World) (hc : Consts w) :
    Calls Tryd.prog 3 #[.string (str s0)] w fun e w' => e = .returned (.bool true) ∧ Below w.heap.size w w' := by
  have HC := Lib.hid hc
  have HCU := Lib.hid (fun W => cutB s0 400 (by omega) W)
  rw [show (400 : Int).toNat = 400 from rfl] at HCU
  obtain ⟨l, hl⟩ : ∃ l, l = s0.take 400 := ⟨_, rfl⟩
  rw [← hl] at HCU
  clear hl hc
  have HPA := Lib.hid (fun W => parse_any l W)
  have HRP := Lib.hid (fun W => rparse_any l W)
  have HOK := Lib.hid (parse_ok l)
  obtain ⟨lv, ps, er, hp⟩ : ∃ a b c, parseN l = (a, b, c) := ⟨_, _, _, rfl⟩
  rw [hp] at HPA HRP HOK
  simp only at HPA HRP HOK
  have HLEN := Lib.hid (show ps.length ≤ 8 by
    by_cases h0 : er = 0
    · exact (HOK.out h0).2.2.2.1
    · have : (parseN l).2.1 = [] := by
        have h1 : (parseN l).2.2 ≠ 0 := by rw [hp]; exact h0
        unfold parseN at h1 ⊢
        simp only at h1 ⊢
        split
        · rfl
        · rename_i h2
          rw [if_neg h2] at h1
          split
          · rfl
          · rename_i h3
            rw [if_neg h3] at h1
            exact absurd rfl h1
      rw [hp] at this
      simp only at this
      rw [this]
      simp)
  clear hp
  go_enter Tryd.func3, Tryd.ntmps3
  go_wp2_with fail
  refine (HCU.out _).mono ?_
  rintro e w0 ⟨rfl, rfl⟩
  go_wp2_with fail
  refine (HPA.out _).mono ?_
  rintro e w1 ⟨v1, rfl, hp1, hb1⟩
  obtain ⟨a1, c1, hv1, -, -⟩ := hp1.form
  subst hv1
  have HP1 := Lib.hid hp1
  have HB1 := Lib.hid hb1
  clear hp1 hb1 HPA
  go_wp2_with fail
  refine (HRP.out _).mono ?_
  rintro e w2 ⟨v2, rfl, hp2, hb2⟩
  obtain ⟨a2, c2, hv2, -, -⟩ := hp2.form
  subst hv2
  have HB2 := Lib.hid (belowThen (belowSelf w1 _) hb2)
  have HP2 := Lib.hid hp2
  have HN1 := Lib.hid ((Mem.new w1 Tnd [.int .i64 lv, .slice a1 ps.length c1]).below hb2 (by simp))
  have HAW := Lib.hid (awake9_any (w2.alloc (.cells #[.int .i64 lv, .slice a2 ps.length c2] Trn)) ((HC.out.below (belowThen HB1.out HB2.out)).below (belowSelf _ _)))
  clear hp2 hb2 HRP
  go_wp2_with fail
  refine HAW.out.mono ?_
  rintro e w3 ⟨rfl, hb3⟩
  have HB3 := Lib.hid (belowThen HB2.out (belowThen (belowSelf w2 _) hb3))
  have HN3 := Lib.hid ((HN1.out.alloc _).below hb3 (HN1.out.alloc _).lt)
  have HR3 := Lib.hid ((Mem.new w2 Trn [.int .i64 lv, .slice a2 ps.length c2]).below hb3 (by simp))
  have HIS := Lib.hid (is9_any lv (.slice a1 ps.length c1) (.slice a2 ps.length c2) ps w3 (HP1.out.below HB3.out) ((HP2.out.below (belowSelf w2 _)).below hb3) (by have := HLEN.out; omega))
  have n0 : w3.cell? ⟨w1.heap.size, 0, none⟩ = some (.int .i64 lv) := HN3.out.cell 0
  have n1 : w3.cell? ⟨w1.heap.size, 1, none⟩ = some (.slice a1 ps.length c1) := HN3.out.cell 1
  have r0 : w3.cell? ⟨w2.heap.size, 0, none⟩ = some (.int .i64 lv) := HR3.out.cell 0
  have r1 : w3.cell? ⟨w2.heap.size, 1, none⟩ = some (.slice a2 ps.length c2) := HR3.out.cell 1
  clear hb3 HAW
  go_wp2_with fail
  refine HIS.out.mono ?_
  rintro e w4 ⟨rfl, hb4⟩
  have HN4 := Lib.hid (HN3.out.below hb4 HN3.out.lt)
  have HB4 := Lib.hid (belowThen HB3.out hb4)
  clear hb4 HIS n0 n1 r0 r1
  by_cases her : er = 0
  · subst her
    obtain ⟨h1, h2, h3, h4, h5, h6⟩ := HOK.out rfl
    have HTX := Lib.hid (text_any lv (.slice a1 ps.length c1) ps w4 (HP1.out.below HB4.out) (by omega) (by omega) (fun p hp => by have := h3 p hp; omega))
    rw [← h1] at HTX
    have n0 : w4.cell? ⟨w1.heap.size, 0, none⟩ = some (.int .i64 lv) := HN4.out.cell 0
    have n1 : w4.cell? ⟨w1.heap.size, 1, none⟩ = some (.slice a1 ps.length c1) := HN4.out.cell 1
    clear h1 h2 h3 h4 h5 h6 HOK
    go_wp2_with fail
    refine HTX.out.mono ?_
    rintro e w5 ⟨rfl, hb5⟩
    go_wp2_with fail
    go_ret
    exact ⟨rfl, belowThen HB1.out (belowThen HB4.out hb5)⟩
  · have hne : ((er : Int) != 0) = true := by simpa using her
    clear HOK
    go_wp2_with fail
    go_ret
    exact ⟨rfl, belowThen HB1.out HB4.out⟩
end Go.Proofs.YtjdhcanblpifcaaDoor

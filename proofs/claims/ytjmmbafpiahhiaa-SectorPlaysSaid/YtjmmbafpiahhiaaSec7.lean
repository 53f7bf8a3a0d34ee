/-
  Package sector: Write where it goes well.
-/
import Derived.Test.YtjmmbafpiahhiaaSec6
namespace Go.Proofs.Ytjmmbafpiahhiaa
open Go.RowKit Go.Maps Crv

theorem wp_copy_all {P : Program} {ops : Array Oper} {rest : List Oper} {o : Oper} {a : Act} {w : World} {Q : Exit → Act → World → Prop} {g : Nat} {t : TypeId} {cs : List Value} (hm : Mem w g t cs) (new : List Value) (d x : Operand) (dT sT elem : TypeId) (off dLen dCap : Nat) (l : List UInt8)
    (hgd : o.guard = none) (ho : o.op = .call { callee := .builtin .copy, args := #[d, x], argTypes := #[dT, sT] }) (hd : a.eval d = .slice (some ⟨g, off, none⟩) dLen dCap) (hx : a.eval x = .string (str l))
    (hu : P.underlying dT = some (.slice elem)) (hs : (P.info? elem).map (·.size) = some 1) (hfit : off + dLen ≤ cs.length) (hle : l.length ≤ dLen)
    (hnew : cs.take off ++ ((l.take (min l.length dLen)).map byteV ++ cs.drop (off + min l.length dLen)) = new)
    (h : ∀ W, Mem W g t new → w.grownBy W (some g) → wpList P ops Q rest (a.put o.dst (.int .i64 (l.length : Int))) W) : wpList P ops Q (o :: rest) a w := by
  subst hnew
  refine wp_copy_str hm d x dT sT elem off dLen dCap l hgd ho hd hx hu hs hfit ?_
  have e : ((min l.length dLen : Nat) : Int) = (l.length : Int) := by rw [Nat.min_eq_left hle]
  rw [e]
  exact h _ (hm.setRow _) (grown_row (grownRefl _ _) _)

section
variable {w w' : World} {fb cb mb db sz : Nat} {a : Bool} {k : Int} {bs : List UInt8} {n : Nat} {D : DataW Unit}
theorem clear_sec {bs1 bs2 : List UInt8} {off m c : Nat} (h : Dk w fb cb mb db sz a k bs1 n D) (hm : off + m ≤ bs1.length) (hl : bs2.length = bs1.length)
    (he : (bs1.map byteV).take off ++ (List.replicate m (byteV 0) ++ (bs1.map byteV).drop (off + m)) = bs2.map byteV) :
    ∃ W, (∀ ty, (Builtin.clear_ #[38] ty #[.slice (some ⟨cb, off, none⟩) m c]).run Try.prog w = .ok (.tuple #[]) W) ∧ Dk W fb cb mb db sz a k bs2 n D ∧ w.grownBy W (some cb) := by
  by_cases h0 : m = 0
  · subst h0
    refine ⟨w, fun ty => clear_none Try.underlying38 _ _ ty, ?_, grownRefl _ _⟩
    have e : bs1 = bs2 := bytes_inj (by simpa using he)
    rw [← e]
    exact h
  · have hr := h.c.hasRow off m (by simpa using hm)
    refine ⟨_, fun ty => Lib.run_clear_slice w _ _ ty (byteV 0) Try.underlying38 (fun w => by kernel_rfl) rfl rfl cb off m c (by omega) (fun j hj => (hr j hj).1) (fun j hj => (hr j hj).2), ?_, grown_cells _ _ _ (grownRefl _ _)⟩
    have hM := setCells_row (List.replicate m (byteV 0)) off w _ h.c (by simpa using hm)
    rw [List.length_replicate, he] at hM
    exact h.bytes (grown_cells _ _ _ (grownRefl _ _)) hM hl
theorem length_wrTo {bs : List UInt8} {D : DataW Unit} {i sz : Nat} {ls : List (List UInt8)} (hb : bs.length = 64 * sz) (hi : i + ls.length ≤ sz) (hl : ∀ l ∈ ls, l.length ≤ 64) : ∀ j, j ≤ ls.length → (wrTo bs D i ls j).1.length = 64 * sz
  | 0, _ => hb
  | j + 1, h => by
    have ih := length_wrTo (D := D) hb hi hl j (by omega)
    show (putS _ _ _).length = _
    rw [length_putS ih (show i + j < sz by omega) (hl _ (by
      rw [List.getD_eq_getElem?_getD, List.getElem?_eq_getElem (by omega)]; exact List.getElem_mem _)), ih]
set_option maxHeartbeats 2000000 in
set_option maxRecDepth 100000 in
theorem write_ok (i : Nat) (v : Value) (ls : List (List UInt8)) (hv : Txs w v ls) (hn : n + ls.length < 1000000) (h : Dk w fb cb mb db sz a k bs n D) (hh : i + ls.length ≤ sz) (hl : ∀ l ∈ ls, l.length ≤ 64) (ho : okS a k = true) :
    Calls Try.prog 23 #[ptr db, .int .i64 (i : Int), v] w fun e w' => e = .returned (.int .i64 0) ∧ Dk w' fb cb mb db sz a (leftS a k) (wrTo bs D i ls ls.length).1 (n + ls.length) (wrTo bs D i ls ls.length).2 ∧ Only [fb, cb, mb] w w' := by
  have hm := h.most
  have HA := Lib.hid (has_any (i : Int) ls.length (by omega) h)
  have HC := Lib.hid (contains_any w v ls hv (by omega))
  have HS := Lib.hid (spend_any h)
  have c0 : w.cell? ⟨db, 0, none⟩ = some (ptr fb) := h.d.cell 0
  have HV := Lib.hid hv
  have H := Lib.hid h
  have HLS := Lib.hid hl
  have HB := Lib.hid h.len
  obtain ⟨ad, cap, rfl, _⟩ := hv
  rw [show hasS sz i ls.length = true by simp [hasS]; omega] at HA
  rw [show longS ls = false by
    unfold longS
    rw [List.any_eq_false]
    intro l hm
    have := hl l hm
    simp; omega] at HC
  rw [ho] at HS
  clear h ho hl
  go_enter Try.func23, Try.ntmps23
  go_wp2_with fail
  refine HA.out.mono ?_
  rintro e w1 ⟨rfl, rfl⟩
  go_wp2_with fail
  refine HC.out.mono ?_
  rintro e w1 ⟨rfl, rfl⟩
  go_wp2_with fail
  refine HS.out.mono ?_
  rintro e w1 ⟨rfl, hd, hon, hsz⟩
  have HD1 := Lib.hid hd
  have HO1 := Lib.hid hon
  have HV1 := Lib.hid (HV.out.only H.out hon)
  clear hd hon hsz HA HC HS
  go_wp2_with fail
  go_loopw [28] (fun x wr => ∃ j : Nat, j ≤ ls.length ∧ x = .int .i64 j ∧ Hid (Dk wr fb cb mb db sz a (leftS a k) (wrTo bs D i ls j).1 (n + j) (wrTo bs D i ls j).2) ∧ Hid (Only [fb, cb, mb] w1 wr)) (fun x _ => ls.length - (intOf x).toNat)
  case atStart => exact ⟨0, by omega, rfl, HD1, Lib.hid (Only.refl _ _)⟩
  case round =>
    obtain ⟨j, hj, rfl, HDR, HOR⟩ := hrel
    by_cases hlt : j < ls.length
    · obtain ⟨s, hs⟩ : ∃ s, s = ls.getD j [] := ⟨_, rfl⟩
      obtain ⟨a', cap', hv', hc'⟩ := HV1.out.only HD1.out HOR.out
      injection hv' with h1 h2 h3
      obtain ⟨b, off, ha, hcell⟩ := hc' j hlt
      rw [← h1] at ha
      subst ha
      rw [← hs] at hcell
      have hmem : s ∈ ls := by rw [hs, List.getD_eq_getElem?_getD, List.getElem?_eq_getElem hlt]; exact List.getElem_mem hlt
      have hsl := HLS.out s hmem
      have HLO := Lib.hid (loosen_any (i + j) (by omega) (by omega) HDR.out)
      have HSE := Lib.hid (fun (W : World) (bs' : List UInt8) (n' : Nat) (D' : DataW Unit) (h : Dk W fb cb mb db sz a (leftS a k) bs' n' D') => sector_any (i + j) (by omega) h)
      simp only [Int.natCast_add] at HLO HSE
      have HNX := Lib.hid (show wrTo bs D i ls (j + 1) = (putS (wrTo bs D i ls j).1 (i + j) s, looseD (wrTo bs D i ls j).2 (wrTo bs D i ls j).1 (i + j)) by rw [hs]; rfl)
      have HLN := Lib.hid (length_wrTo (D := D) HB.out hh HLS.out j hj)
      obtain ⟨bj, hbj⟩ : ∃ b, b = (wrTo bs D i ls j).1 := ⟨_, rfl⟩
      obtain ⟨Dj, hDj⟩ : ∃ b, b = (wrTo bs D i ls j).2 := ⟨_, rfl⟩
      rw [← hbj, ← hDj] at HNX HDR HLO
      rw [← hbj] at HLN
      have HP1 := Lib.hid (put_copy bj (i + j) s hsl)
      have HP2 := Lib.hid (put_clear bj (i + j) sz s HLN.out (by omega) hsl)
      have HP3 := Lib.hid (length_putS (i := i + j) HLN.out (by omega) hsl)
      clear hs h1 h2 h3 hc' hmem hbj hDj
      have hd : decide (j < ls.length) = true := by simp; omega
      go_wp2_with fail
      refine HLO.out.mono ?_
      rintro e w2 ⟨rfl, hd2, ho2⟩
      have HD2 := Lib.hid hd2
      have HO2 := Lib.hid (HOR.out.trans ho2)
      clear hd2 ho2 HLO HDR HOR
      go_wp2_with fail
      refine (HSE.out _ _ _ _ HD2.out).mono ?_
      rintro e w3 ⟨rfl, rfl⟩
      by_cases hE : 64 * sz - 64 * (i + j) = s.length
      · have hs64 : s.length = 64 := by omega
        go_wp2_with (first
          | (refine wp_copy_all HD2.out.c _ (.tmp 44) (.tmp 45) 38 9 TB (64 * (i + j)) 64 _ s rfl rfl rfl rfl Try.underlying38 (by kernel_rfl) (by rw [List.length_map, HLN.out]; omega) hsl HP1.out ?_
             intro W4 hm4 hg4
             rw [put_full bj (i + j) s hs64] at hm4
             have HD5 := Lib.hid (HD2.out.bytes hg4 hm4 HP3.out)
             have HO5 := Lib.hid (HO2.out.trans (Only.grown hg4 (show cb ∈ [fb, cb, mb] by simp)))
             have hcl := fun (ad : Option Addr) (c : Nat) (ty : TypeId) => clear_none (P := Try.prog) (w := W4) Try.underlying38 ad c ty
             clear hm4 hg4 HD2 HO2)
          | fail)
        refine ⟨⟨j + 1, by omega, by go_num, Lib.hid (by rw [HNX.out]; exact HD5.out), HO5⟩, ?_⟩
        simp [intOf]; omega
      · go_wp2_with (first
          | (refine wp_copy_all HD2.out.c _ (.tmp 44) (.tmp 45) 38 9 TB (64 * (i + j)) 64 _ s rfl rfl rfl rfl Try.underlying38 (by kernel_rfl) (by rw [List.length_map, HLN.out]; omega) hsl HP1.out ?_
             intro W4 hm4 hg4
             have hd4 := HD2.out.bytes hg4 hm4 (by simp only [List.length_append, List.length_take, List.length_drop, HLN.out]; omega)
             obtain ⟨W5, hcl, hd5, hg5⟩ := clear_sec (bs2 := putS bj (i + j) s) (off := 64 * (i + j) + s.length) (m := 64 - s.length) (c := 64 * sz - 64 * (i + j) - s.length) hd4 (by simp only [List.length_append, List.length_take, List.length_drop, HLN.out]; omega) (by rw [HP3.out]; simp only [List.length_append, List.length_take, List.length_drop, HLN.out]; omega) HP2.out
             have HD5 := Lib.hid hd5
             have HO5 := Lib.hid ((HO2.out.trans (Only.grown hg4 (show cb ∈ [fb, cb, mb] by simp))).trans (Only.grown hg5 (show cb ∈ [fb, cb, mb] by simp)))
             clear hm4 hg4 hd4 hd5 hg5 HD2 HO2)
          | fail)
        go_wp2
        go_roundw
        case rel => exact ⟨j + 1, by omega, by go_num, Lib.hid (by rw [HNX.out]; exact HD5.out), HO5⟩
        case measure => simp [intOf]; omega
    · have ek : j = ls.length := by omega
      subst ek
      go_wp2
      go_ret
      exact ⟨rfl, HDR.out, HO1.out.trans HOR.out⟩
end
end Go.Proofs.Ytjmmbafpiahhiaa

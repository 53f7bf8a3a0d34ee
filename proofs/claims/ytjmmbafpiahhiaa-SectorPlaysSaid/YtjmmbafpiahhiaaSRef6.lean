/-
  The document's disk: Write.
-/
import Derived.Test.YtjmmbafpiahhiaaSRef5
import Derived.Test.YtjmmbafpiahhiaaSec17
namespace Go.Proofs.Ytjmmbafpiahhiaa
open Go.RowKit Go.Maps Crv
theorem _root_.Crv.Owns.setAt {w : World} {B b n c i : Nat} {T : TypeId} {xs : List Value} (h : Owns w B T (.slice (some ⟨b, 0, none⟩) n c) xs) (u : Value) : Owns (w.setCell ⟨b, i, none⟩ u) B T (.slice (some ⟨b, 0, none⟩) n c) (xs.set i u) := by
  have hf := h.form
  obtain ⟨a', cap', hv, -, -, -⟩ := hf
  injection hv with _ hv2 _
  rcases h.2 with ⟨hv, _⟩ | ⟨g, cap, cur, hv, hB, hm, hn, hc, hs, ht⟩
  · cases hv
  · injection hv with h1 h2 h3
    injection h1 with h1
    injection h1 with h1
    subst h1 h3
    have hm' : Mem w b T cur.toList := by unfold Mem; simpa using hm
    refine Owns.of_mem (hm'.set i u) hB _ _ (by omega) (by simpa using hs) hc ?_
    simp only [Nat.mul_one] at ht
    rw [← ht, h2, List.take_set]
theorem _root_.Crv.Owns.otherCell {w : World} {B b i : Nat} {T T' : TypeId} {v u : Value} {xs cs : List Value} (h : Owns w B T v xs) {B' n c : Nat} (h' : Owns w B' T' (.slice (some ⟨b, 0, none⟩) n c) cs) (hT : T ≠ T') : Owns (w.setCell ⟨b, i, none⟩ u) B T v xs :=
  h.of_below fun g hg => Below.heap_setCell _ _ _ _ (fun e => by
    have e' : g = b := e
    subst e'
    obtain ⟨c1, h1⟩ := own_tag h g hg
    obtain ⟨c2, h2⟩ := own_tag h' g rfl
    rw [h1] at h2
    injection h2 with h2
    injection h2 with _ h2
    exact hT h2)
set_option maxRecDepth 100000 in
set_option maxHeartbeats 400000 in
theorem rwrite_out (v : Value) (sz : Nat) (bs : List UInt8) (du : Tab) (f at_ : Int) (ta : Option Addr) (n tc : Nat) (w : World) (h : Rf w v sz bs du f) (ha : at_ ≤ 9223372036854775807) (hs : sz ≤ 65536) (hh : hasS sz at_ (n : Int) = false) :
    Calls Try.prog 28 #[v, .int .i64 at_, .slice ta n tc] w fun e w' => e = .returned (.tuple #[v, .int .i64 10]) ∧ Below w.heap.size w w' := by
  obtain ⟨a1, a2, a3, c1, c2, c3, rfl, -, -, -⟩ := h
  have HI := Lib.hid (fun W => rin_any a1 a2 a3 c1 c2 c3 f at_ (n : Int) sz W ha hs)
  rw [hh] at HI
  have HX0 := Lib.hid (Bx.new w (rdC a1 a2 a3 c1 c2 c3 sz f) zRd)
  have ONE := Lib.hid (oneRd a1 a2 a3 c1 c2 c3 sz f)
  clear hh ha hs
  go_enter Try.func28, Try.ntmps28
  go_wp2_with fail
  refine (HI.out _).mono ?_
  rintro e w1 ⟨rfl, hb1⟩
  have HX1 := Lib.hid (HX0.out.below hb1)
  clear hb1
  go_wp2_with (first
    | (refine wp_load_mem HX1.out.d TRd (.tmp 3) _ rfl rfl rfl Try.underlying29 rfl szRd ?_)
    | (refine wp_store_gen (B := w.heap.size) (w0 := w) HX1.out.b (Nat.le_succ _) HX1.out.r (rdC a1 a2 a3 c1 c2 c3 sz f) TRd (.tmp 6) (.tmp 21) rfl rfl rfl rfl szRd rfl ONE.out ?_
       intro W2 hm2 hb2 hz2 hk2
       have HX2 := Lib.hid (HX1.out.setR hm2 hb2 hk2)
       clear hm2 hb2 hz2 hk2)
    | fail)
  exact bodyPost_ret (sres2 HX2.out.r rfl _ _ rfl Try.underlying29 rfl szRd) rfl ⟨rfl, HX2.out.b⟩
set_option maxRecDepth 100000 in
set_option maxHeartbeats 600000 in
theorem rwrite_long (v : Value) (sz : Nat) (bs : List UInt8) (du : Tab) (f at_ : Int) (tv : Value) (ls : List (List UInt8)) (w : World) (h : Rf w v sz bs du f) (hv : Txs w tv ls) (hn : ls.length ≤ 1000) (ha : at_ ≤ 9223372036854775807) (hs : sz ≤ 65536) (hh : hasS sz at_ ls.length = true) (hl : ∃ l ∈ ls, 64 < l.length) :
    Calls Try.prog 28 #[v, .int .i64 at_, tv] w fun e w' => e = .returned (.tuple #[v, .int .i64 10]) ∧ Below w.heap.size w w' := by
  obtain ⟨a1, a2, a3, c1, c2, c3, rfl, -, -, -⟩ := h
  have HI := Lib.hid (fun W => rin_any a1 a2 a3 c1 c2 c3 f at_ (ls.length : Int) sz W ha hs)
  rw [hh] at HI
  have HX0 := Lib.hid (Bx.new w (rdC a1 a2 a3 c1 c2 c3 sz f) zRd)
  have ONE := Lib.hid (oneRd a1 a2 a3 c1 c2 c3 sz f)
  have HL := Lib.hid hl
  have HV := Lib.hid hv
  obtain ⟨ta, tc, rfl, -⟩ := hv
  clear hh ha hs hl
  go_enter Try.func28, Try.ntmps28
  go_wp2_with fail
  refine (HI.out _).mono ?_
  rintro e w1 ⟨rfl, hb1⟩
  have HX1 := Lib.hid (HX0.out.below hb1)
  clear hb1
  go_wp2_with fail
  go_loopw [9, 24] (fun s x wr => ∃ k : Nat, k ≤ ls.length ∧ x = .int .i64 (k : Int) ∧ (∀ i, i < k → (ls.getD i []).length ≤ 64) ∧ w1 = wr) (fun _ x _ => ls.length - (intOf x).toNat)
  case atStart => exact ⟨0, by omega, rfl, fun i hi => by omega, rfl⟩
  case round =>
    obtain ⟨k, hk, rfl, hall, rfl⟩ := hrel
    by_cases hlt : k < ls.length
    · have hd : decide (k < ls.length) = true := by simpa using hlt
      obtain ⟨a', cap', hv', hc'⟩ := HV.out.below HX1.out.b
      injection hv' with e1 e2 e3
      obtain ⟨b, off, hab, hcell⟩ := hc' k hlt
      rw [← e1] at hab
      subst hab
      obtain ⟨t, ht⟩ : ∃ t, t = ls.getD k [] := ⟨_, rfl⟩
      rw [← ht] at hcell
      have HT := Lib.hid ht
      have HALL := Lib.hid hall
      clear e1 e2 e3 hc' ht hall
      by_cases hlong : 64 < t.length
      · have hd2 : decide ((64 : Int) < (t.length : Int)) = true := by simp; omega
        go_wp2_with (first
          | (refine wp_load_mem HX1.out.d TRd (.tmp 3) _ rfl rfl rfl Try.underlying29 rfl szRd ?_)
          | (refine wp_store_gen (B := w.heap.size) (w0 := w) HX1.out.b (Nat.le_succ _) HX1.out.r (rdC a1 a2 a3 c1 c2 c3 sz f) TRd (.tmp 6) (.tmp 31) rfl rfl rfl rfl szRd rfl ONE.out ?_
             intro W2 hm2 hb2 hz2 hk2
             have HX2 := Lib.hid (HX1.out.setR hm2 hb2 hk2)
             clear hm2 hb2 hz2 hk2)
          | fail)
        exact bodyPost_ret (sres2 HX2.out.r rfl _ _ rfl Try.underlying29 rfl szRd) rfl ⟨rfl, HX2.out.b⟩
      · have hd2 : decide ((64 : Int) < (t.length : Int)) = false := by simp; omega
        go_wp2_with fail
        go_roundw
        case rel => exact ⟨k + 1, by omega, by go_num, fun i hi => by
          rcases Nat.lt_or_eq_of_le (show i ≤ k by omega) with h1 | h1
          · exact HALL.out i h1
          · rw [h1, ← HT.out]; omega, by first | trivial | rfl⟩
        case measure => simp [intOf]; omega
    · exfalso
      obtain ⟨l, hl, hl64⟩ := HL.out
      obtain ⟨i, hi, he⟩ := List.mem_iff_getElem.1 hl
      have := hall i (by omega)
      rw [List.getD_eq_getElem?_getD, List.getElem?_eq_getElem hi, Option.getD_some, he] at this
      omega
end Go.Proofs.Ytjmmbafpiahhiaa

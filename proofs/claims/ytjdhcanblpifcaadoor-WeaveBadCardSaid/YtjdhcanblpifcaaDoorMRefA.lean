/-
  Several texts in one: their sentences stand at their heads.
-/
import Derived.Test.YtjdhcanblpifcaaDoorBalB
/-
  The reference of layer 4: Bytes, TakeNum, Int, Close, of any decoder.
-/
namespace Go.Proofs.YtjdhcanblpifcaaDoor
open Go.RowKit Crv

abbrev Trb : TypeId := 84
/-- The reference's decoder as a value. -/
abbrev rC (s : BSt) : List Value := [.string (str s.1), .int .i64 s.2]
abbrev rB (s : BSt) : Value := .agg #[.string (str s.1), .int .i64 s.2]
theorem sz_rb (s : BSt) : (Tryd.prog.info? Trb).map (·.size) = some (rC s).length := by kernel_rfl

set_option maxRecDepth 100000 in
set_option maxHeartbeats 400000 in
theorem rbBytes_any (s : BSt) (ho : Okay s) (n : Int) (w : World) :
    Calls Tryd.prog 36 #[rB s, .int .i64 n] w fun e w' => e = .returned (.tuple #[rB (bytesS s n).1, .string (str (bytesS s n).2)]) ∧ Below w.heap.size w w' := by
  by_cases he : s.2 = 0
  · obtain ⟨l, x⟩ := s
    simp only at he
    subst he
    by_cases hn : n < 0
    · have HS := Lib.hid (show bytesS (l, 0) n = (([], 1), []) by simp [bytesS, hn, failS])
      rw [HS.out]
      clear ho HS
      go_enter Tryd.func36, Tryd.ntmps36
      go_wp2
      exact bodyPost_ret (resultsCellTmp (Mem.newAt _ Trb [(.string (str [])), (.int .i64 1)] (by simp)) rfl _ _ rfl Tryd.underlying84 rfl (sz_rb ([], 1))) rfl ⟨rfl, (belowSelf w _).alloc (by simp) _⟩
    · obtain ⟨k, rfl⟩ := Int.eq_ofNat_of_zero_le (Int.not_lt.1 hn)
      by_cases h1 : l.length < k
      · have HS := Lib.hid (show bytesS (l, (0 : Int)) (k : Int) = (([], 1), []) by unfold bytesS; rw [if_pos (.inr (by simp; omega))]; simp [failS])
        rw [HS.out]
        clear ho HS hn
        have hd : decide (l.length < k) = true := by simpa using h1
        go_enter Tryd.func36, Tryd.ntmps36
        go_wp2
        exact bodyPost_ret (resultsCellTmp (Mem.newAt _ Trb [(.string (str [])), (.int .i64 1)] (by simp)) rfl _ _ rfl Tryd.underlying84 rfl (sz_rb ([], 1))) rfl ⟨rfl, (belowSelf w _).alloc (by simp) _⟩
      · have HS := Lib.hid (show bytesS (l, (0 : Int)) (k : Int) = ((l.drop k, 0), l.take k) by unfold bytesS; rw [if_neg (by simp; omega)]; simp)
        rw [HS.out]
        clear ho HS hn
        have hs1 := fun W => slice_str_to (P := Tryd.prog) Tryd.underlying9 l .i64 k (by omega) W
        have hs2 := fun W => slice_str_from (P := Tryd.prog) Tryd.underlying9 l .i64 k (by omega) W
        have hd : decide (l.length < k) = false := by simpa using h1
        obtain ⟨a, ha⟩ : ∃ a, a = l.drop k := ⟨_, rfl⟩
        obtain ⟨b, hb⟩ : ∃ b, b = l.take k := ⟨_, rfl⟩
        simp only [← ha] at hs2
        simp only [← hb] at hs1
        simp only [← ha, ← hb]
        clear ha hb
        go_enter Tryd.func36, Tryd.ntmps36
        go_wp2
        go_region
        rename_i K hK
        refine hK _ _ ?_
        go_wp2
        exact bodyPost_ret (resultsCellTmp (Mem.drew (Mem.newAt _ Trb [(.string (str a)), (.int .i64 0)] (by simp))) rfl _ _ rfl Tryd.underlying84 rfl (sz_rb (a, 0))) rfl ⟨rfl, below_drewN ((belowSelf w _).alloc (by simp) _) 1⟩
  · rw [bytesS_err ho he]
    obtain ⟨l, x⟩ := s
    have hd : ((x : Int) != 0) = true := by simpa using he
    simp only
    clear ho he
    go_enter Tryd.func36, Tryd.ntmps36
    go_wp2
    exact bodyPost_ret (resultsCellTmp (Mem.newAt _ Trb [(.string (str l)), (.int .i64 x)] (by simp)) rfl _ _ rfl Tryd.underlying84 rfl (sz_rb (l, x))) rfl ⟨rfl, (belowSelf w _).alloc (by simp) _⟩
end Go.Proofs.YtjdhcanblpifcaaDoor

/-
  The reference of layer 4: TakeNum, Int, Close, of any decoder.
-/
namespace Go.Proofs.YtjdhcanblpifcaaDoor
open Go.RowKit Crv

/-- Two structs of the reference's, laid one behind the other. -/
def Two (w0 w : World) (a b : List Value) : Prop := Mem w w0.heap.size Trb a ∧ Mem w (w0.heap.size + 1) Trb b ∧ Below w0.heap.size w0 w
theorem Two.new {w w1 : World} {a b : List Value} (hb : Below ((w.alloc (.cells a.toArray Trb)).alloc (.cells b.toArray Trb)).heap.size ((w.alloc (.cells a.toArray Trb)).alloc (.cells b.toArray Trb)) w1) : Two w w1 a b :=
  ⟨Mem.below ((Mem.newAt w Trb a rfl).alloc _) hb (by simp; omega), Mem.below (Mem.newAt (w.alloc _) Trb b (by simp)) hb (by simp), ((belowSelf w _).alloc (by simp) _).trans (hb.mono (by simp; omega))⟩
theorem Two.first {w0 w : World} {a b : List Value} (h : Two w0 w a b) (i : Nat) (u : Value) : Two w0 (w.setCell ⟨w0.heap.size, i, none⟩ u) (a.set i u) b :=
  ⟨h.1.set i u, h.2.1.other (by simp) u, h.2.2.setCell (Nat.le_refl _) u⟩
theorem Two.second {w0 w : World} {a b : List Value} (h : Two w0 w a b) (i : Nat) (u : Value) : Two w0 (w.setCell ⟨w0.heap.size + 1, i, none⟩ u) a (b.set i u) :=
  ⟨h.1.other (by simp) u, h.2.1.set i u, h.2.2.setCell (Nat.le_succ _) u⟩
theorem Two.below {w0 w w' : World} {a b : List Value} (h : Two w0 w a b) (hb : Below w.heap.size w w') : Two w0 w' a b := ⟨h.1.below hb h.1.lt, h.2.1.below hb h.2.1.lt, belowThen h.2.2 hb⟩
theorem bytesS_none {s : BSt} (h : Okay s) (h1 : (bytesS s 1).2 = []) : (bytesS s 1).1.2 ≠ 0 := by
  by_cases he : s.2 = 0
  · unfold bytesS at *
    split at h1
    · rename_i hc
      rw [if_pos hc]
      simp [failS, he]
    · rename_i hc
      exfalso
      obtain ⟨l, x⟩ := s
      simp at h1 hc
      subst h1
      simp at hc
  · rw [bytesS_err h he]
    exact he
theorem bytesS_some {s : BSt} (h : Okay s) {n : Int} {b : UInt8} {r : List UInt8} (h1 : (bytesS s n).2 = b :: r) : (bytesS s n).1.2 = 0 := by
  by_cases he : s.2 = 0
  · unfold bytesS at *
    split at h1
    · exact absurd h1 (by simp)
    · rename_i hc
      rw [if_neg hc]
      exact he
  · rw [bytesS_err h he] at h1
    exact absurd h1 (by simp)

set_option maxRecDepth 100000 in
set_option maxHeartbeats 2000000 in
theorem rbTake_any (s : BSt) (ho : Okay s) (w : World) :
    Calls Tryd.prog 62 #[rB s] w fun e w' => e = .returned (.tuple #[rB (numS s).1, .int .u64 ((numS s).2 : Int)]) ∧ Below w.heap.size w w' := by
  have HB := Lib.hid (fun W => rbBytes_any s ho 1 W)
  have HO1 := Lib.hid (bytesS_okay ho 1)
  have HNO := Lib.hid (bytesS_none ho)
  have HSO := Lib.hid (fun b r => bytesS_some (b := b) (r := r) (n := 1) ho)
  have HN : Hid (numS s = match bytesS s 1 with | (s1, []) => (s1, 0) | (s1, b :: _) => if 8 < b.toNat then (failS s1 2, 0) else match bytesS s1 (b.toNat : Int) with | (s2, []) => (s2, 0) | (s2, x :: r) => if x = 0 then (failS s2 2, 0) else (s2, val (x :: r))) := Lib.hid rfl
  obtain ⟨s1, d, e1⟩ : ∃ s1 d, bytesS s 1 = (s1, d) := ⟨_, _, rfl⟩
  rw [e1] at HB HO1 HNO HSO HN
  clear e1 ho
  have hs1e : s1 = (s1.1, s1.2) := rfl
  cases d with
  | nil =>
    have hne : ((s1.2 : Int) != 0) = true := by simpa using HNO.out rfl
    rw [HN.out]
    simp only
    clear HN HNO HSO HO1
    go_enter Tryd.func62, Tryd.ntmps62
    go_wp2_with fail
    refine (HB.out _).mono ?_
    rintro e w1 ⟨rfl, hb⟩
    have HT := Lib.hid (Two.new (a := rC s) (b := rC ([], 0)) hb)
    obtain ⟨c00, c01, f00, f01⟩ := memTwo HT.out.1
    obtain ⟨c10, c11, f10, f11⟩ := memTwo HT.out.2.1
    clear hb HB
    go_wp2_with fail
    have T := (((HT.out.first 0 (.string (str s1.1))).first 1 (.int .i64 s1.2)).second 0 (.string (str s1.1))).second 1 (.int .i64 s1.2)
    exact bodyPost_ret (resultsCellTmp T.2.1 rfl _ _ rfl Tryd.underlying84 rfl (sz_rb s1)) rfl ⟨rfl, T.2.2⟩
  | cons b r =>
    have hz : s1.2 = 0 := HSO.out b r rfl
    have hb := b.toNat_lt
    have i0 : ∀ W, (Instr.index 9 (.string (str (b :: r))) (.int .i64 0)).run Tryd.prog W = .ok (.int .u8 (b.toNat : Int)) W := fun W => run_index_str 9 Tryd.underlying9 (b :: r) .i64 0 (by simp) W
    obtain ⟨l1, x1⟩ := s1
    simp only at hz
    subst hz
    clear HNO HSO hs1e
    by_cases h8 : 8 < b.toNat
    · have HS := Lib.hid (show numS s = (([], 2), 0) by rw [HN.out]; simp [h8, failS])
      have h8' : (8 : Int) < (b.toNat : Int) := by omega
      rw [HS.out]
      clear HN HS HO1
      obtain ⟨hdl, hhd⟩ : ∃ q, q = b :: r := ⟨_, rfl⟩
      rw [← hhd] at HB i0
      clear hhd
      go_enter Tryd.func62, Tryd.ntmps62
      go_wp2_with fail
      refine (HB.out _).mono ?_
      rintro e w1 ⟨rfl, hb⟩
      have HT := Lib.hid (Two.new (a := rC s) (b := rC ([], 0)) hb)
      obtain ⟨c00, c01, f00, f01⟩ := memTwo HT.out.1
      obtain ⟨c10, c11, f10, f11⟩ := memTwo HT.out.2.1
      clear hb HB
      go_wp2_with fail
      have T := (((HT.out.first 0 (.string (str l1))).first 1 (.int .i64 0)).second 0 (.string (str []))).second 1 (.int .i64 2)
      exact bodyPost_ret (resultsCellTmp T.2.1 rfl _ _ rfl Tryd.underlying84 rfl (sz_rb ([], 2))) rfl ⟨rfl, T.2.2⟩
    · have h8' : ¬ ((8 : Int) < (b.toNat : Int)) := by omega
      have HBB := Lib.hid (fun W => rbBytes_any (l1, 0) HO1.out (b.toNat : Int) W)
      obtain ⟨s2, d, e2⟩ : ∃ s2 d, bytesS (l1, 0) (b.toNat : Int) = (s2, d) := ⟨_, _, rfl⟩
      have hdl8 : d.length ≤ 8 := by
        have h2 : d = (bytesS (l1, 0) (b.toNat : Int)).2 := by rw [e2]
        rw [h2]
        unfold bytesS
        split
        · simp
        · simp; omega
      have hs2 : s2.2 ≠ 0 → d = [] := by
        intro hne
        have h2 : d = (bytesS (l1, 0) (b.toNat : Int)).2 := by rw [e2]
        have h3 : s2 = (bytesS (l1, 0) (b.toNat : Int)).1 := by rw [e2]
        cases hd : d with
        | nil => rfl
        | cons x t => exact absurd (by rw [h3]; exact bytesS_some (.inl rfl) (h2.symm.trans hd)) hne
      have HS := Lib.hid (show numS s = (match (s2, d) with | (s2, []) => (s2, 0) | (s2, x :: r) => if x = 0 then (failS s2 2, 0) else (s2, val (x :: r))) by rw [HN.out]; simp only [if_neg h8]; rw [e2])
      rw [e2] at HBB
      clear e2 HN HO1
      obtain ⟨hdl, hhd⟩ : ∃ q, q = b :: r := ⟨_, rfl⟩
      rw [← hhd] at HB i0
      clear hhd h8
      obtain ⟨l2, x2⟩ := s2
      go_enter Tryd.func62, Tryd.ntmps62
      go_wp2_with fail
      refine (HB.out _).mono ?_
      rintro e w1 ⟨rfl, hb⟩
      have HT := Lib.hid (Two.new (a := rC s) (b := rC ([], 0)) hb)
      obtain ⟨c00, c01, f00, f01⟩ := memTwo HT.out.1
      clear hb HB
      go_wp2_with fail
      refine (HBB.out _).mono ?_
      rintro e w2 ⟨rfl, hb⟩
      have HT2 := Lib.hid (((HT.out.first 0 (.string (str l1))).first 1 (.int .i64 0)).below hb)
      clear hb HBB HT c00 c01 f00 f01
      obtain ⟨c00, c01, f00, f01⟩ := memTwo HT2.out.1
      obtain ⟨c10, c11, f10, f11⟩ := memTwo HT2.out.2.1
      simp only [List.set_cons_zero, List.set_cons_succ] at HT2
      by_cases hx2 : x2 = 0
      · subst hx2
        cases d with
        | nil =>
          have HS2 := Lib.hid (show numS s = ((l2, 0), 0) from HS.out)
          clear HS hs2
          have hdt : decide ((0 : Int) < (([] : List UInt8).length : Int)) = false := rfl
          go_wp2_with fail
          go_loop [7, 8] (fun v i => v = .int .u64 0 ∧ i = .int .i64 0) (fun _ _ => 0)
          case atStart => exact ⟨rfl, rfl⟩
          case round =>
            obtain ⟨rfl, rfl⟩ := hrel
            go_wp2_with fail
            have T := (((HT2.out.first 0 (.string (str l2))).first 1 (.int .i64 0)).second 0 (.string (str l2))).second 1 (.int .i64 0)
            exact bodyPost_ret (resultsCellTmp T.2.1 rfl _ _ rfl Tryd.underlying84 rfl (sz_rb (l2, 0))) rfl ⟨by rw [HS2.out]; rfl, T.2.2⟩
        | cons x t =>
          have j0 : ∀ W, (Instr.index 9 (.string (str (x :: t))) (.int .i64 0)).run Tryd.prog W = .ok (.int .u8 (x.toNat : Int)) W := fun W => run_index_str 9 Tryd.underlying9 (x :: t) .i64 0 (by simp) W
          have hne2 : (x :: t).isEmpty = false := rfl
          clear hs2
          by_cases hx : x = 0
          · have HS2 := Lib.hid (show numS s = (([], 2), 0) by rw [HS.out]; simp [hx, failS])
            subst hx
            clear HS
            obtain ⟨D, hD⟩ : ∃ q, q = (0 : UInt8) :: t := ⟨_, rfl⟩
            rw [← hD] at j0 hne2 hdl8
            rw [← hD]
            clear hD
            have hz : ((0 : UInt8).toNat : Int) = 0 := rfl
            rw [hz] at j0
            go_wp2_with fail
            have T := (((HT2.out.first 0 (.string (str l2))).first 1 (.int .i64 0)).second 0 (.string (str []))).second 1 (.int .i64 2)
            exact bodyPost_ret (resultsCellTmp T.2.1 rfl _ _ rfl Tryd.underlying84 rfl (sz_rb ([], 2))) rfl ⟨by rw [HS2.out]; rfl, T.2.2⟩
          · have HS2 := Lib.hid (show numS s = ((l2, 0), val (x :: t)) by rw [HS.out]; simp [hx])
            have hx0 : ((x.toNat : Int) == 0) = false := by
              rw [beq_eq_false_iff_ne]
              intro h0
              apply hx
              apply UInt8.toNat_inj.1
              simpa using h0
            clear HS hx
            obtain ⟨D, hD⟩ : ∃ q, q = x :: t := ⟨_, rfl⟩
            rw [← hD] at j0 hne2 hdl8 HS2
            rw [← hD]
            clear hD
            go_wp2_with fail
            go_loop [7, 8] (fun v i => ∃ k : Nat, k ≤ D.length ∧ i = .int .i64 k ∧ v = .int .u64 (val (D.take k) : Int)) (fun _ i => D.length - (intOf i).toNat)
            case atStart => exact ⟨0, by omega, rfl, rfl⟩
            case round =>
              obtain ⟨k, hk, rfl, rfl⟩ := hrel
              by_cases hlt : k < D.length
              · obtain ⟨y, hy⟩ : ∃ y, y = D[k] := ⟨_, rfl⟩
                have hyl := y.toNat_lt
                have iy : ∀ W, (Instr.index 9 (.string (str D)) (.int .i64 (k : Int))).run Tryd.prog W = .ok (.int .u8 (y.toNat : Int)) W := fun W => by
                  rw [run_index_str 9 Tryd.underlying9 D .i64 k hlt W, hy, List.getD_eq_getElem?_getD, List.getElem?_eq_getElem hlt]
                  rfl
                have hvl := val_take_lt D k hlt hdl8
                have HV := Lib.hid (show val (D.take (k + 1)) = val (D.take k) * 256 + y.toNat by rw [hy]; exact val_take_succ D k hlt)
                obtain ⟨v, hv⟩ : ∃ v, v = val (D.take k) := ⟨_, rfl⟩
                rw [← hv] at hvl HV ⊢
                clear hv hy
                have hd : decide (k < D.length) = true := by simp; omega
                go_wp2_with fail
                go_round
                case rel => exact ⟨k + 1, by omega, by go_num, by rw [HV.out]; simp⟩
                case measure => simp [intOf]; omega
              · have ek : k = D.length := by omega
                subst ek
                rw [List.take_length]
                go_wp2_with fail
                have T := (((HT2.out.first 0 (.string (str l2))).first 1 (.int .i64 0)).second 0 (.string (str l2))).second 1 (.int .i64 0)
                exact bodyPost_ret (resultsCellTmp T.2.1 rfl _ _ rfl Tryd.underlying84 rfl (sz_rb (l2, 0))) rfl ⟨by rw [HS2.out]; rfl, T.2.2⟩
      · have hne : ((x2 : Int) != 0) = true := by simpa using hx2
        have hd0 : d = [] := hs2 hx2
        subst hd0
        have HS2 := Lib.hid (show numS s = ((l2, x2), 0) from HS.out)
        clear hs2 hx2 HS
        go_wp2_with fail
        have T := (((HT2.out.first 0 (.string (str l2))).first 1 (.int .i64 x2)).second 0 (.string (str l2))).second 1 (.int .i64 x2)
        exact bodyPost_ret (resultsCellTmp T.2.1 rfl _ _ rfl Tryd.underlying84 rfl (sz_rb (l2, x2))) rfl ⟨by rw [HS2.out]; rfl, T.2.2⟩

set_option maxRecDepth 100000 in
set_option maxHeartbeats 1000000 in
theorem rbInt_any (s : BSt) (ho : Okay s) (m : Nat) (hm : m < 9223372036854775808) (w : World) :
    Calls Tryd.prog 35 #[rB s, .int .i64 (m : Int)] w fun e w' => e = .returned (.tuple #[rB (intS s (m : Int)).1, .int .i64 ((intS s (m : Int)).2 : Int)]) ∧ Below w.heap.size w w' := by
  have HB := Lib.hid (fun W => rbTake_any s ho W)
  have HOK := Lib.hid (numS_okay ho)
  have hlt := numS_lt s
  have HE := Lib.hid (fun he => numS_err' ho he)
  have HN := Lib.hid (show intS s (m : Int) = if nat0 (m : Int) < (numS s).2 then (failS (numS s).1 5, 0) else numS s from rfl)
  rw [nat0_top] at HN
  have HZ := Lib.hid (show (numS s).1.2 ≠ 0 → (numS s).2 = 0 by
    intro hne
    by_cases he : s.2 = 0
    · obtain ⟨l, x⟩ := s
      simp only at he
      subst he
      exact (numS_err l hne).1
    · rw [numS_err' ho he])
  obtain ⟨s1, n, e1⟩ : ∃ s1 n, numS s = (s1, n) := ⟨_, _, rfl⟩
  rw [e1] at HB HOK HN hlt HZ
  have hlt' : n < 18446744073709551616 := hlt
  clear e1 ho HE hlt
  obtain ⟨l1, x1⟩ := s1
  by_cases hx : x1 = 0
  · subst hx
    by_cases hc : m < n
    · rw [HN.out, if_pos hc]
      have hf : failS (l1, (0 : Int)) 5 = ([], 5) := by simp [failS]
      rw [hf]
      simp only
      have hd : decide (m < n) = true := by simpa using hc
      clear HN HZ HOK hf
      go_enter Tryd.func35, Tryd.ntmps35
      go_wp2_with fail
      refine (HB.out _).mono ?_
      rintro e w1 ⟨rfl, hb⟩
      have HT := Lib.hid (Two.new (a := rC s) (b := rC ([], 0)) hb)
      obtain ⟨c00, c01, f00, f01⟩ := memTwo HT.out.1
      obtain ⟨c10, c11, f10, f11⟩ := memTwo HT.out.2.1
      clear hb HB
      go_wp2_with fail
      have T := (((HT.out.first 0 (.string (str l1))).first 1 (.int .i64 0)).second 0 (.string (str []))).second 1 (.int .i64 5)
      exact bodyPost_ret (resultsCellTmp T.2.1 rfl _ _ rfl Tryd.underlying84 rfl (sz_rb ([], 5))) rfl ⟨rfl, T.2.2⟩
    · rw [HN.out, if_neg hc]
      have hd : decide (m < n) = false := by simpa using hc
      have hn63 : (n : Int) < 9223372036854775808 := by omega
      simp only
      clear HN HZ HOK
      go_enter Tryd.func35, Tryd.ntmps35
      go_wp2_with fail
      refine (HB.out _).mono ?_
      rintro e w1 ⟨rfl, hb⟩
      have HT := Lib.hid (Two.new (a := rC s) (b := rC ([], 0)) hb)
      obtain ⟨c00, c01, f00, f01⟩ := memTwo HT.out.1
      obtain ⟨c10, c11, f10, f11⟩ := memTwo HT.out.2.1
      clear hb HB
      go_wp2_with fail
      have T := (((HT.out.first 0 (.string (str l1))).first 1 (.int .i64 0)).second 0 (.string (str l1))).second 1 (.int .i64 0)
      exact bodyPost_ret (resultsCellTmp T.2.1 rfl _ _ rfl Tryd.underlying84 rfl (sz_rb (l1, 0))) rfl ⟨rfl, T.2.2⟩
  · have hn0 : n = 0 := HZ.out hx
    subst hn0
    rw [HN.out, if_neg (by omega)]
    simp only
    have hne : ((x1 : Int) != 0) = true := by simpa using hx
    clear HN HZ HOK hx
    go_enter Tryd.func35, Tryd.ntmps35
    go_wp2_with fail
    refine (HB.out _).mono ?_
    rintro e w1 ⟨rfl, hb⟩
    have HT := Lib.hid (Two.new (a := rC s) (b := rC ([], 0)) hb)
    obtain ⟨c00, c01, f00, f01⟩ := memTwo HT.out.1
    obtain ⟨c10, c11, f10, f11⟩ := memTwo HT.out.2.1
    clear hb HB
    go_wp2_with fail
    have T := (((HT.out.first 0 (.string (str l1))).first 1 (.int .i64 x1)).second 0 (.string (str l1))).second 1 (.int .i64 x1)
    exact bodyPost_ret (resultsCellTmp T.2.1 rfl _ _ rfl Tryd.underlying84 rfl (sz_rb (l1, x1))) rfl ⟨rfl, T.2.2⟩

theorem rbClose_any (s : BSt) (ho : Okay s) (w : World) :
    Calls Tryd.prog 37 #[rB s] w fun e w' => e = .returned (.int .i64 (closeS s).2) ∧ Below w.heap.size w w' := by
  obtain ⟨l, x⟩ := s
  by_cases hx : x = 0
  · subst hx
    by_cases hl : l = []
    · subst hl
      go_enter Tryd.func37, Tryd.ntmps37
      go_wp2
      go_ret
      exact ⟨rfl, belowSelf w _⟩
    · have hc : closeS (l, (0 : Int)) = ([], 2) := by simp [closeS, hl, failS]
      rw [hc]
      have hd : l.isEmpty = false := by simpa using hl
      clear hl hc ho
      go_enter Tryd.func37, Tryd.ntmps37
      go_wp2
      go_ret
      exact ⟨rfl, belowSelf w _⟩
  · have hl : l = [] := by
      rcases ho with h | h
      · exact absurd h hx
      · exact h
    subst hl
    have hne : ((x : Int) == 0) = false := by simpa using hx
    have hc : closeS (([] : List UInt8), x) = ([], x) := by simp [closeS]
    rw [hc]
    clear hx hc ho
    go_enter Tryd.func37, Tryd.ntmps37
    go_wp2
    go_ret
    exact ⟨rfl, belowSelf w _⟩
end Go.Proofs.YtjdhcanblpifcaaDoor

/-
  ProviderDrops: mathematics; the walk.
-/
import Derived.Test.YtilmidddhkofaaaPLaw1
import Derived.Test.YtilmidddhkofaaaZp
namespace Go.Proofs.Ytilmidddhkofaaa
open Go.RowKit Go.Maps Crv

/-- A map's keys. -/
def keyU (l : List (Int × Int)) : List (Int × Unit) := l.map fun p => (p.1, ())
def eU : Enc Int Unit := ⟨fun a => .int .i64 a, fun _ => .nil, fun a b h => by injection h, fun _ => trivial⟩
theorem keyU_set (k v : Int) (l : List (Int × Int)) : keyU (eI.set k v l) = eU.set k () (keyU l) := set_map (e := eI) (e' := eU) rfl (fun _ : Int => ()) k v l
theorem keyU_del (k : Int) (l : List (Int × Int)) : keyU (delK k l) = delK k (keyU l) := delK_map (fun _ : Int => ()) k l
theorem keyU_dels : ∀ (xs : List Int) {I R : List (Int × Int)}, keyU I = keyU R → keyU (dels xs I) = keyU (dels xs R)
  | [], _, _, h => h
  | a :: xs, I, R, h => by
    show keyU (dels xs (delK a I)) = keyU (dels xs (delK a R))
    exact keyU_dels xs (by rw [keyU_del, keyU_del, h])
theorem keyU_len {I R : List (Int × Int)} (h : keyU I = keyU R) : I.length = R.length := by
  have := congrArg List.length h
  simpa [keyU] using this
theorem keyU_mem {I R : List (Int × Int)} (h : keyU I = keyU R) {a : Int} : (∃ v, (a, v) ∈ I) ↔ ∃ v, (a, v) ∈ R := by
  have key : ∀ l : List (Int × Int), (∃ v, (a, v) ∈ l) ↔ (a, ()) ∈ keyU l := fun l => by
    unfold keyU
    constructor
    · rintro ⟨v, hv⟩; exact List.mem_map.2 ⟨_, hv, rfl⟩
    · intro hm
      obtain ⟨p, hp, e⟩ := List.mem_map.1 hm
      injection e with e _
      exact ⟨p.2, by rw [← e]; exact hp⟩
  rw [key, key, h]
/-- The name whose first byte is 1. -/
def x1 : List UInt8 := 1 :: List.replicate 31 0
def x2 : List UInt8 := 2 :: List.replicate 31 0
abbrev x1A : Array Value := #[Value.int .u8 1, Value.int .u8 0, Value.int .u8 0, Value.int .u8 0, Value.int .u8 0, Value.int .u8 0, Value.int .u8 0, Value.int .u8 0, Value.int .u8 0, Value.int .u8 0, Value.int .u8 0, Value.int .u8 0, Value.int .u8 0, Value.int .u8 0, Value.int .u8 0, Value.int .u8 0, Value.int .u8 0, Value.int .u8 0, Value.int .u8 0, Value.int .u8 0, Value.int .u8 0, Value.int .u8 0, Value.int .u8 0, Value.int .u8 0, Value.int .u8 0, Value.int .u8 0, Value.int .u8 0, Value.int .u8 0, Value.int .u8 0, Value.int .u8 0, Value.int .u8 0, Value.int .u8 0]
abbrev x2A : Array Value := #[Value.int .u8 2, Value.int .u8 0, Value.int .u8 0, Value.int .u8 0, Value.int .u8 0, Value.int .u8 0, Value.int .u8 0, Value.int .u8 0, Value.int .u8 0, Value.int .u8 0, Value.int .u8 0, Value.int .u8 0, Value.int .u8 0, Value.int .u8 0, Value.int .u8 0, Value.int .u8 0, Value.int .u8 0, Value.int .u8 0, Value.int .u8 0, Value.int .u8 0, Value.int .u8 0, Value.int .u8 0, Value.int .u8 0, Value.int .u8 0, Value.int .u8 0, Value.int .u8 0, Value.int .u8 0, Value.int .u8 0, Value.int .u8 0, Value.int .u8 0, Value.int .u8 0, Value.int .u8 0]
theorem x1A_eq : nmV x1 = .agg x1A := rfl
theorem x2A_eq : nmV x2 = .agg x2A := rfl
/-- A table where one name has these addresses. -/
def vD (R : List (Int × Int)) : PV := if R.isEmpty then [] else [(x1, R)]
theorem vD_put {R : List (Int × Int)} (hu : ∀ p ∈ R, p.2 = 10) (n : Int) (hn : 0 ≤ n ∧ n < 64) (hl : R.length < 8) : putV x1 n 10 (vD R) = (vD (eI.set n 10 R), 0) := by
  have hne : ∀ v, (eI.set n v R).isEmpty = false := fun v => by
    unfold Enc.set
    cases h : delK n R with
    | nil => rfl
    | cons p r => unfold Enc.ins; split <;> rfl
  unfold putV
  rw [if_neg (by omega)]
  unfold vD
  rw [hne, if_neg (by simp : ¬ (false = true))]
  cases R with
  | nil => rfl
  | cons p r =>
    simp only [List.isEmpty_cons, Bool.false_eq_true, if_false]
    rw [getK_cons, if_pos rfl]
    simp only
    rw [if_neg (by intro h; have := h.2; omega)]
    have hg : max ((getK n (p :: r)).getD 0) 10 = 10 := by
      cases hq : getK n (p :: r) with
      | none => rfl
      | some v =>
        unfold getK at hq
        obtain ⟨q, h1, h2⟩ := Option.map_eq_some_iff.1 hq
        have := hu q (List.mem_of_find?_eq_some h1)
        rw [← h2, this]
        rfl
    rw [hg]
    simp [updK]
theorem vD_drop (xs : List Int) (R : List (Int × Int)) : dropV x1 xs (vD R) = vD (dels xs R) := by
  unfold dropV vD
  cases R with
  | nil =>
    have : ∀ xs : List Int, dels xs [] = [] := fun xs => by
      induction xs with
      | nil => rfl
      | cons a xs ih => exact ih
    rw [this]
    rfl
  | cons p r =>
    simp only [List.isEmpty_cons, Bool.false_eq_true, if_false]
    rw [getK_cons, if_pos rfl]
    simp only [updK, List.map_cons, List.map_nil, if_true, cleanV]
    by_cases h : (dels xs (p :: r)).isEmpty = true
    · simp [h]
    · simp [h]
theorem vD_get {R : List (Int × Int)} (hu : ∀ p ∈ R, p.2 = 10) : getV x1 9 (vD R) = R.map (·.1) := by
  unfold getV vD
  cases R with
  | nil => rfl
  | cons p r =>
    simp only [List.isEmpty_cons, Bool.false_eq_true, if_false]
    rw [getK_cons, if_pos rfl]
    simp only [Option.map_some, Option.getD_some, getA]
    rw [List.filter_eq_self.2]
    intro q hq
    rw [hu q hq]
    rfl
theorem vD_get2 (R : List (Int × Int)) : getV x2 0 (vD R) = [] := by
  unfold getV vD
  cases R with
  | nil => rfl
  | cons p r =>
    simp only [List.isEmpty_cons, Bool.false_eq_true, if_false]
    rw [getK_cons, if_neg (by decide)]
    rfl
theorem vD_len (R : List (Int × Int)) : (vD R).length = min R.length 1 := by
  unfold vD
  cases R with
  | nil => rfl
  | cons p r =>
    simp only [List.isEmpty_cons, Bool.false_eq_true, if_false, List.length_cons, List.length_nil]
    omega
theorem vD_val {W : World} {F : Nat → Prop} {t : Nat} {R : List (Int × Int)} (h : Pv W F t (vD R)) : ∀ p ∈ R, In64 p.1 ∧ In64 p.2 := by
  obtain ⟨g, T, hT, hv, _⟩ := h
  intro p hp
  have hne : vD R = [(x1, R)] := by
    unfold vD
    cases R with
    | nil => simp at hp
    | cons q r => rfl
  rw [hne] at hv
  have hm : (x1, R) ∈ vw T := by rw [hv]; simp
  obtain ⟨r, hr, e⟩ := List.mem_map.1 hm
  injection e with _ e
  exact hT.val r hr p (by rw [e]; exact hp)
/-- The law's map beside its table, behind so many rounds. -/
def DP (W : World) (t g i : Nat) (w : World) : Prop :=
  ∃ I R, keyU I = keyU R ∧ (∀ p ∈ I, 1 ≤ p.2 ∧ p.2 ≤ (i : Int)) ∧ (∀ p ∈ R, p.2 = 10) ∧ R.length ≤ i ∧ TB W [g] t (vD R) w ∧ MpI w g I ∧ W.heap.size ≤ g
/-- .. and when these were struck from the map. -/
def DQ (W : World) (t g : Nat) (xs : List Int) (w : World) : Prop :=
  ∃ I R, keyU I = keyU R ∧ (∀ p ∈ I, 1 ≤ p.2 ∧ p.2 ≤ 8) ∧ (∀ p ∈ R, p.2 = 10) ∧ R.length ≤ 8 ∧ TB W [g] t (vD R) w ∧ MpI w g (dels xs I) ∧ W.heap.size ≤ g
theorem DP.dq {W w : World} {t g i : Nat} (h : DP W t g i w) (hi : i ≤ 8) : DQ W t g [] w := by
  obtain ⟨I, R, k1, k2, k3, k4, k5, k6, k7⟩ := h
  exact ⟨I, R, k1, fun p hp => ⟨(k2 p hp).1, by have := (k2 p hp).2; omega⟩, k3, by omega, k5, k6, k7⟩
/-- .. and when they were dropped of the name. -/
def DR (W : World) (t g : Nat) (I R : List (Int × Int)) (w : World) : Prop :=
  keyU I = keyU R ∧ (∀ p ∈ I, 1 ≤ p.2 ∧ p.2 ≤ 8) ∧ (∀ p ∈ R, p.2 = 10) ∧ R.length ≤ 8 ∧ TB W [g] t (vD R) w ∧ MpI w g I
theorem DQ.dropped {W w : World} {t g : Nat} {xs : List Int} {v : Value} (h : DQ W t g xs w) (hz : ZsP w v xs) (hr : ∀ a ∈ xs, In64 a) (hxl : xs.length ≤ 1000000) :
    Calls Try.prog 13 #[.pointer (some ⟨t, 0, none⟩), .agg x1A, v] w fun e w' => e = .returned (.tuple #[]) ∧ ∃ I R, DR W t g I R w' := by
  obtain ⟨I, R, k1, k2, k3, k4, k5, k6, k7⟩ := h
  have hd := k5.drop (x := x1) rfl hz hr hxl
  rw [vD_drop] at hd
  refine hd.mono fun e w' q => ⟨q.1, dels xs I, dels xs R, keyU_dels xs k1, fun p hp => k2 p (dels_mem.1 hp).1, fun p hp => k3 p (dels_mem.1 hp).1, ?_, q.2.1, k6.of (q.2.2 g (by simp))⟩
  have : ∀ (xs : List Int) (l : List (Int × Int)), (dels xs l).length ≤ l.length := fun xs => by
    induction xs with
    | nil => exact fun l => Nat.le_refl _
    | cons a xs ih => exact fun l => Nat.le_trans (ih (delK a l)) (List.length_filter_le _ _)
  exact Nat.le_trans (this xs R) k4
set_option maxHeartbeats 4000000 in
set_option maxRecDepth 100000 in
theorem providerDrops_walk (v : Value) (ls : List Int) (ga : Option Addr) (gc : Nat) (xs : List Int) (W : World) (hl : ZsP W v ls) (hx : ZsP W (.slice ga xs.length gc) xs) (hgc : xs.length ≤ gc) (hxr : ∀ k ∈ xs, In64 k) :
    Calls Try.prog 6 #[v, .slice ga xs.length gc] W fun e w' => e = .returned (.bool true) ∧ Below W.heap.size W w' := by
  obtain ⟨la, lc, rfl, hlc⟩ := hl
  have HL := Lib.hid (show ZsP W (.slice la ls.length lc) ls from ⟨la, lc, rfl, hlc⟩)
  have HX := Lib.hid hx
  have HXR := Lib.hid hxr
  have HAW := Lib.hid (fun w => awake21_any w)
  obtain ⟨N, hN⟩ : ∃ N, N = ls.length := ⟨_, rfl⟩
  have HNN := Lib.hid hN
  obtain ⟨M, hM⟩ : ∃ M, M = xs.length := ⟨_, rfl⟩
  have HMM := Lib.hid hM
  rw [← hN] at HL ⊢
  rw [← hM] at HX hgc ⊢
  clear hlc hx hxr hN hM
  have hmm := @run_makeMap Try.prog
  go_enter Try.func6, Try.ntmps6
  go_wp2_with fail
  refine (HAW.out _).mono ?_
  rintro e w1 ⟨rfl, hb1⟩
  have HMK := Lib.hid (TB.make (W0 := W) hb1)
  clear hb1
  go_wp2_with fail
  refine HMK.out.mono ?_
  rintro e w2 ⟨rfl, h2⟩
  obtain ⟨t, ht⟩ : ∃ t, t = w1.heap.size + 1 := ⟨_, rfl⟩
  rw [← ht] at h2 ⊢
  obtain ⟨g, hg⟩ : ∃ g, g = w2.heap.size := ⟨_, rfl⟩
  have HD := Lib.hid (show DP W t g 0 (w2.alloc (.map #[] 0)) from by
    subst hg
    refine ⟨[], [], rfl, by simp, by simp, by simp, ?_, MpS.made w2, h2.below.size⟩
    have := h2.add (.map #[] 0)
    exact this)
  have HG := Lib.hid hg
  clear h2 ht hg HMK
  go_wp2_with fail
  clear hmm
  have hgg := HG.out
  simp only [← hgg]
  clear hgg
  go_loopw [7] (fun s wr => ∃ i : Nat, i ≤ N ∧ i ≤ 8 ∧ s = .int .i64 i ∧ Hid (DP W t g i wr)) (fun s _ => N - (intOf s).toNat)
  case atStart => exact ⟨0, by omega, by omega, rfl, HD⟩
  case round =>
    obtain ⟨i, hi, hi8, rfl, HI⟩ := hrel
    clear HD
    by_cases hlt : i < N ∧ i < 8
    · have hd1 : decide ((i : Int) < (N : Int)) = true := by simp; omega
      have hd2 : decide ((i : Int) < 8) = true := by simp; omega
      have hd3 : (i : Int) < (N : Int) := by omega
      have hd4 : (i : Int) < 8 := by omega
      obtain ⟨I, R, k1, k2, k3, k4, k5, k6, k7⟩ := HI.out
      have hil : i < ls.length := by rw [← HNN.out]; exact hlt.1
      obtain ⟨z, hz⟩ : ∃ z, z = ls[i] := ⟨_, rfl⟩
      obtain ⟨sb, so, hsa, hcell⟩ : ∃ sb so, la = some ⟨sb, so, none⟩ ∧ wr.cell? ⟨sb, so + i, none⟩ = some (.int .i64 z) := by
        obtain ⟨a1, c1, e1, h1⟩ := HL.out.below k5.below
        injection e1 with e1 _ _
        obtain ⟨sb, so, h2, h3⟩ := h1 i hil
        exact ⟨sb, so, e1.trans h2, by rw [h3, List.getD_eq_getElem?_getD, List.getElem?_eq_getElem hil, hz]; rfl⟩
      subst hsa
      have hmask : bits .and .i64 z 63 = z % 64 := i64_mask z 6 (by omega)
      obtain ⟨n, hn⟩ : ∃ n, n = z % 64 := ⟨_, rfl⟩
      rw [← hn] at hmask
      have hn64 : 0 ≤ n ∧ n < 64 := by omega
      have hIn : In64 n := in64_of (by omega)
      have hlk := MpI.look k6 hIn
      obtain ⟨c, hc⟩ : ∃ c, c = (getK n I).getD 0 := ⟨_, rfl⟩
      have hc0 : 0 ≤ c ∧ c ≤ (i : Int) := by
        rw [hc]
        cases hq : getK n I with
        | none => simp
        | some q =>
          have := k2 _ ((mem_getK (MpS.uniq k6 keyedI) n q).1 hq)
          simp only [Option.getD_some]
          omega
      rw [← hc] at hlk
      obtain ⟨w3, hput, hm3, hg3⟩ := MpI.put k6 hIn (u := c + 1) (in64_of (by omega)) (by have := keyU_len k1; omega)
      have hT3 := k5.turn (by simp) k7 hg3
      have HP := Lib.hid (show Calls Try.prog 10 #[.pointer (some ⟨t, 0, none⟩), .agg x1A, iv n, iv 10] w3 fun e w' => e = .returned (iv 0) ∧ DP W t g (i + 1) w' from by
        have hpp := hT3.put (x := x1) (a := n) (u := 10) rfl (in64_of (by omega))
        rw [vD_put k3 n hn64 (by omega)] at hpp
        refine hpp.mono fun e w' q => ⟨q.1, eI.set n (c + 1) I, eI.set n 10 R, by rw [keyU_set, keyU_set, k1], fun p hp => ?_, fun p hp => ?_, ?_, q.2.1, hm3.of (q.2.2 g (by simp)), k7⟩
        · rcases List.mem_cons.1 ((eI.ins_perm (n, c + 1) (delK n I)).mem_iff.1 hp) with rfl | h1
          · simp only; omega
          · have := k2 p (List.mem_filter.1 h1).1
            omega
        · rcases List.mem_cons.1 ((eI.ins_perm (n, 10) (delK n R)).mem_iff.1 hp) with rfl | h1
          · rfl
          · exact k3 p (List.mem_filter.1 h1).1
        · have h1 := (eI.ins_perm (n, (10 : Int)) (delK n R)).length_eq
          have h2 : (delK n R).length ≤ R.length := List.length_filter_le _ _
          unfold Enc.set
          rw [h1, List.length_cons]
          omega)
      have hcw : IntKind.i64.wrap (c + 1) = c + 1 := IntWalk.i64_in _ (by omega)
      clear k1 k2 k3 k4 k5 k6 hz hc hm3 hg3 hT3 HI hn hil
      go_wp2_with fail
      refine HP.out.mono ?_
      rintro e w4 ⟨rfl, h4⟩
      have H4 := Lib.hid h4
      clear h4
      go_wp2_with fail
      go_roundw
      case rel => exact ⟨i + 1, by omega, by omega, by go_num, H4⟩
      case measure => simp [intOf]; omega
    · have HQ := Lib.hid (HI.out.dq hi8)
      have hex : (decide ((i : Int) < (N : Int)) = false ∧ ¬ (i : Int) < (N : Int)) ∨ (decide ((i : Int) < (N : Int)) = true ∧ (i : Int) < (N : Int) ∧ decide ((i : Int) < 8) = false ∧ ¬ (i : Int) < 8) := by
        by_cases h : i < N
        · exact .inr ⟨by simp; omega, by omega, by simp; omega, by omega⟩
        · exact .inl ⟨by simp; omega, by omega⟩
      clear HI HNN HL hlt
      rcases hex with ⟨a1, a2⟩ | ⟨a1, a2, a3, a4⟩
      all_goals
        go_wp2_with fail
        go_loopw [9] (fun s w3 => ∃ j : Nat, j ≤ M ∧ j ≤ 10 ∧ s = .int .i64 j ∧ Hid (DQ W t g (xs.take j) w3)) (fun s _ => M - (intOf s).toNat)
        case atStart => exact ⟨0, by omega, by omega, rfl, HQ⟩
        case round =>
          obtain ⟨j, hj, hj10, rfl, HJ⟩ := hrel
          clear HQ
          by_cases hlt : j < M ∧ j < 10
          · have hd1 : decide ((j : Int) < (M : Int)) = true := by simp; omega
            have hd2 : decide ((j : Int) < 10) = true := by simp; omega
            have hd3 : (j : Int) < (M : Int) := by omega
            have hd4 : (j : Int) < 10 := by omega
            obtain ⟨I, R, k1, k2, k3, k4, k5, k6, k7⟩ := HJ.out
            have hjl : j < xs.length := by rw [← HMM.out]; exact hlt.1
            obtain ⟨z, hz⟩ : ∃ z, z = xs[j] := ⟨_, rfl⟩
            have hzi : In64 z := HXR.out z (by rw [hz]; exact List.getElem_mem hjl)
            obtain ⟨sb, so, hsa, hcell⟩ : ∃ sb so, ga = some ⟨sb, so, none⟩ ∧ wr.cell? ⟨sb, so + j, none⟩ = some (.int .i64 z) := by
              obtain ⟨a1, c1, e1, h1⟩ := HX.out.below k5.below
              injection e1 with e1 _ _
              obtain ⟨sb, so, h2, h3⟩ := h1 j hjl
              exact ⟨sb, so, e1.trans h2, by rw [h3, List.getD_eq_getElem?_getD, List.getElem?_eq_getElem hjl, hz]; rfl⟩
            subst hsa
            obtain ⟨w4, hr4, hm4, hg4⟩ := MpI.drop k6 hzi 0
            have H4 := Lib.hid (show DQ W t g (xs.take (j + 1)) w4 from ⟨I, R, k1, k2, k3, k4, k5.turn (by simp) k7 hg4, by
              rw [List.take_succ_eq_append_getElem hjl, dels_snoc, ← hz]
              exact hm4, k7⟩)
            clear k1 k2 k3 k4 k5 k6 hz hm4 hg4 HJ hjl
            go_wp2_with fail
            go_roundw
            case rel => exact ⟨j + 1, by omega, by omega, by go_num, H4⟩
            case measure => simp [intOf]; omega
          · have hB : Below W.heap.size W wr := by
              obtain ⟨_, _, _, _, _, _, k5, _⟩ := HJ.out
              exact k5.below
            have hxr10 : ∀ a ∈ xs.take 10, In64 a := fun a ha => HXR.out a (List.mem_of_mem_take ha)
            have hx10 : (xs.take 10).length ≤ 1000000 := by rw [List.length_take]; omega
            have hxj : xs.take j = xs.take 10 := by
              by_cases h : j < M
              · rw [show j = 10 by omega]
              · rw [List.take_of_length_le (by rw [← HMM.out]; omega), List.take_of_length_le (by rw [← HMM.out]; omega)]
            have hJ10 : DQ W t g (xs.take 10) wr := hxj ▸ HJ.out
            have hex2 : (M ≤ 10 ∧ decide ((j : Int) < (M : Int)) = false ∧ ¬ (j : Int) < (M : Int) ∧ ¬ (M : Int) > 10 ∧ decide ((M : Int) > 10) = false) ∨ (10 < M ∧ decide ((j : Int) < (M : Int)) = true ∧ (j : Int) < (M : Int) ∧ decide ((j : Int) < 10) = false ∧ ¬ (j : Int) < 10 ∧ (M : Int) > 10 ∧ decide ((M : Int) > 10) = true ∧ (10 : Int) ≤ (gc : Int)) := by
              by_cases h : M ≤ 10
              · exact .inl ⟨h, by simp; omega, by omega, by omega, by simp; omega⟩
              · exact .inr ⟨by omega, by simp; omega, by omega, by simp; omega, by omega, by omega, by simp; omega, by omega⟩
            have HDR : ∀ L, (xs.take 10).length = L → Hid (Calls Try.prog 13 #[.pointer (some ⟨t, 0, none⟩), .agg x1A, .slice ga L gc] wr fun e w' => e = .returned (.tuple #[]) ∧ ∃ I R, DR W t g I R w') := fun L hL => Lib.hid (hJ10.dropped (by
              obtain ⟨a1, c1, e1, h1⟩ := HX.out.below hB
              injection e1 with e1 e2 e3
              subst e1 e3
              refine ⟨ga, gc, by rw [hL], fun q hq => ?_⟩
              have hq' := hq
              rw [List.length_take] at hq'
              obtain ⟨sb, so, h2, h3⟩ := h1 q (by omega)
              refine ⟨sb, so, h2, ?_⟩
              rw [h3, List.getD_eq_getElem?_getD, List.getD_eq_getElem?_getD, List.getElem?_take_of_lt (by omega)]) hxr10 hx10)
            clear hB hxr10 hx10 hxj hJ10 HJ hlt
            rcases hex2 with ⟨b0, b1, b2, b3, b4⟩ | ⟨b0, b1, b2, b3, b4, b5, b6, b7⟩
            · have HD2 := HDR M (by rw [List.take_of_length_le (by rw [← HMM.out]; exact b0), HMM.out])
              clear HDR
              go_wp2_with fail
              refine HD2.out.mono ?_
              rintro e w5 ⟨rfl, I, R, k1, k2, k3, k4, k5, k6⟩
              have HGT := Lib.hid (show Calls Try.prog 17 #[.pointer (some ⟨t, 0, none⟩), .agg x1A, iv 9] w5 fun e w' => ∃ v, e = .returned v ∧ Owns w' w5.heap.size Tin v ((R.map (·.1)).map iv) ∧ TB W [g] t (vD R) w' ∧ Below w5.heap.size w5 w' from by
                have := k5.get (x := x1) (now := 9) rfl
                rw [vD_get k3] at this
                exact this)
              have HV := Lib.hid (vD_val k5.b)
              have HK := Lib.hid (show keyU I = keyU R ∧ (∀ p ∈ I, 1 ≤ p.2 ∧ p.2 ≤ 8) ∧ MpI w5 g I from ⟨k1, k2, k6⟩)
              have HLL := Lib.hid (keyU_len k1)
              obtain ⟨L, hL⟩ : ∃ L, L = R.length := ⟨_, rfl⟩
              have HL := Lib.hid hL
              have hL8 : L ≤ 8 := by omega
              clear HD2 k1 k2 k3 k4 k5 k6 hL
              go_wp2_with fail
              refine HGT.out.mono ?_
              rintro e w6 ⟨v6, rfl, ho6, h6, hb6⟩
              have HM6 := Lib.hid (show MpI w6 g I from HK.out.2.2.of (hb6.block g HK.out.2.2.lt))
              have H6 := Lib.hid h6
              obtain ⟨a6, c6, rfl, -, -, hc6⟩ := ho6.form
              simp only [List.length_map] at hc6 ⊢
              rw [← HL.out] at hc6 ⊢
              have HC6 := Lib.hid hc6
              clear ho6 h6 hb6 hc6 HGT
              go_wp2_with fail
              go_loopw [70] (fun s w7 => ∃ q : Nat, q ≤ L ∧ s = .int .i64 q ∧ w6 = w7) (fun s _ => L - (intOf s).toNat)
              case atStart => exact ⟨0, by omega, rfl, rfl⟩
              case round =>
                obtain ⟨q, hq, rfl, rfl⟩ := hrel
                by_cases hql : q < L
                · have hdq : decide ((q : Int) < (L : Int)) = true := by simp; omega
                  have hdq2 : (q : Int) < (L : Int) := by omega
                  have hqR : q < R.length := by rw [← HL.out]; exact hql
                  obtain ⟨g6, rfl, -, hcell⟩ := HC6.out q hql
                  obtain ⟨a, ha⟩ : ∃ a, a = R[q].1 := ⟨_, rfl⟩
                  rw [List.getElem?_map, List.getElem?_map, List.getElem?_eq_getElem hqR, Option.map_some, Option.map_some, ← ha] at hcell
                  have haR : (a, R[q].2) ∈ R := by rw [ha]; exact List.getElem_mem hqR
                  have haI : In64 a := (HV.out _ haR).1
                  have hlk := MpI.look HM6.out haI
                  obtain ⟨c, hcI⟩ := (keyU_mem HK.out.1).2 ⟨_, haR⟩
                  have hc1 := HK.out.2.1 _ hcI
                  rw [(mem_getK (MpS.uniq HM6.out keyedI) a c).2 hcI] at hlk
                  simp only [Option.getD_some] at hlk hc1
                  have hcz : (c == 0) = false := by rw [beq_eq_false_iff_ne]; omega
                  have hcz2 : ¬ c = 0 := by omega
                  clear ha haR haI hcI hc1 hqR
                  go_wp2_with fail
                  go_roundw
                  case rel => exact ⟨q + 1, by omega, by go_num, trivial⟩
                  case measure => simp [intOf]; omega
                · have hdq : decide ((q : Int) < (L : Int)) = false := by simp; omega
                  have hdq2 : ¬ (q : Int) < (L : Int) := by omega
                  obtain ⟨Z, hZ⟩ : ∃ Z : Nat, Z = min L 1 := ⟨_, rfl⟩
                  have hmk : min (L : Int) 1 = (Z : Int) := by rw [hZ]; omega
                  have hln := MpI.len HM6.out
                  rw [show I.length = L by rw [HLL.out, HL.out]] at hln
                  have HNM := Lib.hid H6.out.names
                  have HVL := Lib.hid (show List.length (vD R) = Z by rw [vD_len, ← HL.out, hZ])
                  clear hZ
                  go_wp2_with fail
                  refine HNM.out.mono ?_
                  rintro e w7 ⟨v7, rfl, hr7, h7, hb7⟩
                  obtain ⟨a7, c7, rfl⟩ := hr7.len
                  rw [List.length_map, HVL.out]
                  have hln7 := MpI.len (HM6.out.of (hb7.block g HM6.out.lt))
                  rw [show I.length = L by rw [HLL.out, HL.out]] at hln7
                  have HGE := Lib.hid (show Calls Try.prog 17 #[.pointer (some ⟨t, 0, none⟩), .agg x2A, iv 0] w7 fun e w' => ∃ v, e = .returned v ∧ Owns w' w7.heap.size Tin v [] ∧ TB W [g] t (vD R) w' ∧ Below w7.heap.size w7 w' from by
                    have := h7.get (x := x2) (now := 0) rfl
                    rw [vD_get2] at this
                    exact this)
                  clear hr7 h7 hb7
                  go_wp2_with fail
                  refine HGE.out.mono ?_
                  rintro e w8 ⟨v8, rfl, ho8, h8, hb8⟩
                  obtain ⟨a8, c8, rfl, -, -, -⟩ := ho8.form
                  have H8 := Lib.hid h8.below
                  clear ho8 h8 hb8
                  go_wp2_with fail
                  go_ret
                  exact ⟨rfl, H8.out⟩
            · have HD2 := HDR 10 (by rw [List.length_take, ← HMM.out]; omega)
              clear HDR
              go_wp2_with fail
              refine HD2.out.mono ?_
              rintro e w5 ⟨rfl, I, R, k1, k2, k3, k4, k5, k6⟩
              have HGT := Lib.hid (show Calls Try.prog 17 #[.pointer (some ⟨t, 0, none⟩), .agg x1A, iv 9] w5 fun e w' => ∃ v, e = .returned v ∧ Owns w' w5.heap.size Tin v ((R.map (·.1)).map iv) ∧ TB W [g] t (vD R) w' ∧ Below w5.heap.size w5 w' from by
                have := k5.get (x := x1) (now := 9) rfl
                rw [vD_get k3] at this
                exact this)
              have HV := Lib.hid (vD_val k5.b)
              have HK := Lib.hid (show keyU I = keyU R ∧ (∀ p ∈ I, 1 ≤ p.2 ∧ p.2 ≤ 8) ∧ MpI w5 g I from ⟨k1, k2, k6⟩)
              have HLL := Lib.hid (keyU_len k1)
              obtain ⟨L, hL⟩ : ∃ L, L = R.length := ⟨_, rfl⟩
              have HL := Lib.hid hL
              have hL8 : L ≤ 8 := by omega
              clear HD2 k1 k2 k3 k4 k5 k6 hL
              go_wp2_with fail
              refine HGT.out.mono ?_
              rintro e w6 ⟨v6, rfl, ho6, h6, hb6⟩
              have HM6 := Lib.hid (show MpI w6 g I from HK.out.2.2.of (hb6.block g HK.out.2.2.lt))
              have H6 := Lib.hid h6
              obtain ⟨a6, c6, rfl, -, -, hc6⟩ := ho6.form
              simp only [List.length_map] at hc6 ⊢
              rw [← HL.out] at hc6 ⊢
              have HC6 := Lib.hid hc6
              clear ho6 h6 hb6 hc6 HGT
              go_wp2_with fail
              go_loopw [70] (fun s w7 => ∃ q : Nat, q ≤ L ∧ s = .int .i64 q ∧ w6 = w7) (fun s _ => L - (intOf s).toNat)
              case atStart => exact ⟨0, by omega, rfl, rfl⟩
              case round =>
                obtain ⟨q, hq, rfl, rfl⟩ := hrel
                by_cases hql : q < L
                · have hdq : decide ((q : Int) < (L : Int)) = true := by simp; omega
                  have hdq2 : (q : Int) < (L : Int) := by omega
                  have hqR : q < R.length := by rw [← HL.out]; exact hql
                  obtain ⟨g6, rfl, -, hcell⟩ := HC6.out q hql
                  obtain ⟨a, ha⟩ : ∃ a, a = R[q].1 := ⟨_, rfl⟩
                  rw [List.getElem?_map, List.getElem?_map, List.getElem?_eq_getElem hqR, Option.map_some, Option.map_some, ← ha] at hcell
                  have haR : (a, R[q].2) ∈ R := by rw [ha]; exact List.getElem_mem hqR
                  have haI : In64 a := (HV.out _ haR).1
                  have hlk := MpI.look HM6.out haI
                  obtain ⟨c, hcI⟩ := (keyU_mem HK.out.1).2 ⟨_, haR⟩
                  have hc1 := HK.out.2.1 _ hcI
                  rw [(mem_getK (MpS.uniq HM6.out keyedI) a c).2 hcI] at hlk
                  simp only [Option.getD_some] at hlk hc1
                  have hcz : (c == 0) = false := by rw [beq_eq_false_iff_ne]; omega
                  have hcz2 : ¬ c = 0 := by omega
                  clear ha haR haI hcI hc1 hqR
                  go_wp2_with fail
                  go_roundw
                  case rel => exact ⟨q + 1, by omega, by go_num, trivial⟩
                  case measure => simp [intOf]; omega
                · have hdq : decide ((q : Int) < (L : Int)) = false := by simp; omega
                  have hdq2 : ¬ (q : Int) < (L : Int) := by omega
                  obtain ⟨Z, hZ⟩ : ∃ Z : Nat, Z = min L 1 := ⟨_, rfl⟩
                  have hmk : min (L : Int) 1 = (Z : Int) := by rw [hZ]; omega
                  have hln := MpI.len HM6.out
                  rw [show I.length = L by rw [HLL.out, HL.out]] at hln
                  have HNM := Lib.hid H6.out.names
                  have HVL := Lib.hid (show List.length (vD R) = Z by rw [vD_len, ← HL.out, hZ])
                  clear hZ
                  go_wp2_with fail
                  refine HNM.out.mono ?_
                  rintro e w7 ⟨v7, rfl, hr7, h7, hb7⟩
                  obtain ⟨a7, c7, rfl⟩ := hr7.len
                  rw [List.length_map, HVL.out]
                  have hln7 := MpI.len (HM6.out.of (hb7.block g HM6.out.lt))
                  rw [show I.length = L by rw [HLL.out, HL.out]] at hln7
                  have HGE := Lib.hid (show Calls Try.prog 17 #[.pointer (some ⟨t, 0, none⟩), .agg x2A, iv 0] w7 fun e w' => ∃ v, e = .returned v ∧ Owns w' w7.heap.size Tin v [] ∧ TB W [g] t (vD R) w' ∧ Below w7.heap.size w7 w' from by
                    have := h7.get (x := x2) (now := 0) rfl
                    rw [vD_get2] at this
                    exact this)
                  clear hr7 h7 hb7
                  go_wp2_with fail
                  refine HGE.out.mono ?_
                  rintro e w8 ⟨v8, rfl, ho8, h8, hb8⟩
                  obtain ⟨a8, c8, rfl, -, -, -⟩ := ho8.form
                  have H8 := Lib.hid h8.below
                  clear ho8 h8 hb8
                  go_wp2_with fail
                  go_ret
                  exact ⟨rfl, H8.out⟩
end Go.Proofs.Ytilmidddhkofaaa

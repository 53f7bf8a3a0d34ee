/-
  ProviderBound: mathematics; the walk.
-/
import Derived.Test.YtilmidddhkofaaaPLaw1
namespace Go.Proofs.Ytilmidddhkofaaa
open Go.RowKit Go.Maps Crv

theorem set_last {κ ν : Type} [DecidableEq κ] (e : Enc κ ν) (k : κ) (v : ν) {l : List (κ × ν)} (h : ∀ p ∈ l, e.lt k p.1 = false ∧ p.1 ≠ k) : e.set k v l = l ++ [(k, v)] := by
  have hd : delK k l = l := by
    unfold delK
    rw [List.filter_eq_self]
    intro p hp
    simp [(h p hp).2]
  unfold Enc.set
  rw [hd]
  clear hd
  induction l with
  | nil => rfl
  | cons p r ih =>
    unfold Enc.ins
    rw [(h p (by simp)).1, if_neg (by simp), ih fun q hq => h q (by simp [hq])]
    rfl
theorem getK_app {κ ν : Type} [DecidableEq κ] (k : κ) (l r : List (κ × ν)) : getK k (l ++ r) = (getK k l).or (getK k r) := by
  unfold getK
  rw [List.find?_append]
  cases l.find? fun p => decide (p.1 = k) <;> rfl
theorem getK_range {κ ν : Type} [DecidableEq κ] (f : Nat → κ) (g : Nat → ν) (i : Nat) : ∀ m : Nat, (∀ a, a < m → f a = f i → a = i) → getK (f i) ((List.range m).map fun a => (f a, g a)) = if i < m then some (g i) else none
  | 0, _ => by simp [getK]
  | m + 1, h => by
    rw [List.range_succ, List.map_append, getK_app, getK_range f g i m fun a ha => h a (by omega), List.map_cons, List.map_nil, getK_cons]
    by_cases h1 : i < m
    · rw [if_pos h1, if_pos (show i < m + 1 by omega)]; rfl
    · rw [if_neg h1]
      by_cases h2 : i = m
      · subst h2
        rw [if_pos rfl, if_pos (by omega)]; rfl
      · rw [if_neg (fun q => h2 (h m (by omega) q).symm), if_neg (by omega)]; rfl
/-- The i-th name. -/
def nm (i : Nat) : List UInt8 := UInt8.ofNat i :: List.replicate 31 0
theorem length_nm (i : Nat) : (nm i).length = 32 := rfl
theorem nm_inj {a b : Nat} (ha : a < 256) (hb : b < 256) (h : nm a = nm b) : a = b := by
  unfold nm at h
  injection h with h _
  have := congrArg UInt8.toNat h
  rw [UInt8.toNat_ofNat', UInt8.toNat_ofNat'] at this
  omega
theorem nm_lt {a b : Nat} (ha : a < b) (hb : b < 256) : eV.lt (nm b) (nm a) = false := by
  show bytesBefore _ _ = false
  have h1 : ¬ UInt8.ofNat b < UInt8.ofNat a := by
    rw [UInt8.lt_iff_toNat_lt, UInt8.toNat_ofNat', UInt8.toNat_ofNat']
    omega
  have h2 : (UInt8.ofNat b == UInt8.ofNat a) = false := by
    rw [beq_eq_false_iff_ne]
    intro e
    have := congrArg UInt8.toNat e
    rw [UInt8.toNat_ofNat', UInt8.toNat_ofNat'] at this
    omega
  unfold nm bytesBefore
  rw [h2]
  simp [h1]
abbrev nmA (i : Nat) : Array Value := #[Value.int .u8 (i : Int), Value.int .u8 0, Value.int .u8 0, Value.int .u8 0, Value.int .u8 0, Value.int .u8 0, Value.int .u8 0, Value.int .u8 0, Value.int .u8 0, Value.int .u8 0, Value.int .u8 0, Value.int .u8 0, Value.int .u8 0, Value.int .u8 0, Value.int .u8 0, Value.int .u8 0, Value.int .u8 0, Value.int .u8 0, Value.int .u8 0, Value.int .u8 0, Value.int .u8 0, Value.int .u8 0, Value.int .u8 0, Value.int .u8 0, Value.int .u8 0, Value.int .u8 0, Value.int .u8 0, Value.int .u8 0, Value.int .u8 0, Value.int .u8 0, Value.int .u8 0, Value.int .u8 0]
theorem nmA_eq {i : Nat} (h : i < 256) : (nmV (nm i)) = .agg (nmA i) := by
  have e : byteV (UInt8.ofNat i) = .int .u8 (i : Int) := by
    show Value.int .u8 _ = _
    rw [UInt8.toNat_ofNat']
    rw [Nat.mod_eq_of_lt (by omega)]
  show Value.agg ((byteV (UInt8.ofNat i) :: (List.replicate 31 (0 : UInt8)).map byteV).toArray) = _
  rw [e]
  rfl
/-- So many addresses, until 100. -/
def rowB (m : Nat) : List (Int × Int) := (List.range m).map fun j : Nat => ((j : Int), (100 : Int))
theorem length_rowB (m : Nat) : (rowB m).length = m := by simp [rowB]
theorem rowB_get (m j : Nat) : getK (j : Int) (rowB m) = if j < m then some 100 else none := getK_range (fun a : Nat => (a : Int)) (fun _ => (100 : Int)) j m fun a _ h => by have h' : (a : Int) = (j : Int) := h; omega
theorem rowB_set (m : Nat) : eI.set (m : Int) 100 (rowB m) = rowB (m + 1) := by
  rw [set_last]
  · unfold rowB
    rw [List.range_succ, List.map_append]
    rfl
  · intro p hp
    obtain ⟨j, hj, rfl⟩ := List.mem_map.1 hp
    have := List.mem_range.1 hj
    rw [lt_eI]
    simp
    omega
/-- The table behind so many names' rounds. -/
def Vst (k i : Nat) : PV := if k = 0 then [] else (List.range (min i 64)).map fun a => (nm a, rowB (min k 8))
/-- .. and so many of the next name's addresses. -/
def Vin (k i j : Nat) : PV := if 0 < j ∧ i < 64 then Vst k i ++ [(nm i, rowB (min j 8))] else Vst k i
theorem Vst_get {k i a : Nat} (hk : 0 < k) (ha : a < 256) : getK (nm a) (Vst k i) = if a < min i 64 then some (rowB (min k 8)) else none := by
  unfold Vst
  rw [if_neg (by omega)]
  exact getK_range nm (fun _ => rowB (min k 8)) a (min i 64) fun b hb h => nm_inj (by omega) ha h
theorem length_Vst {k i : Nat} (hk : 0 < k) : (Vst k i).length = min i 64 := by
  unfold Vst
  rw [if_neg (by omega)]
  simp
theorem updK_app {κ ν : Type} [DecidableEq κ] (k : κ) (v : ν) (l r : List (κ × ν)) : updK k v (l ++ r) = updK k v l ++ updK k v r := by
  unfold updK
  rw [List.map_append]
theorem Vin_put {k i j : Nat} (hi : i < 100) (hk : j < k) (hk63 : k ≤ 63) : (putV (nm i) (j : Int) 100 (Vin k i j)).1 = Vin k i (j + 1) := by
  have hk0 : 0 < k := by omega
  have hn := Vst_get (i := i) (a := i) hk0 (by omega)
  have hlen := length_Vst (i := i) hk0
  unfold putV
  rw [if_neg (by omega)]
  by_cases h64 : i < 64
  · rw [if_neg (by omega)] at hn
    by_cases h0 : j = 0
    · subst h0
      have e : Vin k i 0 = Vst k i := by unfold Vin; rw [if_neg (by omega)]
      rw [e, hn]
      simp only
      rw [if_neg (by omega)]
      simp only
      unfold Vin
      rw [if_pos (by omega), set_last]
      · rfl
      · intro p hp
        unfold Vst at hp
        rw [if_neg (by omega)] at hp
        obtain ⟨a, ha, rfl⟩ := List.mem_map.1 hp
        have := List.mem_range.1 ha
        exact ⟨nm_lt (by omega) (by omega), fun q => by have := nm_inj (by omega) (by omega) q; omega⟩
    · have e : Vin k i j = Vst k i ++ [(nm i, rowB (min j 8))] := by unfold Vin; rw [if_pos (by omega)]
      have e2 : Vin k i (j + 1) = Vst k i ++ [(nm i, rowB (min (j + 1) 8))] := by unfold Vin; rw [if_pos (by omega)]
      rw [e, getK_app, hn, getK_cons, if_pos rfl, Option.none_or]
      have hg : getK (j : Int) (rowB (min j 8)) = none := by rw [rowB_get, if_neg (show ¬ j < min j 8 by omega)]
      simp only
      rw [hg, length_rowB]
      by_cases h8 : j < 8
      · rw [if_neg (by omega)]
        simp only [Option.getD_none]
        rw [updK_app, updK_none _ _ _ hn, e2, show max (0 : Int) 100 = 100 from rfl, show min j 8 = j by omega, rowB_set, show min (j + 1) 8 = j + 1 by omega]
        simp [updK]
      · rw [if_pos ⟨rfl, by omega⟩, e2]
        simp only
        rw [show min (j + 1) 8 = min j 8 by omega]
  · have e : ∀ m, Vin k i m = Vst k i := fun m => by unfold Vin; rw [if_neg (by omega)]
    rw [if_neg (by omega)] at hn
    rw [e, e, hn]
    simp only
    rw [if_pos (by omega)]
theorem Vin_zero (k i : Nat) : Vin k i 0 = Vst k i := by unfold Vin; rw [if_neg (by omega)]
theorem Vin_end (k i : Nat) : Vin k i k = Vst k (i + 1) := by
  unfold Vin Vst
  by_cases hk : k = 0
  · subst hk; simp
  · rw [if_neg hk, if_neg hk]
    by_cases h : i < 64
    · rw [if_pos (by omega), show min i 64 = i by omega, show min (i + 1) 64 = i + 1 by omega, List.range_succ, List.map_append]
      rfl
    · rw [if_neg (by omega), show min (i + 1) 64 = min i 64 by omega]
theorem Vst_len {k i a : Nat} (hk : 0 < k) (ha : a < i) (hi : i ≤ 100) : (getV (nm a) 0 (Vst k i)).length = if a < 64 then min k 8 else 0 := by
  unfold getV
  rw [Vst_get hk (by omega)]
  by_cases h : a < 64
  · rw [if_pos (by omega), if_pos h]
    simp only [Option.map_some, Option.getD_some, getA]
    rw [List.length_map, List.filter_eq_self.2, length_rowB]
    intro p hp
    obtain ⟨j, _, rfl⟩ := List.mem_map.1 hp
    rfl
  · rw [if_neg (by omega), if_neg h]
    rfl
theorem Vst_gone (k i : Nat) : expireV 100 (Vst k i) = [] := by
  unfold expireV cleanV
  rw [List.filter_eq_nil_iff]
  intro p hp
  obtain ⟨q, hq, rfl⟩ := List.mem_map.1 hp
  have : aftA 100 q.2 = [] := by
    unfold aftA
    rw [List.filter_eq_nil_iff]
    intro r hr
    unfold Vst at hq
    split at hq
    · simp at hq
    · obtain ⟨a, _, rfl⟩ := List.mem_map.1 hq
      obtain ⟨j, _, rfl⟩ := List.mem_map.1 hr
      simp
  simp [this]
set_option maxHeartbeats 4000000 in
set_option maxRecDepth 100000 in
theorem providerBound_walk (n0 k0 : Int) (W : World) : Calls Try.prog 4 #[.int .i64 n0, .int .i64 k0] W fun e w' => e = .returned (.bool true) ∧ Below W.heap.size W w' := by
  have HAW := Lib.hid (fun w => awake21_any w)
  obtain ⟨n, hn, hn100⟩ : ∃ n : Nat, min (max n0 0) 100 = (n : Int) ∧ n ≤ 100 := ⟨(min (max n0 0) 100).toNat, by omega, by omega⟩
  obtain ⟨k, hk, hk63⟩ : ∃ k : Nat, min (max k0 0) 63 = (k : Int) ∧ k ≤ 63 := ⟨(min (max k0 0) 63).toNat, by omega, by omega⟩
  have HN := Lib.hid hn
  have HK := Lib.hid hk
  have HPUT := Lib.hid (fun t w (i j : Nat) (hi : i < 100) (hj : j < k) (h : TB W [] t (Vin k i j) w) => show Calls Try.prog 10 #[.pointer (some ⟨t, 0, none⟩), .agg (nmA i), .int .i64 j, iv 100] w fun e w' => ∃ r, e = .returned (iv r) ∧ TB W [] t (Vin k i (j + 1)) w' from by
    have := h.put (x := nm i) (a := (j : Int)) (u := 100) (length_nm i) (in64_of (by omega))
    rw [nmA_eq (by omega), Vin_put hi hj hk63] at this
    exact this.mono fun e w' q => ⟨_, q.1, q.2.1⟩)
  clear hn hk
  go_enter Try.func4, Try.ntmps4
  go_wp2_with fail
  refine (HAW.out _).mono ?_
  rintro e w1 ⟨rfl, hb1⟩
  have HMK := Lib.hid (TB.make (W0 := W) hb1)
  clear hb1
  go_wp2_with (first
    | (refine wp_max0 (c := n0) (d := 0) (.tmp 12) (.const (.int .i64 0)) rfl rfl rfl rfl ?_)
    | (refine wp_min0 (c := max n0 0) (d := 100) (.tmp 13) (.const (.int .i64 100)) HN.out rfl rfl rfl rfl ?_)
    | (refine wp_max0 (c := k0) (d := 0) (.tmp 15) (.const (.int .i64 0)) rfl rfl rfl rfl ?_)
    | (refine wp_min0 (c := max k0 0) (d := 63) (.tmp 16) (.const (.int .i64 63)) HK.out rfl rfl rfl rfl ?_)
    | fail)
  refine HMK.out.mono ?_
  rintro e w2 ⟨rfl, h2⟩
  obtain ⟨t, ht⟩ : ∃ t, t = w1.heap.size + 1 := ⟨_, rfl⟩
  rw [← ht] at h2 ⊢
  have H2 := Lib.hid (show TB W [] t (Vst k 0) w2 from by unfold Vst; split <;> simpa using h2)
  clear h2 ht
  go_wp2_with fail
  clear HMK
  have hwI : ∀ i : Nat, i < 100 → IntKind.u8.wrap (i : Int) = (i : Int) := fun i hi => by rw [IntWalk.u8_in _ (by omega)]
  have HW := Lib.hid hwI
  clear hwI
  go_loopw [20] (fun s wr => ∃ i : Nat, i ≤ n ∧ s = .int .i64 i ∧ Hid (TB W [] t (Vst k i) wr)) (fun s _ => n - (intOf s).toNat)
  case atStart => exact ⟨0, by omega, rfl, H2⟩
  case round =>
    obtain ⟨i, hi, rfl, HI⟩ := hrel
    clear H2
    by_cases hlt : i < n
    · have hd : decide ((i : Int) < (n : Int)) = true := by simp; omega
      have hdi : (i : Int) < (n : Int) := by omega
      have hi100 : i < 100 := by omega
      have HI0 := Lib.hid (show TB W [] t (Vin k i 0) wr from by rw [Vin_zero]; exact HI.out)
      have hwi := HW.out i hi100
      clear HI
      go_wp2_with fail
      go_loopw [24] (fun s w3 => ∃ j : Nat, j ≤ k ∧ s = .int .i64 j ∧ Hid (TB W [] t (Vin k i j) w3)) (fun s _ => k - (intOf s).toNat)
      case atStart => exact ⟨0, by omega, rfl, HI0⟩
      case round =>
        obtain ⟨j, hj, rfl, HJ⟩ := hrel
        clear HI0
        by_cases hlj : j < k
        · have hdj : decide ((j : Int) < (k : Int)) = true := by simp; omega
          have hdj2 : (j : Int) < (k : Int) := by omega
          have HP := Lib.hid (HPUT.out t _ i j hi100 hlj HJ.out)
          clear HJ
          go_wp2_with fail
          refine HP.out.mono ?_
          rintro e w4 ⟨r, rfl, h4⟩
          have H4 := Lib.hid h4
          clear h4
          go_wp2_with fail
          go_roundw
          case rel => exact ⟨j + 1, by omega, by go_num, H4⟩
          case measure => simp [intOf]; omega
        · have hdj : decide ((j : Int) < (k : Int)) = false := by simp; omega
          have hdj2 : ¬ (j : Int) < (k : Int) := by omega
          have hjk : j = k := by omega
          subst hjk
          have HE := Lib.hid (show TB W [] t (Vst j (i + 1)) _ from by rw [← Vin_end]; exact HJ.out)
          clear HJ
          go_wp2_with fail
          go_roundw
          case rel => exact ⟨i + 1, by omega, by go_num, HE⟩
          case measure => simp [intOf]; omega
    · have hd : decide ((i : Int) < (n : Int)) = false := by simp; omega
      have hdi : ¬ (i : Int) < (n : Int) := by omega
      have hin : i = n := by omega
      subst hin
      clear HPUT
      by_cases hk0 : k = 0
      · subst hk0
        have HV := Lib.hid (show Vst 0 i = [] from rfl)
        have HNM := Lib.hid (HI.out.names)
        rw [HV.out] at HNM
        go_wp2_with fail
        refine HNM.out.mono ?_
        rintro e w5 ⟨v5, rfl, hr5, h5, hb5⟩
        obtain ⟨a5, c5, rfl⟩ := hr5.len
        have H5 := Lib.hid h5.below
        clear hr5 h5 hb5
        go_wp2_with fail
        go_ret
        exact ⟨rfl, H5.out⟩
      · have hdk : ((k : Int) == 0) = false := by simp; omega
        have HG := Lib.hid (fun w (a : Nat) (ha : a < i) (h : TB W [] t (Vst k i) w) => show Calls Try.prog 17 #[.pointer (some ⟨t, 0, none⟩), .agg (nmA a), iv 0] w fun e w' => ∃ v, e = .returned v ∧ Owns w' w.heap.size Tin v ((getV (nm a) 0 (Vst k i)).map iv) ∧ TB W [] t (Vst k i) w' ∧ Below w.heap.size w w' from by
          have := h.get (x := nm a) (now := 0) (length_nm a)
          rw [nmA_eq (by omega)] at this
          exact this)
        have HLN := Lib.hid (fun (a : Nat) (ha : a < i) => Vst_len (k := k) (i := i) (a := a) (by omega) ha hn100)
        obtain ⟨M, hM⟩ : ∃ M, M = min k 8 := ⟨_, rfl⟩
        have HM8 := Lib.hid (show min (k : Int) 8 = (M : Int) by omega)
        have HMM := Lib.hid hM
        have HNG := Lib.hid (fun w (h : TB W [] t (Vst k i) w) => show Calls Try.prog 15 #[.pointer (some ⟨t, 0, none⟩), iv 100] w fun e w' => e = .returned (.tuple #[]) ∧ TB W [] t [] w' from by
          have := h.expire (now := 100)
          rw [Vst_gone] at this
          exact this.mono fun e w' q => ⟨q.1, q.2.1⟩)
        clear hM
        go_wp2_with fail
        go_loopw [42] (fun s wr => ∃ a : Nat, a ≤ i ∧ s = .int .i64 a ∧ Hid (TB W [] t (Vst k i) wr)) (fun s _ => i - (intOf s).toNat)
        case atStart => exact ⟨0, by omega, rfl, HI⟩
        case round =>
          obtain ⟨a, ha, rfl, HA⟩ := hrel
          clear HI
          by_cases hla : a < i
          · have hda : decide ((a : Int) < (i : Int)) = true := by simp; omega
            have hda2 : (a : Int) < (i : Int) := by omega
            have HGA := Lib.hid (HG.out _ a hla HA.out)
            have hwa := HW.out a (by omega)
            have HLA := Lib.hid (HLN.out a hla)
            clear HA
            go_wp2_with fail
            refine HGA.out.mono ?_
            rintro e w6 ⟨v6, rfl, ho6, h6, hb6⟩
            obtain ⟨a6, c6, rfl, -, -, -⟩ := ho6.form
            have H6 := Lib.hid h6
            simp only [List.length_map]
            rw [HLA.out]
            clear ho6 h6 hb6
            by_cases h64 : a < 64
            · have hd64 : decide ((a : Int) < 64) = true := by simp; omega
              have hd642 : (a : Int) < 64 := by omega
              rw [if_pos h64, ← HMM.out]
              have hmk := HM8.out
              go_wp2_with fail
              go_roundw
              case rel => exact ⟨a + 1, by omega, by go_num, H6⟩
              case measure => simp [intOf]; omega
            · have hd64 : decide ((a : Int) < 64) = false := by simp; omega
              have hd642 : ¬ (a : Int) < 64 := by omega
              have hd643 : decide ((a : Int) ≥ 64) = true := by simp; omega
              have hd644 : (a : Int) ≥ 64 := by omega
              rw [if_neg h64]
              go_wp2_with fail
              go_roundw
              case rel => exact ⟨a + 1, by omega, by go_num, H6⟩
              case measure => simp [intOf]; omega
          · have hda : decide ((a : Int) < (i : Int)) = false := by simp; omega
            have hda2 : ¬ (a : Int) < (i : Int) := by omega
            have HX := Lib.hid (HNG.out _ HA.out)
            clear HA
            go_wp2_with fail
            refine HX.out.mono ?_
            rintro e w7 ⟨rfl, h7⟩
            have HNM := Lib.hid h7.names
            clear h7
            go_wp2_with fail
            refine HNM.out.mono ?_
            rintro e w8 ⟨v8, rfl, hr8, h8, hb8⟩
            obtain ⟨a8, c8, rfl⟩ := hr8.len
            have H8 := Lib.hid h8.below
            clear hr8 h8 hb8
            go_wp2_with fail
            go_ret
            exact ⟨rfl, H8.out⟩
end Go.Proofs.Ytilmidddhkofaaa

/-
  The laws of layer 9: Chunks.
-/
import Derived.Test.YtjdhcanblpifcaaDoorMer9
namespace Go.Proofs.YtjdhcanblpifcaaDoor
open Go.RowKit Crv
attribute [local go_sem] ByteArray.mk_append_mk
theorem own_none (w : World) (e : TypeId) : Owns (w.alloc (.cells #[] e)) w.heap.size e (.slice (some ⟨w.heap.size, 0, none⟩) 0 0) [] :=
  Owns.of_mem (Mem.newAt w e [] rfl) (Nat.le_refl _) 0 0 (Nat.le_refl _) rfl (by simp [maxLen]) rfl
theorem txt_info : ∃ i, Tryd.prog.info? 9 = some i ∧ i.zero = some (.string ⟨#[]⟩) ∧ i.size = 1 ∧ i.bytes = 16 := info_of (by kernel_rfl)
/-- A chunk of the i-th time. -/
def chk1 (i : Nat) (s : List UInt8) : List UInt8 := s.take 299 ++ [UInt8.ofNat (97 + i)]
def chunksOf (ls : List (List UInt8)) (t : Nat) : List (List UInt8) := (List.range t).flatMap fun i => (ls.take 12).map (chk1 i)
theorem chunksOf_succ (ls : List (List UInt8)) (t : Nat) : chunksOf ls (t + 1) = chunksOf ls t ++ (ls.take 12).map (chk1 t) := by
  unfold chunksOf
  rw [List.range_succ, List.flatMap_append]
  simp
theorem length_chunksOf (ls : List (List UInt8)) : ∀ t, (chunksOf ls t).length ≤ 12 * t
  | 0 => by simp [chunksOf]
  | t + 1 => by
    have := length_chunksOf ls t
    rw [chunksOf_succ, List.length_append, List.length_map, List.length_take]
    omega
theorem rune_str : ∀ (i : Nat), i < 12 → ∀ W : World, (convert 21 9 (.int .i32 (97 + (i : Int)))).run Tryd.prog W = .ok (.string (str [UInt8.ofNat (97 + i)])) W := by
  intro i hi W
  have r0 : (convert 21 9 (.int .i32 (97 + ((0 : Nat) : Int)))).run Tryd.prog W = .ok (.string (str [UInt8.ofNat (97 + 0)])) W := by kernel_rfl
  have r1 : (convert 21 9 (.int .i32 (97 + ((1 : Nat) : Int)))).run Tryd.prog W = .ok (.string (str [UInt8.ofNat (97 + 1)])) W := by kernel_rfl
  have r2 : (convert 21 9 (.int .i32 (97 + ((2 : Nat) : Int)))).run Tryd.prog W = .ok (.string (str [UInt8.ofNat (97 + 2)])) W := by kernel_rfl
  have r3 : (convert 21 9 (.int .i32 (97 + ((3 : Nat) : Int)))).run Tryd.prog W = .ok (.string (str [UInt8.ofNat (97 + 3)])) W := by kernel_rfl
  have r4 : (convert 21 9 (.int .i32 (97 + ((4 : Nat) : Int)))).run Tryd.prog W = .ok (.string (str [UInt8.ofNat (97 + 4)])) W := by kernel_rfl
  have r5 : (convert 21 9 (.int .i32 (97 + ((5 : Nat) : Int)))).run Tryd.prog W = .ok (.string (str [UInt8.ofNat (97 + 5)])) W := by kernel_rfl
  have r6 : (convert 21 9 (.int .i32 (97 + ((6 : Nat) : Int)))).run Tryd.prog W = .ok (.string (str [UInt8.ofNat (97 + 6)])) W := by kernel_rfl
  have r7 : (convert 21 9 (.int .i32 (97 + ((7 : Nat) : Int)))).run Tryd.prog W = .ok (.string (str [UInt8.ofNat (97 + 7)])) W := by kernel_rfl
  have r8 : (convert 21 9 (.int .i32 (97 + ((8 : Nat) : Int)))).run Tryd.prog W = .ok (.string (str [UInt8.ofNat (97 + 8)])) W := by kernel_rfl
  have r9 : (convert 21 9 (.int .i32 (97 + ((9 : Nat) : Int)))).run Tryd.prog W = .ok (.string (str [UInt8.ofNat (97 + 9)])) W := by kernel_rfl
  have r10 : (convert 21 9 (.int .i32 (97 + ((10 : Nat) : Int)))).run Tryd.prog W = .ok (.string (str [UInt8.ofNat (97 + 10)])) W := by kernel_rfl
  have r11 : (convert 21 9 (.int .i32 (97 + ((11 : Nat) : Int)))).run Tryd.prog W = .ok (.string (str [UInt8.ofNat (97 + 11)])) W := by kernel_rfl
  match i, hi with
  | 0, _ => exact r0
  | 1, _ => exact r1
  | 2, _ => exact r2
  | 3, _ => exact r3
  | 4, _ => exact r4
  | 5, _ => exact r5
  | 6, _ => exact r6
  | 7, _ => exact r7
  | 8, _ => exact r8
  | 9, _ => exact r9
  | 10, _ => exact r10
  | 11, _ => exact r11
  | n + 12, h => omega
/-- The memory of Chunks. -/
def CkW (w : World) (ls : List (List UInt8)) (v : Value) (W : World) : Prop := Owns W w.heap.size 9 v (ls.map tx) ∧ Below w.heap.size w W
set_option maxRecDepth 100000 in
set_option maxHeartbeats 500000 in
theorem chunks_any (v : Value) (ls : List (List UInt8)) (n : Int) (w : World) (hv : Txs w v ls) (h1 : -9223372036854775808 ≤ n) (h2 : n < 9223372036854775808) :
    Calls Tryd.prog 14 #[v, .int .i64 n] w fun e w' => ∃ v', e = .returned v' ∧ CkW w (chunksOf ls (max 0 (min n 12)).toNat) v' w' := by
  obtain ⟨tt, htt, htz, hts, htb⟩ := txt_info
  have HTT := Lib.hid htt
  have HTZ := Lib.hid htz
  have HTS := Lib.hid hts
  have HTB := Lib.hid (show tt.bytes ≤ 64 by omega)
  have HV := Lib.hid hv
  obtain ⟨a, cap, rfl, -⟩ := hv
  obtain ⟨t, ht⟩ : ∃ t : Nat, max 0 (min n 12) = (t : Int) := ⟨(max 0 (min n 12)).toNat, by omega⟩
  have ht12 : t ≤ 12 := by omega
  have HMN := Lib.hid (show min n 12 = min n 12 from rfl)
  have HMX := Lib.hid (show max (0 : Int) (min n 12) = (t : Int) from ht)
  rw [ht, Int.toNat_natCast]
  have H0 := Lib.hid (show CkW w (chunksOf ls 0) (.slice (some ⟨w.heap.size, 0, none⟩) 0 0) (w.alloc (.cells #[] 9)) from ⟨own_none w 9, belowSelf w _⟩)
  clear htt htz hts htb ht
  go_enter Tryd.func14, Tryd.ntmps14
  go_wp2_with (first
    | (refine wp_min0 (c := n) (d := 12) (.tmp 9) (.const (.int .i64 12)) HMN.out rfl rfl rfl rfl ?_)
    | (refine wp_max0 (c := 0) (d := min n 12) (.const (.int .i64 0)) (.tmp 10) rfl rfl rfl rfl ?_)
    | fail)
  rw [HMX.out]
  go_loopw [5, 12] (fun v i wr => ∃ j : Nat, j ≤ t ∧ i = .int .i64 j ∧ w.heap.size ≤ wr.heap.size ∧ Hid (CkW w (chunksOf ls j) v wr)) (fun _ i _ => t - (intOf i).toNat)
  case atStart => exact ⟨0, by omega, rfl, by simp, H0⟩
  case round =>
    clear H0
    obtain ⟨j, hj, rfl, hszr, HW⟩ := hrel
    obtain ⟨wo, rfl⟩ : ∃ W, W = wr := ⟨_, rfl⟩
    by_cases hlt : j < t
    · have hdj : decide (j < t) = true := by simpa using hlt
      have HCV := Lib.hid (rune_str j (by omega))
      have HC1 := Lib.hid (show ∀ s, chk1 j s = s.take 299 ++ [UInt8.ofNat (97 + j)] from fun _ => rfl)
      obtain ⟨cj, hcj⟩ : ∃ c, c = UInt8.ofNat (97 + j) := ⟨_, rfl⟩
      rw [← hcj] at HCV HC1
      have hcv := HCV.out
      clear hcj
      have hw32 : IntKind.i32.wrap (97 + (j : Int)) = 97 + (j : Int) := IntWalk.i32_in _ (by omega)
      have HLJ := Lib.hid (length_chunksOf ls j)
      obtain ⟨av, cv, hvv, -, -, -⟩ := HW.out.1.form
      rw [List.length_map] at hvv
      subst hvv
      have HW0 := Lib.hid (show CkW w (chunksOf ls j ++ ((ls.take 12).take 0).map (chk1 j)) (.slice av (chunksOf ls j).length cv) wo by simpa using HW.out)
      go_wp2_with fail
      go_loopw [5, 7] (fun v i wx => ∃ k : Nat, k ≤ (ls.take 12).length ∧ i = .int .i64 k ∧ w.heap.size ≤ wx.heap.size ∧ Hid (CkW w (chunksOf ls j ++ ((ls.take 12).take k).map (chk1 j)) v wx)) (fun _ i _ => 12 - (intOf i).toNat)
      case atStart => exact ⟨0, by omega, rfl, hszr, HW0⟩
      case round =>
        clear HW0 HW
        obtain ⟨k, hk, rfl, hszx, HX⟩ := hrel
        obtain ⟨ax, cx, hvx, -, -, -⟩ := HX.out.1.form
        obtain ⟨L, hL⟩ : ∃ L, L = chunksOf ls j ++ ((ls.take 12).take k).map (chk1 j) := ⟨_, rfl⟩
        rw [← hL] at HX hvx
        rw [List.length_map] at hvx
        subst hvx
        have HL := Lib.hid hL
        have hLl : L.length ≤ 200 := by
          have := HLJ.out
          rw [hL, List.length_append, List.length_map, List.length_take, List.length_take]
          omega
        clear hL
        have hk2 : k ≤ ls.length ∧ k ≤ 12 := by rw [List.length_take] at hk; omega
        by_cases hltk : k < ls.length ∧ k < 12
        · obtain ⟨hk3, hk4⟩ := hltk
          have hd1 : decide (k < ls.length) = true := by simpa using hk3
          have hd2 : decide ((k : Int) < 12) = true := by simp; omega
          obtain ⟨a', cap', hv', hc'⟩ := HV.out.below HX.out.2
          injection hv' with e1 e2 e3
          obtain ⟨b, off, ha, hcell⟩ := hc' k hk3
          rw [← e1] at ha
          subst ha
          have HST := Lib.hid (show (chunksOf ls j ++ ((ls.take 12).take (k + 1)).map (chk1 j)).map tx = L.map tx ++ [tx ((ls.getD k []).take 299 ++ [cj])] by
            have e : (ls.take 12).take (k + 1) = (ls.take 12).take k ++ [ls.getD k []] := by
              rw [List.take_take, List.take_take, Nat.min_eq_left (by omega), Nat.min_eq_left (by omega), take_succ_getD ls k hk3]
            rw [e, List.map_append (l₁ := (ls.take 12).take k), ← List.append_assoc, ← HL.out, List.map_append, List.map_cons, List.map_cons, HC1.out]
            rfl)
          have HLE := Lib.hid (show (L.map tx).length + [tx ((ls.getD k []).take 299 ++ [cj])].length ≤ 1099511627776 by rw [List.length_map]; simp; omega)
          obtain ⟨s, hs⟩ : ∃ s, s = ls.getD k [] := ⟨_, rfl⟩
          rw [← hs] at hcell HST HLE
          have HC := Lib.hid (fun W => cutB s 299 (by omega) W)
          rw [show (299 : Int).toNat = 299 from rfl] at HC
          have hsl : (s.take 299).length ≤ 299 := by rw [List.length_take]; omega
          obtain ⟨x, hx⟩ : ∃ x, x = s.take 299 := ⟨_, rfl⟩
          rw [← hx] at HST HLE HC hsl
          clear e1 e2 e3 hc' hs hx
          go_wp2_with fail
          refine (HC.out _).mono ?_
          rintro e w9 ⟨rfl, rfl⟩
          have HONE := Lib.hid (show ∀ u ∈ [tx (x ++ [cj])], u.oneCell' = true by intro u hu; simp at hu; subst hu; rfl)
          have HXA := Lib.hid (show CkW w L (.slice ax L.length cx) (wr.alloc (.cells #[tx (x ++ [cj])] 9)) from ⟨HX.out.1.alloc _, belowThen HX.out.2 (belowSelf _ _)⟩)
          go_wp2_with (first
            | (at_builtin; refine wp_append_news (w0 := w) HXA.out.1 w.heap.size HXA.out.2 (Nat.le_refl _) [tx (x ++ [cj])] (.tmp 25) (.tmp 36) 38 tt (.string ⟨#[]⟩) rfl rfl Tryd.underlying38 HTT.out HTZ.out HTS.out HTB.out rfl rfl rfl (fun j u hu => cell_news_one _ _ _ j u hu) HONE.out HLE.out (by simp; omega) ?_
               intro v8 w8 hown8 hb8 hs8 hg8 hat8
               rw [← HST.out] at hown8
               have HX8 := Lib.hid (show CkW w (chunksOf ls j ++ ((ls.take 12).take (k + 1)).map (chk1 j)) v8 w8 from ⟨hown8, hb8⟩)
               have hsz8 : w.heap.size ≤ w8.heap.size := by simp at hs8; omega
               clear hown8 hb8 hs8 hg8 hat8)
            | fail)
          go_roundw
          case rel => exact ⟨k + 1, by rw [List.length_take]; omega, by go_num, hsz8, HX8⟩
          case measure => simp [intOf]; omega
        · have ek : k = (ls.take 12).length := by rw [List.length_take] at hk ⊢; omega
          have HE := Lib.hid (show CkW w (chunksOf ls (j + 1)) (.slice ax L.length cx) wr by
            have e : chunksOf ls (j + 1) = L := by rw [chunksOf_succ, HL.out, show (ls.take 12).take k = ls.take 12 by rw [ek, List.take_length]]
            rw [e]
            exact HX.out)
          by_cases hk3 : k < ls.length
          · have hd1 : decide (k < ls.length) = true := by simpa using hk3
            have hd2 : decide ((k : Int) < 12) = false := by simp; omega
            go_wp2_with fail
            go_roundw
            case rel => exact ⟨j + 1, by omega, by go_num, hszx, HE⟩
            case measure => simp [intOf]; omega
          · have hd1 : decide (k < ls.length) = false := by simpa using hk3
            go_wp2_with fail
            go_roundw
            case rel => exact ⟨j + 1, by omega, by go_num, hszx, HE⟩
            case measure => simp [intOf]; omega
    · have ej : j = t := by omega
      subst ej
      have hdj : decide (j < j) = false := by simp
      go_wp2_with fail
      go_ret
      exact ⟨_, rfl, HW.out⟩
end Go.Proofs.YtjdhcanblpifcaaDoor

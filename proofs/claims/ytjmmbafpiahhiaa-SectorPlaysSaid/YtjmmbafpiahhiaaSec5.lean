/-
  Package sector: no text is too long.
-/
import Derived.Test.YtjmmbafpiahhiaaSec4
namespace Go.Proofs.Ytjmmbafpiahhiaa
open Go.RowKit Go.Maps Crv

theorem tooLong_any (l : List UInt8) (w : World) : Calls Try.prog 42 #[.string (str l)] w fun e w' => e = .returned (.bool (decide (64 < (l.length : Int)))) ∧ w = w' := by
  go_enter Try.func42, Try.ntmps42
  go_wp2
  go_ret
  exact ⟨rfl, rfl⟩
/-- Is a text too long? -/
def longS (ls : List (List UInt8)) : Bool := ls.any fun l => decide (64 < (l.length : Int))
set_option maxRecDepth 100000 in
theorem indexFunc_any (w : World) (v : Value) (ls : List (List UInt8)) (hv : Txs w v ls) (hn : ls.length ≤ 100000) :
    Calls Try.prog 48 #[v, .func (.func 42) #[] #[]] w fun e w' => ∃ r : Int, e = .returned (.int .i64 r) ∧ decide (0 ≤ r) = longS ls ∧ w = w' := by
  obtain ⟨a, cap, rfl, hcell⟩ := hv
  have HV := Lib.hid (show Txs w (.slice a ls.length cap) ls from ⟨a, cap, rfl, hcell⟩)
  clear hcell
  go_enter Try.func48, Try.ntmps48
  go_wp2_with fail
  go_loopw [8] (fun i wr => ∃ k : Nat, k ≤ ls.length ∧ i = .int .i64 k ∧ Hid (longS (ls.take k) = false) ∧ wr = w) (fun i _ => ls.length - (intOf i).toNat)
  case atStart => exact ⟨0, by omega, rfl, Lib.hid rfl, rfl⟩
  case round =>
    obtain ⟨k, hk, rfl, HO, rfl⟩ := hrel
    by_cases hlt : k < ls.length
    · obtain ⟨s, hs⟩ : ∃ s, s = ls.getD k [] := ⟨_, rfl⟩
      obtain ⟨a', cap', hv', hc'⟩ := HV.out
      injection hv' with h1 h2 h3
      obtain ⟨b, off, ha, hcell⟩ := hc' k hlt
      rw [← h1] at ha
      subst ha
      rw [← hs] at hcell
      have hsum : ls.take (k + 1) = ls.take k ++ [s] := by
        rw [List.take_add_one, hs, List.getD_eq_getElem?_getD, List.getElem?_eq_getElem hlt]; rfl
      have HSUM := Lib.hid (show longS (ls.take (k + 1)) = (longS (ls.take k) || decide (64 < (s.length : Int))) by
        rw [hsum]; simp [longS])
      have HIN := Lib.hid (show decide (64 < (s.length : Int)) = true → longS ls = true from fun hl => by
        unfold longS
        rw [List.any_eq_true]
        exact ⟨s, by rw [hs, List.getD_eq_getElem?_getD, List.getElem?_eq_getElem hlt]; exact List.getElem_mem hlt, hl⟩)
      have HT := Lib.hid (fun W => tooLong_any s W)
      obtain ⟨t, ht⟩ : ∃ t, t = decide (64 < (s.length : Int)) := ⟨_, rfl⟩
      rw [← ht] at HSUM HIN
      simp only [← ht] at HT
      clear hs h1 h2 h3 hc' hsum ht
      have hd : decide (k < ls.length) = true := by simp; omega
      cases t with
      | true =>
        go_wp2_with fail
        refine (HT.out _).mono ?_
        rintro e w1 ⟨rfl, rfl⟩
        go_wp2
        go_ret
        exact ⟨_, rfl, by rw [HIN.out (by simp)]; simp, rfl⟩
      | false =>
        go_wp2_with fail
        refine (HT.out _).mono ?_
        rintro e w1 ⟨rfl, rfl⟩
        go_wp2
        go_roundw
        case rel => exact ⟨k + 1, by omega, by go_num, Lib.hid (by rw [HSUM.out, HO.out]; rfl), by trivial⟩
        case measure => simp [intOf]; omega
    · have ek : k = ls.length := by omega
      subst ek
      rw [List.take_length] at HO
      go_wp2
      go_ret
      exact ⟨_, rfl, by rw [HO.out]; rfl, rfl⟩
theorem contains_any (w : World) (v : Value) (ls : List (List UInt8)) (hv : Txs w v ls) (hn : ls.length ≤ 100000) :
    Calls Try.prog 41 #[v, .func (.func 42) #[] #[]] w fun e w' => e = .returned (.bool (longS ls)) ∧ w = w' := by
  have H := Lib.hid (indexFunc_any w v ls hv hn)
  clear hv
  go_enter Try.func41, Try.ntmps41
  go_wp2_with fail
  refine H.out.mono ?_
  rintro e w1 ⟨r, rfl, hr, rfl⟩
  go_wp2
  go_ret
  exact ⟨by rw [← hr]; rfl, rfl⟩
end Go.Proofs.Ytjmmbafpiahhiaa

/-
  GearRolls: the walk.
-/
import Derived.Test.YtbjeiiofanpkdaaDoorGea3
namespace Go.Proofs.YtbjeiiofanpkdaaDoor
open Go.RowKit Crv

def caravanS : List UInt8 := [99, 97, 114, 97, 118, 97, 110]
/-- What the loop keeps: a table, a roll over it, all that was there. -/
def RollW (w0 : World) (tb rb v n : Nat) (t : List Nat) (w : World) : Prop := Tb w tb t ∧ Rl w rb tb v n ∧ Below w0.heap.size w0 w
set_option maxHeartbeats 1000000 in
set_option maxRecDepth 100000 in
theorem gearRolls_walk (s0 : List UInt8) (w : World) (hc : Consts w) :
    Calls Tryd.prog 6 #[.string (str s0)] w fun e w' => e = .returned (.bool true) ∧ Below w.heap.size w w' := by
  have HCU := Lib.hid (fun W => cutB s0 200 (by omega) W)
  rw [show (200 : Int).toNat = 200 from rfl] at HCU
  obtain ⟨s, hs⟩ : ∃ s, s = s0.take 200 := ⟨_, rfl⟩
  have hsl : s.length ≤ 200 := by rw [hs, List.length_take]; omega
  rw [← hs] at HCU
  have HA := Lib.hid (awake7_any w hc)
  have HC := Lib.hid hc
  have HN := Lib.hid (fun W hW => gearNew_any caravanS W hW (by decide))
  obtain ⟨t, ht⟩ : ∃ t, t = gearTab caravanS := ⟨_, rfl⟩
  simp only [← ht] at HN
  rw [show caravanS = [99, 97, 114, 97, 118, 97, 110] from rfl] at HN
  clear hs ht hc
  go_enter Tryd.func6, Tryd.ntmps6
  go_wp2_with fail
  refine (HCU.out _).mono ?_
  rintro e w' ⟨rfl, rfl⟩
  go_wp2_with fail
  refine HA.out.mono ?_
  rintro e w1 ⟨rfl, hb1⟩
  have HC1 := Lib.hid (HC.out.below hb1)
  clear HCU HA
  go_wp2_with fail
  refine (HN.out _ HC1.out).mono ?_
  rintro e w2 ⟨rfl, htb, hb2⟩
  have hB2 := belowThen hb1 hb2
  have hbz1 := hb1.size
  obtain ⟨tb, htbe⟩ : ∃ b, b = w1.heap.size := ⟨_, rfl⟩
  rw [← htbe] at htb
  simp only [← htbe]
  have HTL := Lib.hid (show w.heap.size ≤ tb by omega)
  clear hbz1 hb1 hb2 htbe HC1 HN HC
  go_wp2_with fail
  refine (over_any tb w2).mono ?_
  rintro e w3 ⟨rfl, hrl, hb3⟩
  have hbz2 := hB2.size
  have HB3 := Lib.hid (belowThen hB2 hb3)
  have HTB := Lib.hid (htb.below hb3)
  obtain ⟨rb, hrb⟩ : ∃ b, b = w2.heap.size := ⟨_, rfl⟩
  rw [← hrb] at hrl
  simp only [← hrb]
  have HRL := Lib.hid (show w.heap.size ≤ rb by omega)
  have HRW := Lib.hid (show RollW w tb rb 0 0 t w3 from ⟨HTB.out, hrl, HB3.out⟩)
  clear hrb hbz2 hB2 hb3 htb hrl HB3 HTB
  go_wp2_with fail
  go_loopw [6] (fun i wr => ∃ k : Nat, k ≤ s.length ∧ i = .int .i64 k ∧ Hid (RollW w tb rb (rollAll t (s.take k)) k t wr)) (fun i _ => s.length - (intOf i).toNat)
  case atStart => exact ⟨0, by omega, rfl, HRW⟩
  case round =>
    obtain ⟨k, hk, rfl, HR⟩ := hrel
    clear HRW
    by_cases hlt : k < s.length
    · have hd : decide ((k : Int) < (s.length : Int)) = true := by simp; omega
      have HS := Lib.hid (rollAll_take_succ t s k hlt)
      obtain ⟨c, hc⟩ : ∃ c, c = s.getD k 0 := ⟨_, rfl⟩
      rw [← hc] at HS
      have hix := fun W => run_index_str (P := Tryd.prog) 9 Tryd.underlying9 s .i64 k hlt W
      rw [← hc] at hix
      have HN := Lib.hid (next_any rb tb (rollAll t (s.take k)) k c t wr HR.out.1 HR.out.2.1 (by omega))
      rw [← HS.out] at HN
      have HAL := Lib.hid (fun W hW => refAll_any tb t (s.take (k + 1)) W hW (by rw [List.length_take]; omega))
      obtain ⟨x, hx⟩ : ∃ x, x = rollAll t (s.take (k + 1)) := ⟨_, rfl⟩
      simp only [← hx] at HN HAL
      have HX := Lib.hid hx
      clear hc hx HS
      go_wp2_with fail
      refine HN.out.mono ?_
      rintro e w4 ⟨rfl, hr4, hg4⟩
      have HT4 := Lib.hid (HR.out.1.grown hg4 (HR.out.1.ne HR.out.2.1))
      have HRW4 := Lib.hid (show RollW w tb rb x (k + 1) t w4 from ⟨HT4.out, hr4, belowNew HR.out.2.2 hg4 HRL.out⟩)
      have HCO := Lib.hid (count_any rb tb x (k + 1) w4 hr4)
      have hsl : ∀ W, (Instr.slice 9 (.string (str s)) none (some (.int .i64 ((k : Int) + 1))) none).run Tryd.prog W = .ok (.string (str (s.take (k + 1)))) W := fun W => slice_str_to (P := Tryd.prog) Tryd.underlying9 s .i64 (k + 1) (by omega) W
      clear hr4 hg4 HN hix
      go_wp2_with fail
      refine (HAL.out _ HT4.out).mono ?_
      rintro e w' ⟨rfl, rfl⟩
      go_wp2_with fail
      refine HCO.out.mono ?_
      rintro e w' ⟨rfl, rfl⟩
      go_wp2
      refine ⟨⟨k + 1, by omega, by go_num, by rw [← HX.out]; exact HRW4⟩, ?_⟩
      simp [intOf]; omega
    · have e : k = s.length := by omega
      subst e
      rw [List.take_length] at HR
      have hd : decide ((s.length : Int) < (s.length : Int)) = false := by simp
      have HRS := Lib.hid (reset_any rb tb (rollAll t s) s.length wr HR.out.2.1)
      go_wp2_with fail
      refine HRS.out.mono ?_
      rintro e w4 ⟨rfl, hr4, hg4⟩
      have HT4 := Lib.hid (HR.out.1.grown hg4 (HR.out.1.ne HR.out.2.1))
      have HR4 := Lib.hid hr4
      have HB4 := Lib.hid (belowNew HR.out.2.2 hg4 HRL.out)
      have hr97 := HT4.out.at 97
      have HRO := Lib.hid (show roll t 0 97 = t.getD 97 0 by show (0 * 2 + t.getD 97 0) % _ = _; rw [Nat.zero_mul, Nat.zero_add]; exact Nat.mod_eq_of_lt hr97.2)
      have hc97 := hr97.1
      have HAL := Lib.hid (fun W hW => tabAll_any tb t s W hW (by omega))
      have HRA := Lib.hid (fun W hW => refAll_any tb t s W hW (by omega))
      have HCO := Lib.hid (fun W hW => count_any rb tb 0 0 W hW)
      have HNX := Lib.hid (fun W hT hW => next_any rb tb 0 0 97 t W hT hW (by omega))
      rw [HRO.out] at HNX
      rw [show (97 : UInt8).toNat = 97 from rfl] at hc97
      obtain ⟨x, hx⟩ : ∃ x, x = t.getD 97 0 := ⟨_, rfl⟩
      obtain ⟨y, hy⟩ : ∃ x, x = rollAll t s := ⟨_, rfl⟩
      simp only [← hx] at HNX hc97
      simp only [← hy] at HAL HRA
      have HC97 := Lib.hid hc97
      have HT5 := Lib.hid (show Tb w4.drew tb t from HT4.out)
      have HR5 := Lib.hid (show Rl w4.drew rb tb 0 0 from HR4.out)
      have HB5 := Lib.hid (show Below w.heap.size w w4.drew from below_drewN HB4.out 1)
      clear hr97 hx hy hr4 hg4 HRS HR HRO hc97
      go_wp2_with fail
      go_region_held3 (fun w' => w'.cell? ⟨tb, 97, none⟩ = some (nV x))
        (first
          | (exact HC97.out)
          | (exact hc5))
        (first
          | (go_at_call 35; refine (HAL.out _ HT5.out).mono ?_; rintro e w' ⟨rfl, rfl⟩)
          | (go_at_call 32; refine (HRA.out _ HT5.out).mono ?_; rintro e w' ⟨rfl, rfl⟩)
          | (go_at_call 33; refine (HCO.out _ HR5.out).mono ?_; rintro e w' ⟨rfl, rfl⟩)
          | (go_at_call 31; refine (HNX.out _ HT5.out HR5.out).mono ?_; rintro e w5 ⟨rfl, -, hg5⟩; have HB6 := Lib.hid (belowNew HB5.out hg5 HRL.out); have hc5 : w5.cell? ⟨tb, 97, none⟩ = some (nV x) := (World.cell?_of_block (hg5.block tb (Mem.lt HT5.out.1) (fun e => Tb.ne HT5.out HR5.out (by injection e)))).trans HC97.out; clear hg5))
      all_goals
        rename_i K hK hHe
        refine hK _ _ ?_
        clear hc5 hHe
        go_wp2
        go_ret
        exact ⟨rfl, HB6.out⟩
end Go.Proofs.YtbjeiiofanpkdaaDoor

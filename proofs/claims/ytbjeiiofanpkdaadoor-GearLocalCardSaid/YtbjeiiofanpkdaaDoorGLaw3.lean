/-
  GearLocal: the walk.
-/
import Derived.Test.YtbjeiiofanpkdaaDoorGLaw2
namespace Go.Proofs.YtbjeiiofanpkdaaDoor
open Go.RowKit Crv
attribute [local go_sem] ByteArray.mk_append_mk

/-- A text, filled up to 64 bytes and more. -/
def padTo (s : List UInt8) : Nat → List UInt8
  | 0 => s
  | n + 1 => padTo s n ++ [112, 97, 100]
theorem length_padTo (s : List UInt8) : ∀ n, (padTo s n).length = s.length + 3 * n
  | 0 => rfl
  | n + 1 => by show (padTo s n ++ _).length = _; rw [List.length_append, length_padTo s n]; simp; omega
theorem tabAll_quiet (b : Nat) (t : List Nat) (s : List UInt8) (w : World) (n : Nat) (ht : Tb w b t) (hs : s.length ≤ 1099511627776) :
    Calls Tryd.prog 35 #[.pointer (some ⟨b, 0, none⟩), .string (str s)] (w.drewN n) fun e w'' => e = .returned (nV (rollAll t s)) ∧ ∃ m, w'' = w.drewN m := quiet_here (tabAll_any b t s (w.drewN n) ht hs)
set_option maxHeartbeats 1000000 in
set_option maxRecDepth 100000 in
theorem gearLocal_walk (a0 b0 s0 : List UInt8) (w : World) (hc : Consts w) :
    Calls Tryd.prog 7 #[.string (str a0), .string (str b0), .string (str s0)] w fun e w' => e = .returned (.bool true) ∧ Below w.heap.size w w' := by
  have HCA := Lib.hid (fun W => cutB a0 100 (by omega) W)
  have HCB := Lib.hid (fun W => cutB b0 100 (by omega) W)
  have HCS := Lib.hid (fun W => cutB s0 100 (by omega) W)
  rw [show (100 : Int).toNat = 100 from rfl] at HCA HCB HCS
  obtain ⟨a, ha⟩ : ∃ s, s = a0.take 100 := ⟨_, rfl⟩
  obtain ⟨b, hb⟩ : ∃ s, s = b0.take 100 := ⟨_, rfl⟩
  obtain ⟨s, hs⟩ : ∃ s, s = s0.take 100 := ⟨_, rfl⟩
  have hal : a.length ≤ 100 := by rw [ha, List.length_take]; omega
  have hbl : b.length ≤ 100 := by rw [hb, List.length_take]; omega
  have hsl : s.length ≤ 100 := by rw [hs, List.length_take]; omega
  rw [← ha] at HCA
  rw [← hb] at HCB
  rw [← hs] at HCS
  have HA := Lib.hid (awake7_any w hc)
  have HC := Lib.hid hc
  have HN := Lib.hid (fun W hW => gearNew_any caravanS W hW (by decide))
  obtain ⟨t, ht⟩ : ∃ t, t = gearTab caravanS := ⟨_, rfl⟩
  simp only [← ht] at HN
  rw [show caravanS = [99, 97, 114, 97, 118, 97, 110] from rfl] at HN
  clear ha hb hs ht hc
  go_enter Tryd.func7, Tryd.ntmps7
  go_wp2_with fail
  refine (HCA.out _).mono ?_
  rintro e w' ⟨rfl, rfl⟩
  go_wp2_with fail
  refine (HCB.out _).mono ?_
  rintro e w' ⟨rfl, rfl⟩
  go_wp2_with fail
  refine (HCS.out _).mono ?_
  rintro e w' ⟨rfl, rfl⟩
  go_wp2_with fail
  refine HA.out.mono ?_
  rintro e w1 ⟨rfl, hb1⟩
  have HC1 := Lib.hid (HC.out.below hb1)
  clear HCA HCB HCS HA
  go_wp2_with fail
  refine (HN.out _ HC1.out).mono ?_
  rintro e w2 ⟨rfl, htb, hb2⟩
  have HB2 := Lib.hid (belowThen hb1 hb2)
  obtain ⟨tb, htbe⟩ : ∃ b, b = w1.heap.size := ⟨_, rfl⟩
  rw [← htbe] at htb
  simp only [← htbe]
  have HTB := Lib.hid htb
  clear hb1 hb2 htbe HC1 HN HC htb
  go_wp2_with fail
  go_loopw [2] (fun v wr => ∃ k : Nat, v = .string (str (padTo s k)) ∧ (padTo s k).length ≤ 200 ∧ w2 = wr) (fun v _ => 300 - (match v with | .string x => x.size | _ => 0))
  case atStart => exact ⟨0, rfl, by rw [length_padTo]; omega, rfl⟩
  case round =>
    obtain ⟨k, rfl, hkl, rfl⟩ := hrel
    have HS := Lib.hid (show padTo s (k + 1) = padTo s k ++ [112, 97, 100] from rfl)
    obtain ⟨x, hx⟩ : ∃ x, x = padTo s k := ⟨_, rfl⟩
    rw [← hx] at HS hkl
    simp only [← hx]
    clear hx
    by_cases hlt : x.length < 64
    · have hd : decide ((x.length : Int) < 64) = true := by simp; omega
      go_wp2
      refine ⟨⟨k + 1, by rw [HS.out], by rw [HS.out, List.length_append]; simp; omega, trivial⟩, ?_⟩
      show 300 - (x ++ [112, 97, 100]).length < 300 - x.length
      rw [List.length_append]
      simp
      omega
    · have hd : decide ((x.length : Int) < 64) = false := by simp; omega
      have HE1 := Lib.hid (rollAll_local t a x (by omega))
      have HE2 := Lib.hid (rollAll_local t b x (by omega))
      have HE3 := Lib.hid (show rollAll t (x.drop (x.length - 64)) = rollAll t x by
        have h := rollAll_local t (x.take (x.length - 64)) (x.drop (x.length - 64)) (by rw [List.length_drop]; omega)
        rw [List.take_append_drop] at h
        exact h.symm)
      have he1 := HE1.out
      have he2 := HE2.out
      have he3 := HE3.out
      obtain ⟨y, hy⟩ : ∃ y, y = rollAll t x := ⟨_, rfl⟩
      rw [← hy] at he1 he2 he3
      have hxl : (a ++ x).length ≤ 1099511627776 := by rw [List.length_append]; omega
      have hyl : (b ++ x).length ≤ 1099511627776 := by rw [List.length_append]; omega
      have hzl : (x.drop (x.length - 64)).length ≤ 1099511627776 := by rw [List.length_drop]; omega
      have hsl : ∀ W, (Instr.slice 9 (.string (str x)) (some (.int .i64 ((x.length : Int) - 64))) none none).run Tryd.prog W = .ok (.string (str (x.drop (x.length - 64)))) W := fun W => by
        rw [show ((x.length : Int) - 64) = ((x.length - 64 : Nat) : Int) by omega]
        exact slice_str_from (P := Tryd.prog) Tryd.underlying9 x .i64 (x.length - 64) (by omega) W
      have hwr : IntKind.i64.wrap ((x.length : Int) - 64) = (x.length : Int) - 64 := IntWalk.i64_in _ (by omega)
      clear hy HE1 HE2 HE3 HS
      go_wp2_with fail
      go_quiet ((go_at_call 35; exact tabAll_quiet tb t _ w2 _ HTB.out (by assumption)))
      rename_i K hK
      refine hK _ _ ?_
      clear he1 he2 he3 hxl hyl hzl hsl hwr
      go_wp2
      go_ret
      exact ⟨rfl, below_drewN HB2.out nq⟩
end Go.Proofs.YtbjeiiofanpkdaaDoor

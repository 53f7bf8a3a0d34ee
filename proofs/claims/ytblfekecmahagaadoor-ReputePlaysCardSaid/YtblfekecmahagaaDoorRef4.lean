/-
  The reference of layer 1: Padded, Of.
-/
import Derived.Test.YtblfekecmahagaaDoorRef3
import Derived.Test.YtblfekecmahagaaDoorStr2
import Derived.Laws.Concat
namespace Go.Proofs.YtblfekecmahagaaDoor
open Go.RowKit Crv

attribute [local go_sem] ByteArray.mk_append_mk

def padSoFar (m : List UInt8) (k : Nat) : List UInt8 := m ++ 128 :: List.replicate k 0
theorem length_padSoFar (m : List UInt8) (k : Nat) : (padSoFar m k).length = m.length + 1 + k := by simp [padSoFar]; omega
theorem padSoFar_succ (m : List UInt8) (k : Nat) : padSoFar m k ++ [0] = padSoFar m (k + 1) := by
  simp [padSoFar, List.replicate_succ']

theorem be4_mod (x : Nat) : be4 (x % 4294967296) = be4 x := by
  simp only [be4]
  have h : ∀ a b : Nat, a % 256 = b % 256 → UInt8.ofNat a = UInt8.ofNat b := fun a b hab => by
    apply UInt8.toNat_inj.1
    rw [UInt8.toNat_ofNat', UInt8.toNat_ofNat']
    exact hab
  rw [h (x % 4294967296 / 16777216) (x / 16777216) (by omega), h (x % 4294967296 / 65536) (x / 65536) (by omega), h (x % 4294967296 / 256) (x / 256) (by omega), h (x % 4294967296) x (by omega)]
theorem padded_split (m : List UInt8) : padded m = padSoFar m (zeros m.length) ++ (be4 (m.length / 536870912) ++ be4 (m.length % 536870912 * 8)) := by
  have e : be8 (8 * m.length) = be4 (m.length / 536870912) ++ be4 (m.length % 536870912 * 8) := by
    unfold be8
    rw [show 8 * m.length / 4294967296 = m.length / 536870912 from by omega, show m.length % 536870912 * 8 = 8 * m.length % 4294967296 from by omega, be4_mod (8 * m.length)]
  simp [padded, padding, padSoFar, e]

set_option maxHeartbeats 1000000 in
theorem padded_any (m : List UInt8) (w : World) (hm : m.length < 1099511627776) :
    Calls Tryd.prog 47 #[.string (str m)] w fun e w' => e = .returned (.string (str (padded m))) ∧ Below w.heap.size w w' := by
  have hz : zeros m.length < 64 := Nat.mod_lt _ (by omega)
  go_enter Tryd.func47, Tryd.ntmps47
  go_wp2
  go_loop [4, 5] (fun o i => ∃ (k : Nat), k ≤ zeros m.length ∧ i = .int .i64 k ∧ o = .string (str (padSoFar m k))) (fun _ i => 64 - (intOf i).toNat)
  case atStart => exact ⟨0, Nat.zero_le _, rfl, rfl⟩
  case round =>
    obtain ⟨k, hk, rfl, rfl⟩ := hrel
    obtain ⟨q, hq⟩ : ∃ q, q = padSoFar m k := ⟨_, rfl⟩
    rw [← hq]
    have hql : q.length = m.length + 1 + k := by rw [hq, length_padSoFar]
    have HQ := Lib.hid hq
    have HQL := Lib.hid hql
    clear hq hql
    have hd : decide ((k : Int) < 64) = true := by simp; omega
    have hk64 : (k : Int) < 64 := by omega
    have hqb : q.length + 1 ≤ 1099511627900 := by rw [HQL.out]; omega
    by_cases hlt : k < zeros m.length
    · have ht : ((q.length : Int) % 64 != 56) = true := by
        have := HQL.out
        have hzd : zeros m.length = (119 - m.length % 64) % 64 := rfl
        rw [bne_iff_ne]; omega
      go_wp2
      go_round
      case rel => exact ⟨k + 1, by omega, by go_num, by rw [HQ.out, padSoFar_succ]⟩
      case measure => simp [intOf]; omega
    · have ek : k = zeros m.length := by omega
      have ht : ((q.length : Int) % 64 != 56) = false := by
        have := HQL.out
        have hzd : zeros m.length = (119 - m.length % 64) % 64 := rfl
        rw [bne_eq_false_iff_eq]; omega
      have HK := Lib.hid ek
      clear ek
      go_wp2_with fail
      have e1 : (m.length : Int) / 536870912 = ((m.length / 536870912 : Nat) : Int) := by omega
      rw [e1]
      clear e1
      refine (refBytes_any _ _ (by omega)).mono ?_
      rintro e w1 ⟨rfl, hb1⟩
      have hlb : (be4 (m.length / 536870912)).length = 4 := rfl
      go_wp2_with fail
      have e2 : (m.length : Int) % 536870912 * 8 = ((m.length % 536870912 * 8 : Nat) : Int) := by omega
      rw [e2]
      clear e2
      refine (refBytes_any _ _ (by omega)).mono ?_
      rintro e w2 ⟨rfl, hb2⟩
      have hlb2 : (be4 (m.length % 536870912 * 8)).length = 4 := rfl
      go_wp2
      go_ret
      refine ⟨?_, hb1.trans (hb2.mono hb1.size)⟩
      rw [padded_split, ← HK.out, ← HQ.out]
      rfl

theorem flatMap_be4_le (l : List Nat) (h : l.length ≤ 8) : (l.flatMap be4).length ≤ 32 := by
  have : (l.flatMap be4).length = 4 * l.length := by
    clear h
    induction l with
    | nil => rfl
    | cons x r ih => simp only [List.flatMap_cons, List.length_append, List.length_cons, ih]; simp [be4]; omega
  omega
theorem padded_blocks (m : List UInt8) : ∃ n, (padded m).length = 64 * n := by
  refine ⟨(padded m).length / 64, ?_⟩
  have : (padded m).length % 64 = 0 := by
    simp only [padded, padding, List.length_append, List.length_cons, List.length_replicate, be8, be4, zeros]
    simp
    omega
  omega

set_option maxHeartbeats 1000000 in
set_option maxRecDepth 100000 in
theorem refOf_any (m : List UInt8) (w : World) (hm : m.length < 1099511627776) :
    Calls Tryd.prog 40 #[.string (str m)] w fun e w' => e = .returned (.string (str (sha m))) ∧ Below w.heap.size w w' := by
  obtain ⟨nb, hnb⟩ := padded_blocks m
  have hshort : (padded m).length < 1099511628000 := by rw [padded_split]; simp [length_padSoFar, be4]; have : zeros m.length < 64 := Nat.mod_lt _ (by omega); omega
  go_enter Tryd.func40, Tryd.ntmps40
  go_wp2_with fail
  refine (padded_any m _ hm).mono ?_
  rintro e w1 ⟨rfl, hb1⟩
  obtain ⟨p, hp⟩ : ∃ p, p = padded m := ⟨_, rfl⟩
  rw [← hp] at hnb hshort ⊢
  have HP := Lib.hid hp
  have HNB := Lib.hid hnb
  have hnbs : 64 * nb < 1099511628000 := by rw [← hnb]; exact hshort
  clear hp hnb
  have hst : Eight (w1.alloc (.cells (init.list.map wordV).toArray 77)) w1.heap.size init := fun j u hu => by rw [(Mem.new w1 77 (init.list.map wordV)).cell j, hu]
  go_wp2
  go_loopw [4, 5] (fun h i wr => ∃ (k g cap : Nat), k ≤ nb ∧ i = .int .i64 (64 * (k : Int)) ∧ h = .slice (some ⟨g, 0, none⟩) 8 cap ∧ Hid (Eight wr g (blocks init p k)) ∧ Below w.heap.size w wr) (fun _ i _ => 64 * nb - (intOf i).toNat)
  case atStart => exact ⟨0, w1.heap.size, 8, Nat.zero_le _, rfl, rfl, Lib.hid hst, hb1.alloc hb1.size _⟩
  case round =>
    clear hst hb1
    obtain ⟨k, g, cap, hk, rfl, rfl, H8, hb⟩ := hrel
    have hpl : (p.length : Int) = 64 * (nb : Int) := by rw [HNB.out]; omega
    by_cases hlt : k < nb
    · have hd : decide (64 * (k : Int) < (p.length : Int)) = true := by simp; omega
      have hli : 64 * (k : Int) < (p.length : Int) := by omega
      have hsl := fun W => slice_str_mid (P := Tryd.prog) Tryd.underlying9 p .i64 .i64 (64 * k) (64 * k + 64) (by omega) (by omega) W
      rw [show ((64 * k : Nat) : Int) = 64 * (k : Int) from by omega, show ((64 * k + 64 : Nat) : Int) = 64 * (k : Int) + 64 from by omega] at hsl
      clear hpl
      have hok := blocks_ok init_ok p k
      go_wp2_with fail
      refine (refMixed_any (blocks init p k) g cap _ _ hok (by have := HNB.out; simp; omega) H8.out).mono ?_
      rintro e w2 ⟨v', rfl, ho2, hb2⟩
      obtain ⟨g', cap', rfl, _, h8'⟩ := owns_eight ho2
      have H8' : Hid (Eight w2 g' (blocks init p (k + 1))) := Lib.hid (by
        have e : (p.take (64 * k + 64)).drop (64 * k) = (p.drop (64 * k)).take 64 := by rw [List.drop_take]; congr 1; omega
        rw [e] at h8'
        exact h8')
      have hbb := hb.trans (hb2.mono hb.size)
      clear h8' ho2 hb2 hsl hb
      go_wp2
      go_roundw
      case rel =>
        first
          | exact ⟨k + 1, g', cap', by omega, by go_num, rfl, H8', hbb⟩
          | ((repeat apply Exists.intro); exact ⟨⟨k + 1, g', cap', by omega, by go_num, rfl, H8', hbb⟩, rfl⟩)
      case measure => simp [intOf]; omega
    · have ek : k = nb := by omega
      subst ek
      have hd : decide (64 * (k : Int) < (p.length : Int)) = false := by simp; omega
      have hS : sha m = (blocks init p k).bytes := by
        have := HNB.out
        rw [show sha m = (blocks init (padded m) ((padded m).length / 64)).bytes from rfl, ← HP.out, this]
        rw [show 64 * k / 64 = k from by omega]
      have HSH := Lib.hid hS
      have hok := blocks_ok init_ok p k
      clear hS hpl
      revert H8 HSH hok
      generalize blocks init p k = S
      intro H8 HSH hok
      obtain ⟨We, hWe⟩ : ∃ We : World, We = wr := ⟨_, rfl⟩
      subst hWe
      go_wp2
      clear hd
      go_loopw [6, 27] (fun o i w4 => ∃ j : Nat, j ≤ 8 ∧ i = .int .i64 j ∧ o = .string (str ((S.list.take j).flatMap be4)) ∧ Below We.heap.size We w4) (fun _ i _ => 8 - (intOf i).toNat)
      case atStart => exact ⟨0, by omega, rfl, rfl, Below.refl _ _⟩
      case round =>
        obtain ⟨j, hj, rfl, rfl, hb4⟩ := hrel
        by_cases hjl : j < 8
        · obtain ⟨x, hx⟩ : ∃ x, x = S.list.getD j 0 := ⟨_, rfl⟩
          have cx : wr.cell? ⟨g, j, none⟩ = some (.int .u32 (x : Int)) := (H8.out.below hb4) j _ (by rw [hx]; exact eight_get S j hjl)
          have lx : x < 4294967296 := by rw [hx]; exact getD_lt hok j
          have hd : decide ((j : Int) < 8) = true := by simp; omega
          have hj8 : (j : Int) < 8 := by omega
          obtain ⟨q, hq⟩ : ∃ q, q = (S.list.take j).flatMap be4 := ⟨_, rfl⟩
          have hql : q.length ≤ 32 := by rw [hq]; exact flatMap_be4_le _ (by rw [List.length_take]; omega)
          have hqs : q ++ be4 x = (S.list.take (j + 1)).flatMap be4 := by rw [hq, hx, list_take_succ S j hjl]; simp
          rw [← hq]
          have HX := Lib.hid hx
          have HQ := Lib.hid hqs
          clear hx hq hqs
          have hb4l : (be4 x).length = 4 := rfl
          go_wp2_with fail
          refine (refBytes_any x _ lx).mono ?_
          rintro e w5 ⟨rfl, hb5⟩
          go_wp2
          go_roundw
          case rel => exact ⟨j + 1, by omega, by go_num, by rw [← HQ.out], hb4.trans (hb5.mono hb4.size)⟩
          case measure => simp [intOf]; omega
        · have e8 : j = 8 := by omega
          subst e8
          go_wp2
          go_ret
          exact ⟨by rw [HSH.out]; rfl, hb.trans (hb4.mono hb.size)⟩
end Go.Proofs.YtblfekecmahagaaDoor

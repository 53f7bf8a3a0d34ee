/-
  hash.padding: the contract.
-/
import Derived.Test.YtblfekecmahagaaDoorMix
namespace Go.Proofs.YtblfekecmahagaaDoor
open Go.RowKit Crv

def padHead (n : Nat) : List UInt8 := 128 :: List.replicate (zeros n) 0
theorem length_padHead (n : Nat) : (padHead n).length = 1 + zeros n := by simp [padHead]; omega
theorem zeros_lt (n : Nat) : zeros n < 64 := Nat.mod_lt _ (by omega)
/-- The eight bytes of the length, one by one. -/
def lenBytes (n : Nat) : Nat → List UInt8
  | 0 => []
  | k + 1 => lenBytes n k ++ [UInt8.ofNat (8 * n / 2 ^ (56 - 8 * k))]
theorem length_lenBytes (n : Nat) : ∀ k, (lenBytes n k).length = k
  | 0 => rfl
  | k + 1 => by simp [lenBytes, length_lenBytes n k]
theorem lenBytes_eight (n : Nat) : lenBytes n 8 = be8 (8 * n) := by
  simp only [lenBytes, be8, be4, List.nil_append, List.cons_append, Nat.div_div_eq_div_mul]
  simp
theorem padding_eq (n : Nat) : padding n = padHead n ++ lenBytes n 8 := by rw [lenBytes_eight]; rfl

/-- make([]byte, n, c). -/
theorem make_bytes (l c : Int) (n m : Nat) (hl : l = n) (hc : c = m) (hnm : n ≤ m) (hm : m ≤ 1099511627776) (w : World) : ∃ w1, (Instr.makeSlice 79 (.int .u64 l) (.int .u64 c)).run Tryd.prog w = .ok (.slice (some ⟨w.heap.size, 0, none⟩) n m) w1 ∧
    Mem w1 w.heap.size 5 (List.replicate m (.int .u8 0)) ∧ Below w.heap.size w w1 ∧ w1.heap.size = w.heap.size + 1 := by
  subst hl hc
  obtain ⟨i, hi, hz, hs, hb⟩ : ∃ i, Tryd.prog.info? 5 = some i ∧ i.zero = some (.int .u8 0) ∧ i.size = 1 ∧ i.bytes = 1 := info_of (by kernel_rfl)
  have hr := run_make (P := Tryd.prog) w 79 5 i (.int .u8 0) Tryd.underlying79 hi hz .u64 .u64 n m (by omega) (by omega) (by rw [hb]; omega) (by omega)
  simp only [Int.toNat_natCast, hs, Nat.mul_one] at hr
  refine ⟨_, hr, ?_, (Below.refl _ _).alloc (Nat.le_refl _) _, by simp⟩
  have e : (madeCells (Value.int .u8 0).cells m) = (List.replicate m (.int .u8 0)).toArray := by
    rw [← toList_madeCells_one]; rfl
  rw [e]
  exact Mem.new w _ _

theorem pad_start (n : Nat) (w w1 : World) (h : Mem w1 w.heap.size 5 (List.replicate (1 + zeros n + 8) (.int .u8 0))) :
    Owns (w1.setCell ⟨w.heap.size, 0, none⟩ (.int .u8 128)) w.heap.size 5 (.slice (some ⟨w.heap.size, 0, none⟩) (1 + zeros n) (1 + zeros n + 8)) ((padHead n ++ lenBytes n 0).map byteV) := by
  have hz := zeros_lt n
  refine Owns.of_mem (h.set 0 _) (Nat.le_refl _) _ _ (by omega) (by simp) (by simp only [maxLen]; omega) ?_
  have e : 1 + zeros n + 8 = (zeros n + 8) + 1 := by omega
  rw [e, List.replicate_succ, List.set_cons_zero, Nat.add_comm 1, List.take_succ_cons, List.take_replicate, Nat.min_eq_left (by omega)]
  simp [padHead, lenBytes]

set_option maxHeartbeats 1000000 in
set_option maxRecDepth 100000 in
theorem padding_any (n : Nat) (w : World) (hn : n < 1152921504606846976) :
    Calls Tryd.prog 46 #[.int .u64 n] w fun e w' => e = .returned (.string (str (padding n))) ∧ Below w.heap.size w w' := by
  have hz := zeros_lt n
  obtain ⟨w1, hmk, hm1, hb1, hz1⟩ := make_bytes (1 + (zeros n : Int)) (1 + (zeros n : Int) + 8) (1 + zeros n) (1 + zeros n + 8) (by omega) (by omega) (by omega) (by omega) w
  have q1 : (120 - ((n : Int) + 1) % 64) % 64 = (zeros n : Int) := by unfold zeros; omega
  have q2 : (120 - ((n : Int) + 1)) % 64 = (zeros n : Int) := by unfold zeros; omega
  have c0 : w1.cell? ⟨w.heap.size, 0, none⟩ = some (.int .u8 0) := by rw [hm1.cell]; rw [List.getElem?_replicate]; simp
  have f0 := hm1.frozen 0
  obtain ⟨i, hi, hz8, hs8, hb8⟩ : ∃ i, Tryd.prog.info? 5 = some i ∧ i.zero = some (.int .u8 0) ∧ i.size = 1 ∧ i.bytes = 1 := info_of (by kernel_rfl)
  have H1 := Lib.hid hm1
  have HZ := Lib.hid hz1
  clear hm1 hz1
  go_enter Tryd.func46, Tryd.ntmps46
  go_wp2
  rw [q1]
  clear q1 q2
  go_loopw [5, 6] (fun v sh wr => ∃ k : Nat, k ≤ 8 ∧ sh = .int .i64 (56 - 8 * (k : Int)) ∧ Owns wr w.heap.size 5 v ((padHead n ++ lenBytes n k).map byteV) ∧ Below w.heap.size w wr) (fun _ sh _ => (intOf sh + 8).toNat)
  case atStart => exact ⟨0, by omega, rfl, pad_start n w w1 H1.out, hb1.setCell (Nat.le_refl _) _⟩
  case round =>
    clear hmk c0 f0 hb1
    obtain ⟨k, hk, rfl, hown, hb⟩ := hrel
    have HO := Lib.hid hown
    clear hown
    have hbz := hb.size
    by_cases hlt : k < 8
    · have hd : decide (8 * (k : Int) ≤ 56) = true := by simp; omega
      have hp : (0 : Int) ≤ 56 - 8 * (k : Int) := by omega
      obtain ⟨b, hbd⟩ : ∃ b : UInt8, b = UInt8.ofNat (8 * n / 2 ^ (56 - 8 * k)) := ⟨_, rfl⟩
      have hby : 8 * (n : Int) / 2 ^ (56 - 8 * k) % 256 = (b.toNat : Int) := by rw [hbd]; simp
      have HB := Lib.hid hbd
      clear hbd
      have hll := length_lenBytes n k
      have hlh := length_padHead n
      go_wp2_with (first
        | (at_builtin; refine wp_append_news (HO.out.alloc _) w.heap.size (hb.alloc hbz _) (Nat.le_refl _) [byteV b] (.tmp 25) (.tmp 31) 79 i (.int .u8 0) rfl rfl Tryd.underlying79 hi hz8 hs8 ?by_ rfl rfl rfl ?news ?one ?len ?base ?_)
        | fail)
      case by_ => omega
      case news => intro j u hu; exact cell_news_one _ _ _ j u hu
      case one => intro u hu; simp at hu; subst hu; rfl
      case len => simp; omega
      case base => simp; omega
      intro v' w2 hown' hb2 hz2 _ _
      go_wp2
      go_roundw
      case rel =>
        refine ⟨k + 1, by omega, by go_num, ?_, hb2⟩
        simp only [lenBytes, List.map_append, List.map_cons, List.map_nil, ← HB.out]
        exact hown'
      case measure => simp [intOf]; omega
    · have e8 : k = 8 := by omega
      subst e8
      have hcv := HO.out.string (P := Tryd.prog) (src := 79) (dst := 9) Tryd.underlying79 Tryd.underlying5 Tryd.underlying9
      go_wp2
      go_ret
      exact ⟨by rw [padding_eq]; rfl, hb⟩
end Go.Proofs.YtblfekecmahagaaDoor

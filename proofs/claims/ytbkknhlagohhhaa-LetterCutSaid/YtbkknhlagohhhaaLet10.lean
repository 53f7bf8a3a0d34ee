/-
  letter.encoded; oid.Bytes.
-/
import Derived.Test.YtbkknhlagohhhaaLet6
namespace Go.Proofs.Ytbkknhlagohhhaa
open Go.RowKit Crv

theorem ZsR.ints {w : World} {v : Value} {xs : List Int} (h : ZsR w v xs) : Ints w v xs := by
  rcases h with ⟨rfl, rfl⟩ | ⟨ad, cap, rfl, _, hcell⟩
  · exact ⟨none, 0, rfl, fun i hi => by simp at hi⟩
  · refine ⟨some ad, cap, by rw [List.length_map], fun i hi => ?_⟩
    have hc := hcell i _ (List.getElem?_eq_getElem hi)
    have hs := World.cell?_spot (hcell 0 _ (List.getElem?_eq_getElem (Nat.lt_of_le_of_lt (Nat.zero_le i) hi)))
    obtain ⟨b, off, spot⟩ := ad
    have hspot : spot = none := by simpa [Addr.add] using hs
    subst hspot
    refine ⟨b, off, rfl, ?_⟩
    rw [List.getElem?_eq_getElem hi, ← hc]
    congr 1
    unfold Addr.add
    split <;> simp_all
/-- A list of addresses as bytes: its length, its elements. -/
def encL (ks : List Int) : List UInt8 := numsL [(ks.length : Int)] ++ numsL ks
theorem length_numsL (ks : List Int) (h : ∀ k ∈ ks, k < 9223372036854775808) : (numsL ks).length ≤ 9 * ks.length := length_nums ks h
set_option maxHeartbeats 1000000 in
set_option maxRecDepth 100000 in
theorem encoded_any (v : Value) (ks : List Int) (W : World) (hv : ZsR W v ks) (hl : ks.length ≤ 100) (hk : ∀ k ∈ ks, -9223372036854775808 ≤ k ∧ k < 9223372036854775808) :
    Calls Try.prog 52 #[v] W fun e w' => e = .returned (tx (encL ks)) ∧ Below W.heap.size W w' := by
  have h1 := nums_any _ _ [(ks.length : Int)] (ints_new W [(ks.length : Int)]) (by simp) (by
    intro k hk
    simp only [List.mem_singleton] at hk
    subst hk
    omega)
  simp only [List.map_cons, List.map_nil, List.length_cons, List.length_nil, Nat.zero_add] at h1
  obtain ⟨A, hA⟩ : ∃ A, A = numsL [(ks.length : Int)] := ⟨_, rfl⟩
  rw [show ([(ks.length : Int)].flatMap fun k => numOf (nat0 k)) = A from hA.symm] at h1
  have hAl : A.length ≤ 9 := by
    rw [hA]
    exact length_numsL [(ks.length : Int)] (fun k hk => by simp only [List.mem_singleton] at hk; subst hk; omega)
  have h2 := fun X (hX : ZsR X v ks) => nums_any X v ks hX.ints (by omega) hk
  obtain ⟨B, hB⟩ : ∃ B, B = numsL ks := ⟨_, rfl⟩
  rw [show (ks.flatMap fun k => numOf (nat0 k)) = B from hB.symm] at h2
  have hBl : B.length ≤ 900 := by
    rw [hB]
    have := length_numsL ks (fun k h => (hk k h).2)
    omega
  have hE : encL ks = A ++ B := by rw [hA, hB]; rfl
  rw [hE]
  have H1 := Lib.hid h1
  have H2 := Lib.hid h2
  have HV := Lib.hid hv
  have HB0 := Lib.hid (belowSelf W (.cells #[.int .i64 (ks.length : Int)] Tii))
  obtain ⟨a, cap, rfl, _⟩ := hv.form
  clear hv h1 h2 hA hB hE hk
  go_enter Try.func52, Try.ntmps52
  go_wp2_with fail
  refine H1.out.mono ?_
  rintro e w1 ⟨rfl, hb1⟩
  have hB1 := HB0.out.trans (hb1.mono HB0.out.size)
  have HB1 := Lib.hid hB1
  have HC := Lib.hid (H2.out w1 (HV.out.below hB1))
  clear hb1 hB1
  go_wp2_with fail
  refine HC.out.mono ?_
  rintro e w2 ⟨rfl, hb2⟩
  have HB2 := Lib.hid (HB1.out.trans (hb2.mono HB1.out.size))
  clear hb2
  go_wp2_with fail
  go_ret
  exact ⟨rfl, HB2.out⟩
theorem bytes_strL {P : Program} {w : World} {g n : Nat} {t src dst e : TypeId} {l : List UInt8} (h : Mem w g t (l.map byteV)) (hs : P.underlying src = some (.slice e)) (he : P.underlying e = some (.int .u8)) (hd : P.underlying dst = some .string) (hn : l.length = n) :
    (convert src dst (.slice (some ⟨g, 0, none⟩) n n)).run P w = .ok (.string (str l)) w := by
  subst hn
  have hnums : strOfNums (l.map fun b => (b.toNat : Int)) = str l := by
    simp only [strOfNums, List.map_map, str]
    congr 2
    have : ((fun n : Int => UInt8.ofNat n.toNat) ∘ fun b : UInt8 => (b.toNat : Int)) = id := by
      funext b; simp
    rw [this, List.map_id]
  have := run_convert_bytes_arg w src e hs he g 0 l.length l.length (l.map fun b => (b.toNat : Int)) (by simp) (fun i hi => by
    rw [Nat.zero_add, h.cell, List.getElem?_map, List.getElem?_eq_getElem hi, List.getD_eq_getElem?_getD, List.getElem?_map, List.getElem?_eq_getElem hi]
    rfl) dst hd
  rw [this, hnums]
set_option maxRecDepth 100000 in
theorem idBytes_any (x : List UInt8) (w : World) (hx : x.length = 32) :
    Calls Try.prog 40 #[.agg (x.map byteV).toArray] w fun e w' => e = .returned (.string (str x)) ∧ Below w.heap.size w w' := by
  have hcv := bytes_strL (P := Try.prog) (src := 122) (dst := 9) (Mem.newAt w 23 (x.map byteV) rfl) Try.underlying122 Try.underlying5 Try.underlying9 hx
  have HX := Lib.hid hx
  clear hx
  go_enter Try.func40, Try.ntmps40
  go_wp2
  go_ret
  exact ⟨rfl, (Below.refl _ _).alloc (Nat.le_refl _) _⟩
end Go.Proofs.Ytbkknhlagohhhaa

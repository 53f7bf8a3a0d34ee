/-
  Merkle trees: the mathematics of groups of eight, of levels, of Depth.
-/
import Derived.Test.YtjdhcanblpifcaaDoorBalB
import Derived.Test.YtjdhcanblpifcaaDoorOidM
namespace Go.Proofs.YtjdhcanblpifcaaDoor
open Go.RowKit Crv

/-- An object: its kind, its name, its bytes. -/
abbrev Ob := Nat × List UInt8 × List UInt8
def oidOf (k : Nat) (t : List UInt8) : List UInt8 := sha ([99, 114, 118] ++ headOf k t.length ++ t)
theorem length_sha (m : List UInt8) : (sha m).length = 32 := length_bytes _
theorem length_oidOf (k : Nat) (t : List UInt8) : (oidOf k t).length = 32 := length_sha _
def mkOb (k : Nat) (t : List UInt8) : Ob := (k, oidOf k t, t)
/-- Groups of eight. -/
def grp {α : Type} (l : List α) : List (List α) := if _h : l = [] then [] else l.take 8 :: grp (l.drop 8)
termination_by l.length
decreasing_by
  have := List.length_pos_iff.2 _h
  rw [List.length_drop]
  omega
theorem grp_nil {α : Type} : grp ([] : List α) = [] := by rw [grp]; simp
theorem grp_cons {α : Type} {l : List α} (h : l ≠ []) : grp l = l.take 8 :: grp (l.drop 8) := by rw [grp, dif_neg h]
theorem length_grp {α : Type} : ∀ (n : Nat) (l : List α), l.length ≤ n → (grp l).length = (l.length + 7) / 8
  | 0, l, h => by
    have : l = [] := List.length_eq_zero_iff.1 (by omega)
    subst this
    simp [grp_nil]
  | n + 1, l, h => by
    by_cases hl : l = []
    · subst hl; simp [grp_nil]
    · have h1 := List.length_pos_iff.2 hl
      have h2 := length_grp n (l.drop 8) (by rw [List.length_drop]; omega)
      rw [grp_cons hl, List.length_cons, h2, List.length_drop]
      omega
theorem grp_len {α : Type} (l : List α) : (grp l).length = (l.length + 7) / 8 := length_grp l.length l (Nat.le_refl _)
theorem grp_mem {α : Type} : ∀ (n : Nat) (l : List α), l.length ≤ n → ∀ g ∈ grp l, g ≠ [] ∧ g.length ≤ 8 ∧ ∀ x ∈ g, x ∈ l
  | 0, l, h => by
    have : l = [] := List.length_eq_zero_iff.1 (by omega)
    subst this
    simp [grp_nil]
  | n + 1, l, h => by
    by_cases hl : l = []
    · subst hl; simp [grp_nil]
    · have h1 := List.length_pos_iff.2 hl
      intro g hg
      rw [grp_cons hl] at hg
      rcases List.mem_cons.1 hg with rfl | hg
      · refine ⟨?_, by rw [List.length_take]; omega, fun x hx => List.mem_of_mem_take hx⟩
        intro e
        have := congrArg List.length e
        rw [List.length_take] at this
        simp at this
        exact hl this
      · obtain ⟨a, b, c⟩ := grp_mem n (l.drop 8) (by rw [List.length_drop]; omega) g hg
        exact ⟨a, b, fun x hx => List.mem_of_mem_drop (c x hx)⟩
/-- The parts of the next level, its objects. -/
def nodePt (lv : Nat) (g : List Pt) : Pt := (oidOf 2 (txtN lv g), sumP g)
def upP (lv : Nat) (ps : List Pt) : List Pt := (grp ps).map (nodePt lv)
def upO (lv : Nat) (ps : List Pt) : List Ob := (grp ps).map fun g => mkOb 2 (txtN lv g)
/-- Behind k levels: the parts, the objects of the nodes. -/
def bP (ps : List Pt) : Nat → List Pt
  | 0 => ps
  | k + 1 => upP (k + 1) (bP ps k)
def bO (ps : List Pt) : Nat → List Ob
  | 0 => []
  | k + 1 => bO ps k ++ upO (k + 1) (bP ps k)
def chunkPts (cs : List (List UInt8)) : List Pt := cs.map fun c => (oidOf 1 c, (c.length : Int))
def chunkObs (cs : List (List UInt8)) : List Ob := cs.map (mkOb 1)
/-- The level of the root. -/
def depthOf (n : Nat) : Nat := if h : 8 < n then 1 + depthOf ((n - 1) / 8 + 1) else 1
termination_by n
decreasing_by omega
theorem depthOf_small {n : Nat} (h : n ≤ 8) : depthOf n = 1 := by rw [depthOf, dif_neg (by omega)]
theorem depthOf_big {n : Nat} (h : 8 < n) : depthOf n = 1 + depthOf ((n - 1) / 8 + 1) := by rw [depthOf, dif_pos h]
theorem depthOf_pos (n : Nat) : 1 ≤ depthOf n := by
  by_cases h : 8 < n
  · rw [depthOf_big h]; omega
  · rw [depthOf_small (by omega)]; omega
theorem depthOf_le : ∀ (k n : Nat), n ≤ 8 ^ (k + 1) → depthOf n ≤ k + 1
  | 0, n, h => by rw [depthOf_small (by simpa using h)]; omega
  | k + 1, n, h => by
    by_cases h8 : 8 < n
    · rw [depthOf_big h8]
      have hp : 8 ^ (k + 1 + 1) = 8 * 8 ^ (k + 1) := by rw [Nat.pow_succ, Nat.mul_comm]
      have := depthOf_le k ((n - 1) / 8 + 1) (by omega)
      omega
    · rw [depthOf_small (by omega)]; omega
/-- How many parts are left behind k levels. -/
def lenAt (n : Nat) : Nat → Nat
  | 0 => n
  | k + 1 => (lenAt n k + 7) / 8
theorem lenAt_front (n : Nat) : ∀ k, lenAt n (k + 1) = lenAt ((n + 7) / 8) k
  | 0 => rfl
  | k + 1 => by rw [lenAt, lenAt_front n k]; rfl
theorem lenAt_depth : ∀ (m n : Nat), n ≤ m → 1 ≤ n → lenAt n (depthOf n) = 1
  | 0, n, h, h1 => by omega
  | m + 1, n, h, h1 => by
    by_cases h8 : 8 < n
    · have e : (n - 1) / 8 + 1 = (n + 7) / 8 := by omega
      rw [depthOf_big h8, Nat.add_comm, lenAt_front, e]
      exact lenAt_depth m _ (by omega) (by omega)
    · rw [depthOf_small (by omega)]
      show (n + 7) / 8 = 1
      omega
theorem lenAt_more : ∀ (m n j : Nat), n ≤ m → 1 ≤ j → j < depthOf n → 1 < lenAt n j
  | 0, n, j, h, h1, h2 => by
    rw [depthOf_small (by omega)] at h2
    omega
  | m + 1, n, j, h, h1, h2 => by
    by_cases h8 : 8 < n
    · have e : (n - 1) / 8 + 1 = (n + 7) / 8 := by omega
      rw [depthOf_big h8, e] at h2
      obtain ⟨i, rfl⟩ : ∃ i, j = i + 1 := ⟨j - 1, by omega⟩
      rw [lenAt_front]
      by_cases hi : i = 0
      · subst hi
        show 1 < (n + 7) / 8
        omega
      · exact lenAt_more m _ i (by omega) (by omega) (by omega)
    · rw [depthOf_small (by omega)] at h2
      omega
theorem length_bP (ps : List Pt) : ∀ k, (bP ps k).length = lenAt ps.length k
  | 0 => rfl
  | k + 1 => by
    have := length_bP ps k
    simp only [bP, upP, List.length_map, grp_len, this, lenAt]
theorem bP_names {ps : List Pt} (h : ∀ p ∈ ps, p.1.length = 32) : ∀ k, ∀ p ∈ bP ps k, p.1.length = 32
  | 0 => h
  | k + 1 => by
    intro p hp
    obtain ⟨g, _, rfl⟩ := List.mem_map.1 hp
    exact length_oidOf _ _
theorem chunkPts_names (cs : List (List UInt8)) : ∀ p ∈ chunkPts cs, p.1.length = 32 := by
  intro p hp
  obtain ⟨c, _, rfl⟩ := List.mem_map.1 hp
  exact length_oidOf _ _
/-! ### Sizes -/
theorem sumP_nil : sumP [] = 0 := rfl
theorem sumP_cons (p : Pt) (r : List Pt) : sumP (p :: r) = p.2 + sumP r := by simp [sumP]
theorem sumP_append (a b : List Pt) : sumP (a ++ b) = sumP a + sumP b := by simp [sumP]
theorem sumP_grp : ∀ (n : Nat) (l : List Pt), l.length ≤ n → sumP (l) = ((grp l).map sumP).sum
  | 0, l, h => by
    have : l = [] := List.length_eq_zero_iff.1 (by omega)
    subst this
    simp [grp_nil, sumP]
  | n + 1, l, h => by
    by_cases hl : l = []
    · subst hl; simp [grp_nil, sumP]
    · have h1 := List.length_pos_iff.2 hl
      have h2 := sumP_grp n (l.drop 8) (by rw [List.length_drop]; omega)
      rw [grp_cons hl, List.map_cons, List.sum_cons, ← h2, ← sumP_append, List.take_append_drop]
theorem sumP_up (lv : Nat) (ps : List Pt) : sumP (upP lv ps) = sumP ps := by
  rw [sumP_grp ps.length ps (Nat.le_refl _)]
  unfold upP sumP
  rw [List.map_map]
  rfl
theorem sumP_bP (ps : List Pt) : ∀ k, sumP (bP ps k) = sumP ps
  | 0 => rfl
  | k + 1 => by rw [bP, sumP_up, sumP_bP ps k]
theorem sumP_ge {m : Int} : ∀ {l : List Pt}, (∀ p ∈ l, 1 ≤ p.2 ∧ p.2 ≤ m) → (l.length : Int) ≤ sumP l ∧ sumP l ≤ m * l.length
  | [], _ => by simp [sumP]
  | p :: r, h => by
    have h1 := h p (by simp)
    have h2 := sumP_ge (m := m) (l := r) (fun q hq => h q (by simp [hq]))
    rw [sumP_cons, List.length_cons]
    have : m * ((r.length + 1 : Nat) : Int) = m * r.length + m := by rw [Int.natCast_add, Int.mul_add]; simp
    omega
theorem sumP_mem {l : List Pt} (h : ∀ p ∈ l, 1 ≤ p.2) : ∀ p ∈ l, p.2 ≤ sumP l := by
  induction l with
  | nil => simp
  | cons q r ih =>
    intro p hp
    have h1 := (sumP_ge (m := sumP r + (r.map (·.2.natAbs)).sum + 1) (l := r))
    have hr : 0 ≤ sumP r := by
      clear ih hp h1
      induction r with
      | nil => simp [sumP]
      | cons a b ih2 =>
        have ha := h a (by simp)
        rw [sumP_cons]
        have := ih2 (fun x hx => h x (by rcases List.mem_cons.1 hx with rfl | hx <;> simp [*]))
        omega
    rw [sumP_cons]
    rcases List.mem_cons.1 hp with rfl | hp
    · omega
    · have := ih (fun x hx => h x (by simp [hx])) p hp
      have := h q (by simp)
      omega
/-- Each part of a level has so many bytes. -/
theorem bP_sizes {ps : List Pt} (h : ∀ p ∈ ps, 1 ≤ p.2 ∧ p.2 ≤ 256) : ∀ k, ∀ p ∈ bP ps k, 1 ≤ p.2 ∧ p.2 ≤ ((256 * 8 ^ k : Nat) : Int)
  | 0 => by simpa [bP] using h
  | k + 1 => by
    intro p hp
    obtain ⟨g, hg, rfl⟩ := List.mem_map.1 hp
    obtain ⟨g1, g2, g3⟩ := grp_mem _ (bP ps k) (Nat.le_refl _) g hg
    have ih := bP_sizes h k
    have hs := sumP_ge (m := ((256 * 8 ^ k : Nat) : Int)) (l := g) (fun q hq => ih q (g3 q hq))
    have hl := List.length_pos_iff.2 g1
    simp only [nodePt]
    have e : ((256 * 8 ^ (k + 1) : Nat) : Int) = ((256 * 8 ^ k : Nat) : Int) * 8 := by rw [Nat.pow_succ, ← Nat.mul_assoc]; simp
    have hle : ((256 * 8 ^ k : Nat) : Int) * (g.length : Int) ≤ ((256 * 8 ^ k : Nat) : Int) * 8 := Int.mul_le_mul_of_nonneg_left (by omega) (by omega)
    omega
/-- Each node over chunks may be. -/
theorem node_chk {ps : List Pt} (h : ∀ p ∈ ps, 1 ≤ p.2 ∧ p.2 ≤ 256) (hs : sumP ps ≤ 32768) (k : Nat) (hk : k < 8) (g : List Pt) (hg : g ∈ grp (bP ps k)) : chkN ((k + 1 : Nat) : Int) g = 0 := by
  obtain ⟨g1, g2, g3⟩ := grp_mem _ (bP ps k) (Nat.le_refl _) g hg
  have ih := bP_sizes h k
  have hall : ∀ p ∈ bP ps k, p.2 ≤ 32768 := fun p hp => by
    have h1 := sumP_mem (fun q hq => (ih q hq).1) p hp
    rw [sumP_bP] at h1
    omega
  have hsum : sumP g ≤ 32768 := by
    have h2 : sumP g ∈ (grp (bP ps k)).map sumP := List.mem_map.2 ⟨g, hg, rfl⟩
    have h3 := sumP_mem (l := bP ps (k + 1)) (fun q hq => (bP_sizes h (k + 1) q hq).1) (nodePt (k + 1) g) (List.mem_map.2 ⟨g, hg, rfl⟩)
    rw [sumP_bP] at h3
    simp only [nodePt] at h3
    omega
  have hb : badPart (mostOf ((k + 1 : Nat) : Int).toNat) g = 0 := badPart_of fun p hp => by
    have h1 := ih p (g3 p hp)
    have h2 := hall p (g3 p hp)
    refine ⟨h1.1, ?_⟩
    rw [Int.toNat_natCast]
    unfold mostOf
    rw [Nat.add_sub_cancel]
    omega
  unfold chkN
  rw [if_neg (fun hc => hc.elim (fun h => by omega) (fun hc => hc.elim (fun h => by omega) g1)), if_neg (by omega), if_neg (by rw [hb]; simp), if_neg (by omega)]
end Go.Proofs.YtjdhcanblpifcaaDoor

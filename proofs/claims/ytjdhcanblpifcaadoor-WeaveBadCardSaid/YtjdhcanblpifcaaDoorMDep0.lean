/-
  Merkle trees: the root's node (its parts, its bytes, its place among the objects), and MerkleDepth's counts.
-/
import Derived.Test.YtjdhcanblpifcaaDoorMer9
namespace Go.Proofs.YtjdhcanblpifcaaDoor
open Go.RowKit Crv

theorem chkC_zero {cs : List (List UInt8)} (h : chkC cs = 0) : cs ≠ [] ∧ (∀ c ∈ cs, okC c) ∧ sumC cs ≤ 32768 := by
  unfold chkC at h
  split at h
  · exact absurd h (by decide)
  · rename_i h1
    split at h
    · exact absurd h (by decide)
    · rename_i h2
      split at h
      · exact absurd h (by decide)
      · exact ⟨h1, Decidable.not_not.1 h2, by omega⟩
theorem chunkPts_sizes {cs : List (List UInt8)} (h : ∀ c ∈ cs, okC c) : ∀ p ∈ chunkPts cs, 1 ≤ p.2 ∧ p.2 ≤ 256 := fun p hp => by
  obtain ⟨c, hc, rfl⟩ := List.mem_map.1 hp
  have := h c hc
  exact ⟨by have := this.1; simp; omega, by have := this.2; simp; omega⟩
theorem sumP_chunks : ∀ cs : List (List UInt8), sumP (chunkPts cs) = (sumC cs : Int)
  | [] => rfl
  | c :: r => by
    have := sumP_chunks r
    unfold chunkPts at this ⊢
    rw [List.map_cons, sumP_cons, this]
    unfold sumC
    rw [List.map_cons, List.sum_cons]
    push_cast
    rfl
theorem length_chunkPts (cs : List (List UInt8)) : (chunkPts cs).length = cs.length := by unfold chunkPts; rw [List.length_map]
theorem grp_single {α : Type} {l : List α} (h : (grp l).length = 1) : grp l = [l] := by
  rw [grp_len] at h
  have hne : l ≠ [] := fun e => by rw [e] at h; simp at h
  have hd : l.drop 8 = [] := List.drop_eq_nil_of_le (by omega)
  rw [grp_cons hne, hd, grp_nil, List.take_of_length_le (by omega)]
/-- The root: its parts, its bytes. -/
def topPts (cs : List (List UInt8)) : List Pt := bP (chunkPts cs) (depthOf cs.length - 1)
def topTxt (cs : List (List UInt8)) : List UInt8 := txtN ((depthOf cs.length : Nat) : Int) (topPts cs)
theorem root_is {cs : List (List UInt8)} (h : chkC cs = 0) (hn : cs.length ≤ 1000) :
    rootPt cs = (oidOf 2 (topTxt cs), (sumC cs : Int)) ∧ allObs cs = (chunkObs cs ++ bO (chunkPts cs) (depthOf cs.length - 1)) ++ [mkOb 2 (topTxt cs)] ∧ parseN (topTxt cs) = (((depthOf cs.length : Nat) : Int), topPts cs, 0) := by
  obtain ⟨h1, h2, h3⟩ := chkC_zero h
  have hpos := List.length_pos_iff.2 h1
  have hd := depthOf_pos cs.length
  have hd4 : depthOf cs.length ≤ 4 := depthOf_le 3 cs.length (by omega)
  obtain ⟨k, hk⟩ : ∃ k, depthOf cs.length = k + 1 := ⟨_, (Nat.succ_pred_eq_of_pos hd).symm⟩
  have hlen : (bP (chunkPts cs) (k + 1)).length = 1 := by rw [length_bP, length_chunkPts, ← hk]; exact lenAt_depth _ _ (Nat.le_refl _) hpos
  have hg : grp (bP (chunkPts cs) k) = [bP (chunkPts cs) k] := grp_single (by
    have : (bP (chunkPts cs) (k + 1)).length = (grp (bP (chunkPts cs) k)).length := by simp [bP, upP]
    rw [← this]; exact hlen)
  have hc : chkN ((k + 1 : Nat) : Int) (bP (chunkPts cs) k) = 0 := node_chk (chunkPts_sizes h2) (by rw [sumP_chunks]; omega) k (by omega) _ (by rw [hg]; simp)
  have hp := parse_txt ((k + 1 : Nat) : Int) (bP (chunkPts cs) k) hc (bP_names (chunkPts_names cs) k)
  unfold rootPt allObs topTxt topPts
  rw [hk, Nat.add_sub_cancel]
  refine ⟨?_, ?_, hp⟩
  · rw [bP, upP, hg]
    show nodePt (k + 1) (bP (chunkPts cs) k) = _
    unfold nodePt
    rw [sumP_bP, sumP_chunks]
  · rw [bO, upO, hg, List.append_assoc]
    rfl
/-! ### How many nodes -/
def nodesTo (n : Nat) : Nat → Nat
  | 0 => 0
  | k + 1 => nodesTo n k + lenAt n (k + 1)
theorem length_bO (ps : List Pt) : ∀ k, (bO ps k).length = nodesTo ps.length k
  | 0 => rfl
  | k + 1 => by
    have h3 : (upO (k + 1) (bP ps k)).length = (bP ps (k + 1)).length := by simp [upO, bP, upP]
    rw [bO, List.length_append, length_bO ps k, h3, length_bP, nodesTo]
theorem length_allObs (cs : List (List UInt8)) : (allObs cs).length = cs.length + nodesTo cs.length (depthOf cs.length) := by
  unfold allObs chunkObs
  rw [List.length_append, length_bO, length_chunkPts, List.length_map]
theorem nodesTo_le (n : Nat) (hn : n ≤ 1000) : ∀ k, nodesTo n k ≤ 1000 * k ∧ lenAt n k ≤ 1000
  | 0 => ⟨by simp [nodesTo], hn⟩
  | k + 1 => by
    obtain ⟨h1, h2⟩ := nodesTo_le n hn k
    have : lenAt n (k + 1) ≤ 1000 := by show (lenAt n k + 7) / 8 ≤ 1000; omega
    exact ⟨by rw [nodesTo]; omega, this⟩
/-- Where a level has one part, it is the last. -/
theorem depth_of_one {n k : Nat} (hk : 1 ≤ k) (hle : k ≤ depthOf n) (h : lenAt n k = 1) : k = depthOf n := by
  by_cases hlt : k < depthOf n
  · have := lenAt_more n n k (Nat.le_refl _) hk hlt
    omega
  · omega
theorem depth_more {n k : Nat} (hn : 1 ≤ n) (hk : k ≤ depthOf n) (h : lenAt n k ≠ 1) : k + 1 ≤ depthOf n := by
  by_cases e : k = depthOf n
  · subst e
    exact absurd (lenAt_depth _ _ (Nat.le_refl _) hn) h
  · omega
theorem lenAt_ne {n : Nat} (hn : 2 ≤ n) : ∀ k, 1 ≤ k → lenAt n k ≠ n
  | 0, h => by omega
  | k + 1, _ => by
    have h1 := lenAt_pos (n := n) (by omega) k
    have h2 : lenAt n k ≤ n := by
      clear h1
      induction k with
      | zero => exact Nat.le_refl _
      | succ k ih => show (lenAt n k + 7) / 8 ≤ n; omega
    show (lenAt n k + 7) / 8 ≠ n
    omega
/-! ### The chunks of MerkleDepth -/
def twoB (i : Nat) : List UInt8 := [UInt8.ofNat i, UInt8.ofNat (i / 7)]
def twos (n : Nat) : List (List UInt8) := (List.range n).map twoB
theorem length_twos (n : Nat) : (twos n).length = n := by simp [twos]
theorem twos_succ (n : Nat) : twos (n + 1) = twos n ++ [twoB n] := by simp [twos, List.range_succ]
theorem sumC_twos : ∀ n, sumC (twos n) = 2 * n
  | 0 => rfl
  | n + 1 => by
    have := sumC_twos n
    rw [twos_succ]
    unfold sumC at this ⊢
    rw [List.map_append, List.sum_append, this]
    simp [twoB]
    omega
theorem chk_twos {n : Nat} (h1 : 1 ≤ n) (h2 : n ≤ 200) : chkC (twos n) = 0 := by
  unfold chkC
  rw [if_neg (fun e => by have := congrArg List.length e; rw [length_twos] at this; simp at this; omega), if_neg, if_neg (by rw [sumC_twos]; omega)]
  refine Decidable.not_not.2 fun c hc => ?_
  obtain ⟨i, _, rfl⟩ := List.mem_map.1 hc
  exact ⟨by simp [twoB], by simp [twoB]⟩
end Go.Proofs.YtjdhcanblpifcaaDoor

/-
  What layer 9's first look sees: one chunk, its node.
-/
import Derived.Test.YtjdhcanblpifcaaDoorMer10
namespace Go.Proofs.YtjdhcanblpifcaaDoor
open Go.RowKit Crv

abbrev ab : List UInt8 := [97, 98]
theorem grp_one (p : Pt) : grp [p] = [[p]] := by
  rw [grp_cons (by simp)]
  simp [grp_nil]
theorem chk_ab : chkC [ab] = 0 := by decide
/-- The node over one chunk. -/
def nodeAb : List UInt8 := txtN 1 [(oidOf 1 ab, 2)]
theorem all_ab : allObs [ab] = [mkOb 1 ab, mkOb 2 nodeAb] := by
  have hd : depthOf ([ab] : List (List UInt8)).length = 1 := depthOf_small (by decide)
  unfold allObs
  rw [hd]
  show [mkOb 1 ab] ++ ([] ++ upO 1 (chunkPts [ab])) = _
  have e : chunkPts [ab] = [(oidOf 1 ab, 2)] := rfl
  rw [e]
  unfold upO
  rw [grp_one]
  rfl
theorem root_ab : rootPt [ab] = (oidOf 2 nodeAb, 2) := by
  have hd : depthOf ([ab] : List (List UInt8)).length = 1 := depthOf_small (by decide)
  unfold rootPt
  rw [hd]
  show (upP 1 (chunkPts [ab])).getD 0 ([], 0) = _
  have e : chunkPts [ab] = [(oidOf 1 ab, 2)] := rfl
  rw [e]
  unfold upP
  rw [grp_one]
  rfl
theorem parse_ab : parseN nodeAb = (1, [(oidOf 1 ab, 2)], 0) := by
  refine parse_txt 1 [(oidOf 1 ab, 2)] ?_ (by intro p hp; simp only [List.mem_singleton] at hp; subst hp; exact length_oidOf _ _)
  unfold chkN badPart badPart sumP mostOf
  simp
theorem depth_nine : depthOf 9 = 2 := by
  rw [depthOf_big (by omega), depthOf_small (by omega)]
end Go.Proofs.YtjdhcanblpifcaaDoor

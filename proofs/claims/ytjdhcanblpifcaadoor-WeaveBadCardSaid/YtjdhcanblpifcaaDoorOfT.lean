/-
  The name of one text; how long a node's bytes are.
-/
import Derived.Test.YtjdhcanblpifcaaDoorMer9
namespace Go.Proofs.YtjdhcanblpifcaaDoor
open Go.RowKit Crv

theorem ofTxt (k : Nat) (hk : k < 256) (x : List UInt8) (hx : x.length ≤ 1000000) (W : World) (hc : Consts (W.alloc (.cells #[tx x] 9))) : Calls Tryd.prog 18 #[.int .i64 (k : Int), .slice (some ⟨W.heap.size, 0, none⟩) 1 1] (W.alloc (.cells #[tx x] 9)) fun e w' => e = .returned (.agg ((oidOf k x).map byteV).toArray) ∧ Below (W.alloc (.cells #[tx x] 9)).heap.size (W.alloc (.cells #[tx x] 9)) w' := by
  have h := ofOid_any k hk (.slice (some ⟨W.heap.size, 0, none⟩) 1 1) [x] (W.alloc (.cells #[tx x] 9)) hc (StrSlice.new (w := W) (t := 9) [x] 1) (by simp) (by simpa using hx)
  rw [show [x].flatten = x from by simp] at h
  exact h
theorem length_txtN (lv : Nat) (g : List Pt) (hlv : lv ≤ 100) (hg : g.length ≤ 8) (h : ∀ p ∈ g, p.1.length = 32 ∧ p.2 < 9223372036854775808) : (txtN (lv : Int) g).length ≤ 1000 := by
  unfold txtN
  have h1 := length_numOf (n := nat0 (lv : Int)) (by unfold nat0; omega)
  have h2 := length_numOf (n := g.length) (by omega)
  have h3 := length_flatTxt g h
  rw [List.length_append, List.length_append]
  omega
end Go.Proofs.YtjdhcanblpifcaaDoor

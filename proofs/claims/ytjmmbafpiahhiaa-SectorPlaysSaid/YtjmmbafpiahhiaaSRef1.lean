/-
  The document's disk: fill, in, call.
-/
import Derived.Test.YtjmmbafpiahhiaaSec7
namespace Go.Proofs.Ytjmmbafpiahhiaa
open Go.RowKit Go.Maps Crv
abbrev TRd : TypeId := 29
abbrev TS : TypeId := 9
abbrev TBo : TypeId := 4
theorem sres2 {P : Program} {fn : Func} {p u : Tmp} {ty : TypeId} {w : World} {g : Nat} {t : TypeId} {cs : List Value} (hm : Mem w g t cs) (h : fn.results = #[.cell p ty, .tmp u]) (tmps : Array Value) (d : TypeDesc)
    (hp : tmps.getD p undef = .pointer (some ⟨g, 0, none⟩)) (hu : P.underlying ty = some d) (hd : (match d with | .struct _ | .array _ _ => true | _ => false) = true) (hi : (P.info? ty).map (·.size) = some cs.length) :
    (results fn tmps).run P w = .ok (.tuple #[.agg cs.toArray, tmps.getD u undef]) w := by
  rw [results_cell_tmp h tmps P w, hp]
  simp [asAddr, run_loadVar_row w g t ty cs.toArray (0, 0) d hm hu hd (by simpa using hi)]
theorem szRd : (Try.prog.info? TRd).map (·.size) = some 4 := by kernel_rfl
/-- The cells of the document's disk. -/
abbrev rdC (a1 a2 a3 : Option Addr) (c1 c2 c3 sz : Nat) (f : Int) : List Value := [.slice a1 sz c1, .slice a2 sz c2, .slice a3 sz c3, .int .i64 f]
theorem sresCell2 {fn : Func} {p u u' : Tmp} {ty : TypeId} (h : fn.results = #[.cell p ty, .tmp u, .tmp u']) (tmps : Array Value) (P : Program) (w : World) :
    (results fn tmps).run P w = ((asAddr (tmps.getD p undef)).run P w).andThen fun a w₁ => ((loadVar ty a).run P w₁).andThen fun v w₂ => .ok (.tuple #[v, tmps.getD u undef, tmps.getD u' undef]) w₂ := by
  simp only [results, h]
  simp [Sem.run_bind, Result.andThen]
/-- A result that is a struct in memory, and two in slots. -/
theorem sres3 {P : Program} {fn : Func} {p u u' : Tmp} {ty : TypeId} {w : World} {g : Nat} {t : TypeId} {cs : List Value} (hm : Mem w g t cs) (h : fn.results = #[.cell p ty, .tmp u, .tmp u']) (tmps : Array Value) (d : TypeDesc)
    (hp : tmps.getD p undef = .pointer (some ⟨g, 0, none⟩)) (hu : P.underlying ty = some d) (hd : (match d with | .struct _ | .array _ _ => true | _ => false) = true) (hi : (P.info? ty).map (·.size) = some cs.length) :
    (results fn tmps).run P w = .ok (.tuple #[.agg cs.toArray, tmps.getD u undef, tmps.getD u' undef]) w := by
  rw [sresCell2 h tmps P w, hp]
  simp [asAddr, run_loadVar_row w g t ty cs.toArray (0, 0) d hm hu hd (by simpa using hi)]
set_option maxRecDepth 100000 in
set_option maxHeartbeats 400000 in
theorem rfill_any (l : List UInt8) (hl : l.length ≤ 64) (w : World) :
    Calls Try.prog 27 #[.string (str l)] w fun e w' => e = .returned (.string (str (l ++ List.replicate (64 - l.length) 0))) ∧ w = w' := by
  go_enter Try.func27, Try.ntmps27
  go_wp2_with fail
  go_loopw [0, 3] (fun s i wr => ∃ j : Nat, j + l.length ≤ 64 ∧ i = .int .i64 j ∧ s = .string (str (l ++ List.replicate j 0)) ∧ w = wr) (fun _ i _ => 64 - (intOf i).toNat)
  case atStart => exact ⟨0, by omega, rfl, by simp, rfl⟩
  case round =>
    obtain ⟨j, hj, rfl, rfl, rfl⟩ := hrel
    have HN := Lib.hid (show str (l ++ List.replicate j 0) ++ ⟨#[0]⟩ = str (l ++ List.replicate (j + 1) 0) by
      show (⟨(l ++ List.replicate j 0).toArray⟩ : ByteArray) ++ ⟨#[0]⟩ = ⟨(l ++ List.replicate (j + 1) 0).toArray⟩
      rw [ByteArray.mk_append_mk, List.replicate_succ', ← List.append_assoc])
    have hlen : (l ++ List.replicate j (0 : UInt8)).length = l.length + j := by simp
    have HP := Lib.hid (show j + l.length = 64 → l ++ List.replicate (64 - l.length) 0 = l ++ List.replicate j 0 from fun h => by rw [show 64 - l.length = j by omega])
    obtain ⟨S, hS⟩ : ∃ S, S = l ++ List.replicate j (0 : UInt8) := ⟨_, rfl⟩
    rw [← hS] at HN hlen HP
    rw [← hS]
    clear hS
    by_cases hj64 : j < 64
    · have hd1 : decide ((j : Int) < 64) = true := by simp; omega
      by_cases hlt : j + l.length < 64
      · have hd2 : decide ((S.length : Int) < 64) = true := by simp; omega
        go_wp2_with fail
        go_roundw
        case rel => exact ⟨j + 1, by omega, by go_num, by rw [HN.out], by first | trivial | rfl⟩
        case measure => simp [intOf]; omega
      · have hd2 : decide ((S.length : Int) < 64) = false := by simp; omega
        go_wp2_with fail
        go_ret
        exact ⟨by rw [HP.out (by omega)]; rfl, rfl⟩
    · have hd1 : decide ((j : Int) < 64) = false := by simp; omega
      go_wp2_with fail
      go_ret
      exact ⟨by rw [HP.out (by omega)]; rfl, rfl⟩
set_option maxRecDepth 100000 in
set_option maxHeartbeats 400000 in
theorem rin_any (a1 a2 a3 : Option Addr) (c1 c2 c3 : Nat) (f at_ n : Int) (sz : Nat) (w : World) (ha : at_ ≤ 9223372036854775807) (hs : sz ≤ 65536) :
    Calls Try.prog 35 #[.agg #[.slice a1 sz c1, .slice a2 sz c2, .slice a3 sz c3, .int .i64 f], .int .i64 at_, .int .i64 n] w fun e w' => e = .returned (.bool (hasS sz at_ n)) ∧ Below w.heap.size w w' := by
  unfold hasS
  by_cases h1 : 0 ≤ at_
  · have e1 : decide (0 ≤ at_) = true := by simpa using h1
    by_cases h2 : 0 ≤ n
    · have e2 : decide (0 ≤ n) = true := by simpa using h2
      by_cases h3 : n ≤ (sz : Int)
      · have e3 : decide (n ≤ (sz : Int)) = true := by simpa using h3
        have e4 : decide (at_ ≤ (sz : Int) - n) = decide (n ≤ (sz : Int) - at_) := by simp; omega
        have hw : IntKind.i64.wrap ((sz : Int) - n) = (sz : Int) - n := IntWalk.i64_in _ (by omega)
        rw [e1, e2]
        go_enter Try.func35, Try.ntmps35
        go_wp2_with fail
        go_ret
        exact ⟨rfl, belowSelf w _⟩
      · have e3 : decide (n ≤ (sz : Int)) = false := by simpa using h3
        have e4 : decide (n ≤ (sz : Int) - at_) = false := by simp; omega
        rw [e1, e2, e4]
        clear h3
        go_enter Try.func35, Try.ntmps35
        go_wp2_with fail
        go_ret
        exact ⟨rfl, belowSelf w _⟩
    · have e2 : decide (0 ≤ n) = false := by simpa using h2
      rw [e1, e2]
      clear h2
      go_enter Try.func35, Try.ntmps35
      go_wp2_with fail
      go_ret
      exact ⟨rfl, belowSelf w _⟩
  · have e1 : decide (0 ≤ at_) = false := by simpa using h1
    rw [e1]
    clear h1
    go_enter Try.func35, Try.ntmps35
    go_wp2_with fail
    go_ret
    exact ⟨rfl, belowSelf w _⟩
/-- What is left of the document's fuse. -/
def leftF (f : Int) : Int := if 0 < f then f - 1 else f
set_option maxRecDepth 100000 in
set_option maxHeartbeats 400000 in
theorem rcall_any (a1 a2 a3 : Option Addr) (c1 c2 c3 sz : Nat) (f : Int) (w : World) (hf : -1 ≤ f) (hf2 : f ≤ 9223372036854775807) :
    Calls Try.prog 36 #[.agg #[.slice a1 sz c1, .slice a2 sz c2, .slice a3 sz c3, .int .i64 f]] w fun e w' => e = .returned (.tuple #[.agg #[.slice a1 sz c1, .slice a2 sz c2, .slice a3 sz c3, .int .i64 (leftF f)], .bool (decide (f = 0))]) ∧ Below w.heap.size w w' := by
  by_cases h0 : f = 0
  · subst h0
    have e : leftF 0 = 0 := rfl
    rw [e]
    go_enter Try.func36, Try.ntmps36
    go_wp2_with fail
    exact bodyPost_ret (sres2 (Mem.newAt _ TRd (rdC a1 a2 a3 c1 c2 c3 sz 0) (by simp)) rfl _ _ rfl Try.underlying29 rfl szRd) rfl ⟨rfl, belowThen (belowSelf w _) (belowSelf _ _)⟩
  · have e0 : ((f : Int) == 0) = false := by simpa using h0
    have e1 : decide (f = 0) = false := by simpa using h0
    rw [e1]
    by_cases h1 : 0 < f
    · have e2 : decide (0 < f) = true := by simpa using h1
      have e : leftF f = f - 1 := if_pos h1
      have hw : IntKind.i64.wrap (f - 1) = f - 1 := IntWalk.i64_in _ (by omega)
      rw [e]
      clear e e1 h0
      go_enter Try.func36, Try.ntmps36
      go_wp2_with fail
      exact bodyPost_ret (sres2 (Mem.newAt _ TRd (rdC a1 a2 a3 c1 c2 c3 sz (f - 1)) (by simp)) rfl _ _ rfl Try.underlying29 rfl szRd) rfl ⟨rfl, belowThen (belowSelf w _) (belowSelf _ _)⟩
    · have e2 : decide (0 < f) = false := by simpa using h1
      have e : leftF f = f := if_neg h1
      rw [e]
      clear e e1 h0
      go_enter Try.func36, Try.ntmps36
      go_wp2_with fail
      exact bodyPost_ret (sres2 (Mem.newAt _ TRd (rdC a1 a2 a3 c1 c2 c3 sz f) (by simp)) rfl _ _ rfl Try.underlying29 rfl szRd) rfl ⟨rfl, belowThen (belowSelf w _) (belowSelf _ _)⟩
end Go.Proofs.Ytjmmbafpiahhiaa

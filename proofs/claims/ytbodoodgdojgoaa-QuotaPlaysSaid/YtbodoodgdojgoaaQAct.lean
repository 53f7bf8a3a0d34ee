/-
  Acts on a quota; the tick of a number; two quotas beside each other.
-/
import Derived.Test.YtbodoodgdojgoaaQLaw2
import Derived.Test.YtbodoodgdojgoaaRow
namespace Go.Proofs.Ytbodoodgdojgoaa
open Go.RowKit Go.Maps Crv

abbrev AQ := Int × Int × Int
abbrev aqC (a : AQ) : List Value := [iv a.1, iv a.2.1, iv a.2.2]
abbrev Tac : TypeId := 33
/-- Acts as an argument. -/
def ActsQ (W : World) (v : Value) (acts : List AQ) : Prop := Rd W 3 v (acts.map aqC)
theorem ActsQ.at {W w : World} {a : Option Addr} {n cap : Nat} {acts : List AQ} (h : ActsQ W (.slice a n cap) acts) (hb : Below W.heap.size W w) {i : Nat} (hi : i < acts.length) :
    ∃ g off, a = some ⟨g, off, none⟩ ∧ w.cell? ⟨g, off + i * 3, none⟩ = some (iv acts[i].1) ∧ w.cell? ⟨g, off + i * 3 + 1, none⟩ = some (iv acts[i].2.1) ∧ w.cell? ⟨g, off + i * 3 + 2, none⟩ = some (iv acts[i].2.2) := by
  obtain ⟨a', cap', h1, _, h3⟩ := Rd.below h hb
  injection h1 with h1 _ _
  obtain ⟨g, off, ha, _, hr⟩ := h3 i (by simpa using hi)
  rw [← h1] at ha
  simp only [List.getElem_map] at hr
  exact ⟨g, off, ha, hr 0 _ rfl, hr 1 _ rfl, hr 2 _ rfl⟩
def tickV (n : Int) : Int := (wrap64 (Int.tmod n 100000 + 100000)).tmod 100000
theorem tickV_in (n : Int) : 0 ≤ tickV n ∧ tickV n < 100000 := by
  obtain ⟨o, h0, h1, h2⟩ := tick_num n
  unfold tickV
  omega
theorem tickV_any (n : Int) (w : World) : Calls Try.prog 11 #[iv n] w fun e w' => e = .returned (iv (tickV n)) ∧ w' = w := by
  have ht : (wrap64 (Int.tmod n 100000 + 100000)).tmod 100000 = tickV n := rfl
  go_enter Try.func11, Try.ntmps11
  go_wp2_with fail
  go_ret
  exact ⟨rfl, rfl⟩
/-- Cells stand where a map's block alone turns. -/
theorem past {w w' : World} {g b : Nat} {t : TypeId} {cs : List Value} {T : SHt} (hm : Mem w g t cs) (hM : MpH w b T) (hg : w.grownBy w' (some b)) : Mem w' g t cs := by
  refine hm.grown hg (fun e => ?_)
  injection e with e
  subst e
  obtain ⟨es, cl, hb⟩ := MpS.block hM
  unfold Mem at hm
  rw [hb] at hm
  cases hm
theorem Qv.past {w w' : World} {q b b' : Nat} {each most : Int} {T T' : SHt} (h : Qv w q b each most T) (hM : MpH w b' T') (hne : b ≠ b') (hg : w.grownBy w' (some b')) : Qv w' q b each most T :=
  ⟨Go.Proofs.Ytbodoodgdojgoaa.past h.m hM hg, MpS.grown h.t hg (fun e => hne (by injection e)), h.rt, h.ok, h.len⟩
/-- Two quotas that a law has made since W0, beside their rate. -/
structure Q2 (W0 : World) (rb q b r c : Nat) (each most : Int) (T U : SHt) (w : World) : Prop where
  rr : Mem w rb Trt [iv each, iv most]
  v : Qv w q b each most T
  u : Qv w r c each most U
  ne : b ≠ c
  hb : W0.heap.size ≤ b ∧ W0.heap.size ≤ c
  bel : Below W0.heap.size W0 w
section
variable {W0 w w' : World} {rb q b r c : Nat} {each most : Int} {T U : SHt}
theorem Q2.on (h : Q2 W0 rb q b r c each most T U w) (hb : Below w.heap.size w w') : Q2 W0 rb q b r c each most T U w' := ⟨h.rr.below hb h.rr.lt, h.v.below hb, h.u.below hb, h.ne, h.hb, belowThen h.bel hb⟩
theorem Q2.swap (h : Q2 W0 rb q b r c each most T U w) : Q2 W0 rb r c q b each most U T w := ⟨h.rr, h.u, h.v, h.ne.symm, ⟨h.hb.2, h.hb.1⟩, h.bel⟩
theorem Q2.take (h : Q2 W0 rb q b r c each most T U w) {n cost now : Int} (hn : In64 n) (hw : 0 ≤ now ∧ now ≤ 1099511627776) (hl : T.length < 100000) : Calls Try.prog 12 #[.pointer (some ⟨q, 0, none⟩), iv n, iv cost, iv now] w fun e w' =>
    e = .returned (.bool (okQ each most T n cost now)) ∧ Q2 W0 rb q b r c each most (takeQ each most T n cost now) U w' ∧ w.grownBy w' (some b) :=
  (take_any h.v hn hw hl).mono fun _ _ q => ⟨q.1, ⟨past h.rr h.v.t q.2.2, q.2.1, h.u.past h.v.t h.ne.symm q.2.2, h.ne, h.hb, belowNew h.bel q.2.2 h.hb.1⟩, q.2.2⟩
end
end Go.Proofs.Ytbodoodgdojgoaa

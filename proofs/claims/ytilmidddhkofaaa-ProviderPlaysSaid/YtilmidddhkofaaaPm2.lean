/-
  A table of providers: mathematics; in memory.
-/
import Derived.Test.YtilmidddhkofaaaPm1
import Derived.Test.YtilmidddhkofaaaFra
namespace Crv
open Go Go.Maps

section
variable {κ μ ν : Type}
theorem ins_map {e : Enc κ μ} {e' : Enc κ ν} (he : e.ek = e'.ek) (f : μ → ν) (x : κ × μ) : ∀ l : List (κ × μ), (e.ins x l).map (fun p => (p.1, f p.2)) = e'.ins (x.1, f x.2) (l.map fun p => (p.1, f p.2))
  | [] => rfl
  | y :: r => by
    have ih := ins_map he f x r
    unfold Enc.ins
    have hl : e.lt x.1 y.1 = e'.lt x.1 y.1 := by unfold Enc.lt; rw [he]
    rw [List.map_cons]
    simp only [hl]
    split
    · rfl
    · rw [List.map_cons, ih]
theorem pw_ne {α : Type} {f : α → Nat} : ∀ {l : List α}, l.Pairwise (fun r s => f r ≠ f s) → ∀ {r s : α}, r ∈ l → s ∈ l → f r = f s → r = s
  | a :: l, h, r, s, hr, hs, he => by
    obtain ⟨h1, h2⟩ := List.pairwise_cons.1 h
    rcases List.mem_cons.1 hr with e1 | hr' <;> rcases List.mem_cons.1 hs with e2 | hs'
    · rw [e1, e2]
    · exact absurd (e1 ▸ he) (h1 s hs')
    · exact absurd (e2 ▸ he).symm (h1 r hr')
    · exact pw_ne h2 hr' hs' he
end
section
variable {κ μ ν : Type} [DecidableEq κ]
theorem getK_map (f : μ → ν) (k : κ) : ∀ l : List (κ × μ), getK k (l.map fun p => (p.1, f p.2)) = (getK k l).map f
  | [] => rfl
  | p :: r => by
    have ih := getK_map f k r
    rw [List.map_cons, getK_cons, show getK k (p :: r) = if p.1 = k then some p.2 else getK k r from getK_cons k p.1 p.2 r, ih]
    split <;> rfl
theorem delK_map (f : μ → ν) (k : κ) (l : List (κ × μ)) : (delK k l).map (fun p => (p.1, f p.2)) = delK k (l.map fun p => (p.1, f p.2)) := by
  unfold delK
  rw [List.filter_map]
  rfl
theorem set_map {e : Enc κ μ} {e' : Enc κ ν} (he : e.ek = e'.ek) (f : μ → ν) (k : κ) (v : μ) (l : List (κ × μ)) : (e.set k v l).map (fun p => (p.1, f p.2)) = e'.set k (f v) (l.map fun p => (p.1, f p.2)) := by
  unfold Enc.set
  rw [ins_map he, delK_map]
/-- One key's element is another one now. -/
def updK (k : κ) (v : ν) (l : List (κ × ν)) : List (κ × ν) := l.map fun p => if p.1 = k then (p.1, v) else p
theorem updK_none (k : κ) (v : ν) (l : List (κ × ν)) (h : getK k l = none) : updK k v l = l := by
  unfold updK
  rw [getK_none] at h
  conv => rhs; rw [← List.map_id l]
  refine List.map_congr_left fun p hp => ?_
  rw [if_neg (h p hp)]; rfl
theorem getK_upd (k j : κ) (v : ν) : ∀ l : List (κ × ν), getK j (updK k v l) = if j = k then (getK k l).map (fun _ => v) else getK j l
  | [] => by unfold getK updK; simp
  | p :: r => by
    have ih := getK_upd k j v r
    have e1 : updK k v (p :: r) = (p.1, if p.1 = k then v else p.2) :: updK k v r := by
      unfold updK
      rw [List.map_cons]
      split
      · rfl
      · rfl
    rw [e1, getK_cons, ih, show getK k (p :: r) = if p.1 = k then some p.2 else getK k r from getK_cons k p.1 p.2 r, show getK j (p :: r) = if p.1 = j then some p.2 else getK j r from getK_cons j p.1 p.2 r]
    by_cases h1 : j = k
    · subst h1
      by_cases h2 : p.1 = j
      · simp [h2]
      · simp [h2]
    · by_cases h2 : p.1 = j
      · have h3 : ¬ p.1 = k := fun q => h1 (h2.symm.trans q)
        simp [h1, h2]
      · simp [h1, h2]
end
end Crv
namespace Go.Proofs.Ytilmidddhkofaaa
open Go.RowKit Go.Maps Crv

abbrev Ttb : TypeId := 57
/-- What a table has: each name's addresses with their ticks. -/
abbrev PV : Type := List (List UInt8 × List (Int × Int))
/-- .. with each name's block. -/
abbrev PT : Type := List (List UInt8 × Nat × List (Int × Int))
def nb (T : PT) : List (List UInt8 × Nat) := T.map fun p => (p.1, p.2.1)
def vw (T : PT) : PV := T.map fun p => (p.1, p.2.2)
def eT : Enc (List UInt8) (Nat × List (Int × Int)) := ⟨fun x => .string x, fun _ => .nil, fun a b h => by injection h, fun _ => trivial⟩
def eV : Enc (List UInt8) (List (Int × Int)) := ⟨fun x => .string x, fun _ => .nil, fun a b h => by injection h, fun _ => trivial⟩
theorem nb_get (x : List UInt8) (T : PT) : getK x (nb T) = (getK x T).map (·.1) := getK_map _ x T
theorem vw_get (x : List UInt8) (T : PT) : getK x (vw T) = (getK x T).map (·.2) := getK_map _ x T
theorem nb_set (x : List UInt8) (v : Nat × List (Int × Int)) (T : PT) : nb (eT.set x v T) = eN.set x v.1 (nb T) := set_map (e := eT) (e' := eN) rfl (fun q : Nat × List (Int × Int) => q.1) x v T
theorem vw_set (x : List UInt8) (v : Nat × List (Int × Int)) (T : PT) : vw (eT.set x v T) = eV.set x v.2 (vw T) := set_map (e := eT) (e' := eV) rfl (fun q : Nat × List (Int × Int) => q.2) x v T
/-- A table in memory. -/
structure Ptb (W : World) (t g : Nat) (T : PT) : Prop where
  tag : Mem W t Ttb [.map (some g)]
  out : MpN W g (nb T)
  inn : ∀ r ∈ T, MpI W r.2.1 r.2.2
  len : ∀ r ∈ T, r.1.length = 32
  ne : ∀ r ∈ T, r.2.1 ≠ g
  one : T.Pairwise fun r s => r.2.1 ≠ s.2.1
  few : T.length ≤ 64
  few8 : ∀ r ∈ T, r.2.2.length ≤ 8
  val : ∀ r ∈ T, ∀ p ∈ r.2.2, In64 p.1 ∧ In64 p.2
/-- Its blocks. -/
def Ftp (t g : Nat) (T : PT) (k : Nat) : Prop := k = t ∨ k = g ∨ ∃ r ∈ T, k = r.2.1
section
variable {W W' : World} {t g : Nat} {T : PT} {F F' : Nat → Prop} {V : PV}
theorem Ptb.lt (h : Ptb W t g T) {k : Nat} (hk : Ftp t g T k) : k < W.heap.size := by
  rcases hk with rfl | rfl | ⟨r, hr, rfl⟩
  · exact h.tag.lt
  · exact h.out.lt
  · exact (h.inn r hr).lt
theorem Ptb.of (h : Ptb W t g T) (hb : ∀ k, Ftp t g T k → W'.heap[k]? = W.heap[k]?) : Ptb W' t g T :=
  ⟨(hb t (.inl rfl)).trans h.tag, h.out.of (hb g (.inr (.inl rfl))), fun r hr => (h.inn r hr).of (hb _ (.inr (.inr ⟨r, hr, rfl⟩))), h.len, h.ne, h.one, h.few, h.few8, h.val⟩
theorem Ptb.below (h : Ptb W t g T) (hb : Below W.heap.size W W') : Ptb W' t g T := h.of fun k hk => hb.block k (h.lt hk)
theorem Ptb.uniq (h : Ptb W t g T) : Uniq T := by
  have := h.out.uniq keyedN
  unfold Uniq nb at this
  rw [List.pairwise_map] at this
  exact this
theorem Ptb.tg (h : Ptb W t g T) : t ≠ g := by
  rintro rfl
  obtain ⟨es, c, hb⟩ := h.out.block
  have := h.tag.symm.trans hb
  simp at this
theorem Ptb.tr (h : Ptb W t g T) {r : List UInt8 × Nat × List (Int × Int)} (hr : r ∈ T) : r.2.1 ≠ t := by
  intro e
  obtain ⟨es, c, hb⟩ := (h.inn r hr).block
  rw [e] at hb
  have := h.tag.symm.trans hb
  simp at this
/-- A table, wherever its parts lie within F. -/
def Pv (W : World) (F : Nat → Prop) (t : Nat) (V : PV) : Prop := ∃ g T, Ptb W t g T ∧ vw T = V ∧ ∀ k, Ftp t g T k → F k
theorem Pv.mono (h : Pv W F t V) (hF : ∀ b, b < W.heap.size → F b → F' b) : Pv W F' t V := by
  obtain ⟨g, T, h1, h2, h3⟩ := h
  exact ⟨g, T, h1, h2, fun k hk => hF k (h1.lt hk) (h3 k hk)⟩
theorem Pv.of (h : Pv W F t V) (hb : ∀ b, b < W.heap.size → F b → W'.heap[b]? = W.heap[b]?) : Pv W' F t V := by
  obtain ⟨g, T, h1, h2, h3⟩ := h
  exact ⟨g, T, h1.of fun k hk => hb k (h1.lt hk) (h3 k hk), h2, h3⟩
theorem Pv.below (h : Pv W F t V) (hb : Below W.heap.size W W') : Pv W' F t V := h.of fun b hlt _ => hb.block b hlt
/-- One name's map is another one now. -/
theorem Ptb.upd (h : Ptb W t g T) {x : List UInt8} {b : Nat} {l l' : List (Int × Int)} (hx : getK x T = some (b, l)) (hg : W.grownBy W' (some b)) (hm : MpI W' b l') (hl : l'.length ≤ 8) (hv : ∀ p ∈ l', In64 p.1 ∧ In64 p.2) : Ptb W' t g (updK x (b, l') T) := by
  have hmem := (mem_getK h.uniq x (b, l)).1 hx
  have hbg : b ≠ g := h.ne _ hmem
  have hbt : b ≠ t := h.tr hmem
  have hnb : nb (updK x (b, l') T) = nb T := by
    unfold nb updK
    rw [List.map_map]
    refine List.map_congr_left fun p hp => ?_
    simp only [Function.comp]
    split
    · rename_i he
      have := (mem_getK h.uniq x p.2).2 (by rw [← he]; exact hp)
      rw [hx] at this
      injection this with this
      rw [← this]
    · rfl
  have hin : ∀ r, r ∈ updK x (b, l') T → (r = (x, b, l')) ∨ (r ∈ T ∧ r.1 ≠ x) := fun r hr => by
    obtain ⟨p, hp, rfl⟩ := List.mem_map.1 hr
    split
    · rename_i he; left; rw [he]
    · rename_i he; exact .inr ⟨hp, he⟩
  have hother : ∀ r ∈ T, r.1 ≠ x → r.2.1 ≠ b := fun r hr hne e => by
    have := pw_ne (f := fun r : List UInt8 × Nat × List (Int × Int) => r.2.1) h.one hr hmem e
    exact hne (by rw [this])
  refine ⟨h.tag.grown hg (fun e => hbt (by injection e with e; exact e.symm)), ?_, fun r hr => ?_, fun r hr => ?_, fun r hr => ?_, ?_, ?_, fun r hr => ?_, fun r hr => ?_⟩
  · rw [hnb]; exact h.out.grown hg (fun e => hbg (by injection e with e; exact e.symm))
  · rcases hin r hr with rfl | ⟨h1, h2⟩
    · exact hm
    · exact (h.inn r h1).grown hg (fun e => hother r h1 h2 (by injection e with e))
  · rcases hin r hr with rfl | ⟨h1, h2⟩
    · exact h.len (x, b, l) hmem
    · exact h.len r h1
  · rcases hin r hr with rfl | ⟨h1, h2⟩
    · exact hbg
    · exact h.ne r h1
  · have e1 : (updK x (b, l') T).Pairwise (fun r s => r.2.1 ≠ s.2.1) ↔ (nb (updK x (b, l') T)).Pairwise (fun r s => r.2 ≠ s.2) := by unfold nb; rw [List.pairwise_map]
    rw [e1, hnb]
    unfold nb
    rw [List.pairwise_map]
    exact h.one
  · unfold updK; rw [List.length_map]; exact h.few
  · rcases hin r hr with rfl | ⟨h1, h2⟩
    · exact hl
    · exact h.few8 r h1
  · rcases hin r hr with rfl | ⟨h1, h2⟩
    · exact hv
    · exact h.val r h1
theorem vw_upd (x : List UInt8) (b : Nat) (l' : List (Int × Int)) (T : PT) : vw (updK x (b, l') T) = updK x l' (vw T) := by
  unfold vw updK
  rw [List.map_map, List.map_map]
  refine List.map_congr_left fun p _ => ?_
  simp only [Function.comp]
  split <;> rfl
theorem Ftp.upd (h : Ptb W t g T) {x : List UInt8} {b : Nat} {l l' : List (Int × Int)} (hx : getK x T = some (b, l)) {k : Nat} (hk : Ftp t g (updK x (b, l') T) k) : Ftp t g T k := by
  rcases hk with hk | hk | ⟨r, hr, rfl⟩
  · exact .inl hk
  · exact .inr (.inl hk)
  · obtain ⟨p, hp, rfl⟩ := List.mem_map.1 hr
    refine .inr (.inr ?_)
    split
    · exact ⟨_, (mem_getK h.uniq x (b, l)).1 hx, rfl⟩
    · exact ⟨p, hp, rfl⟩
/-- A name that was not there. -/
theorem Ptb.add (h : Ptb W t g T) {x : List UInt8} {b : Nat} {l : List (Int × Int)} (hx : getK x T = none) (hxl : x.length = 32) (hb : W.heap.size ≤ b) {W1 : World} (h1 : W.grownBy W1 none) (hg : W1.grownBy W' (some g)) (hout : MpN W' g (eN.set x b (nb T))) (hm : MpI W' b l) (hl : l.length ≤ 8) (hv : ∀ p ∈ l, In64 p.1 ∧ In64 p.2) (hT : T.length < 64) : Ptb W' t g (eT.set x (b, l) T) := by
  have hd : delK x T = T := by
    unfold delK
    rw [List.filter_eq_self]
    intro p hp
    have := (getK_none x).1 hx p hp
    simp [this]
  have hp := eT.ins_perm (x, b, l) (delK x T)
  rw [hd] at hp
  have hin : ∀ r, r ∈ eT.set x (b, l) T ↔ r = (x, b, l) ∨ r ∈ T := fun r => by
    unfold Enc.set
    rw [hd, hp.mem_iff, List.mem_cons]
  have hblk : ∀ k, k < W.heap.size → k ≠ g → W'.heap[k]? = W.heap[k]? := fun k hk hne => (hg.block k (Nat.lt_of_lt_of_le hk h1.size) (fun e => hne (by injection e))).trans (h1.block k hk (by simp))
  refine ⟨?_, ?_, fun r hr => ?_, fun r hr => ?_, fun r hr => ?_, ?_, ?_, fun r hr => ?_, fun r hr => ?_⟩
  · exact (hblk t h.tag.lt h.tg).trans h.tag
  · rw [nb_set]; exact hout
  · rcases (hin r).1 hr with rfl | hr
    · exact hm
    · exact (h.inn r hr).of (hblk _ (h.inn r hr).lt (h.ne r hr))
  · rcases (hin r).1 hr with rfl | hr
    · exact hxl
    · exact h.len r hr
  · rcases (hin r).1 hr with rfl | hr
    · have := h.out.lt; simp only; omega
    · exact h.ne r hr
  · unfold Enc.set
    rw [hd]
    refine (hp.pairwise_iff (fun {_ _} q => Ne.symm q)).2 (List.pairwise_cons.2 ⟨fun r hr => ?_, h.one⟩)
    have := (h.inn r hr).lt
    simp only
    omega
  · rw [length_set eT h.uniq, hx]
    simp
    omega
  · rcases (hin r).1 hr with rfl | hr
    · exact hl
    · exact h.few8 r hr
  · rcases (hin r).1 hr with rfl | hr
    · exact hv
    · exact h.val r hr
theorem Ftp.add {x : List UInt8} {b : Nat} {l : List (Int × Int)} {k : Nat} (hk : Ftp t g (eT.set x (b, l) T) k) : Ftp t g T k ∨ k = b := by
  rcases hk with hk | hk | ⟨r, hr, rfl⟩
  · exact .inl (.inl hk)
  · exact .inl (.inr (.inl hk))
  · have := (eT.ins_perm (x, b, l) (delK x T)).mem_iff.1 hr
    rcases List.mem_cons.1 this with rfl | h1
    · exact .inr rfl
    · exact .inl (.inr (.inr ⟨r, (List.mem_filter.1 h1).1, rfl⟩))
end
end Go.Proofs.Ytilmidddhkofaaa

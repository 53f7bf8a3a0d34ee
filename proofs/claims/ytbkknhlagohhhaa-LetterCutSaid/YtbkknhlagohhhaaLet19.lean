/-
  A beginning of a letter's bytes is none, and nothing may follow them (mathematics).
-/
import Derived.Test.YtbkknhlagohhhaaLet16
namespace Go.Proofs.Ytbkknhlagohhhaa
open Go.RowKit Crv

/-- The decoder that has run out. -/
abbrev E1 : BSt := ([], 1)
theorem bytesS_e1 (n : Int) : bytesS E1 n = (E1, []) := by
  unfold bytesS
  split
  · rfl
  · simp
theorem numS_e1 : numS E1 = (E1, 0) := by decide +kernel
theorem intS_e1 (top : Int) : intS E1 top = (E1, 0) := by
  unfold intS
  rw [numS_e1]
  simp
theorem strS_e1 (top : Int) : strS E1 top = (E1, []) := by
  unfold strS
  rw [intS_e1]
  exact bytesS_e1 0
theorem bytesS_short (p : List UInt8) (n : Nat) (h : p.length < n) : bytesS (p, 0) (n : Int) = (E1, []) := by
  unfold bytesS
  rw [if_pos (.inr (by simp only; omega))]
  rfl
theorem numS_short (n : Nat) (p : List UInt8) (hn : n < 18446744073709551616) (hp : p <+: numOf n) (hl : p.length < (numOf n).length) : numS (p, 0) = (E1, 0) := by
  cases p with
  | nil => decide +kernel
  | cons b q =>
    unfold numOf at hp hl
    rw [List.cons_prefix_cons] at hp
    obtain ⟨rfl, hq⟩ := hp
    have hk := numLen_le hn
    have hb : (UInt8.ofNat (numLen n)).toNat = numLen n := by rw [UInt8.toNat_ofNat']; omega
    have e0 : bytesS (UInt8.ofNat (numLen n) :: q, 0) 1 = ((q, 0), [UInt8.ofNat (numLen n)]) := by
      simp [bytesS]
      omega
    have hql : q.length < numLen n := by simpa [length_be] using hl
    unfold numS
    rw [e0]
    simp only
    rw [if_neg (by omega), hb, bytesS_short q _ hql]
theorem intS_short (n : Nat) (p : List UInt8) (top : Int) (hn : n < 9223372036854775808) (hp : p <+: numOf n) (hl : p.length < (numOf n).length) : intS (p, 0) top = (E1, 0) := by
  unfold intS
  rw [numS_short n p (by omega) hp hl]
  simp
/-- f reads x, no more; of less it says that it has run out. -/
structure Rd1 (f : BSt → BSt) (x : List UInt8) : Prop where
  go : ∀ rest, f (x ++ rest, 0) = (rest, 0)
  cut : ∀ p, p <+: x → p.length < x.length → f (p, 0) = E1
  bad : f E1 = E1
theorem Rd1.none : Rd1 (fun s => s) [] := ⟨fun _ => rfl, fun p _ h => absurd h (by simp), rfl⟩
/-- A beginning of two: of the first, or the first and a beginning of the second. -/
theorem prefix_two {p x y : List UInt8} (h : p <+: x ++ y) (hl : p.length < (x ++ y).length) : (p <+: x ∧ p.length < x.length) ∨ ∃ q, p = x ++ q ∧ q <+: y ∧ q.length < y.length := by
  rcases Nat.lt_or_ge p.length x.length with hx | hx
  · exact .inl ⟨List.prefix_of_prefix_length_le h (List.prefix_append x y) (by omega), hx⟩
  · obtain ⟨q, rfl⟩ := List.prefix_of_prefix_length_le (List.prefix_append x y) h hx
    refine .inr ⟨q, rfl, (List.prefix_append_right_inj x).1 h, ?_⟩
    rw [List.length_append, List.length_append] at hl
    omega
theorem Rd1.comp {f g : BSt → BSt} {x y : List UInt8} (hf : Rd1 f x) (hg : Rd1 g y) : Rd1 (fun s => g (f s)) (x ++ y) := by
  refine ⟨fun rest => ?_, fun p hp hl => ?_, ?_⟩
  · show g (f (x ++ y ++ rest, 0)) = _
    rw [List.append_assoc, hf.go, hg.go]
  · show g (f (p, 0)) = E1
    rcases prefix_two hp hl with ⟨h1, h2⟩ | ⟨q, rfl, h1, h2⟩
    · rw [hf.cut p h1 h2, hg.bad]
    · rw [hf.go, hg.cut q h1 h2]
  · show g (f E1) = E1
    rw [hf.bad, hg.bad]
theorem intR {k top : Int} (h0 : 0 ≤ k) (h1 : k ≤ top) (h2 : k < 9223372036854775808) : Rd1 (fun s => (intS s top).1) (numOf (nat0 k)) :=
  ⟨fun rest => by show (intS (numOf (nat0 k) ++ rest, 0) top).1 = _; rw [intS_of rest h0 h1 h2], fun p hp hl => by show (intS (p, 0) top).1 = E1; rw [intS_short (nat0 k) p top (by have := nat0_of h0; omega) hp hl], by show (intS E1 top).1 = E1; rw [intS_e1]⟩
theorem bytesR (x : List UInt8) (n : Int) (h : n = (x.length : Int)) : Rd1 (fun s => (bytesS s n).1) x := by
  subst h
  exact ⟨fun rest => by show (bytesS (x ++ rest, 0) _).1 = _; rw [bytesS_app], fun p _ hl => by show (bytesS (p, 0) _).1 = E1; rw [bytesS_short p x.length hl], by show (bytesS E1 _).1 = E1; rw [bytesS_e1]⟩
theorem strR (x : List UInt8) (top : Int) (h : (x.length : Int) ≤ top) (hx : x.length < 1099511627776) : Rd1 (fun s => (strS s top).1) (strOf x) := by
  refine ⟨fun rest => ?_, fun p hp hl => ?_, ?_⟩
  · show (strS (strOf x ++ rest, 0) top).1 = _
    rw [strS_strOf x rest top h hx]
  · show (strS (p, 0) top).1 = E1
    unfold strOf at hp hl
    unfold strS
    rcases prefix_two hp hl with ⟨h1, h2⟩ | ⟨q, rfl, h1, h2⟩
    · rw [intS_short x.length p top (by omega) h1 h2]
      show (bytesS E1 _).1 = E1
      rw [bytesS_e1]
    · rw [intS_numOf x.length q top (by omega) h]
      show (bytesS (q, 0) _).1 = E1
      rw [bytesS_short q x.length h2]
  · show (strS E1 top).1 = E1
    rw [strS_e1]
theorem numsL_app (a b : List Int) : numsL (a ++ b) = numsL a ++ numsL b := by
  unfold numsL
  rw [List.flatMap_append]
theorem adrNR (ks : List Int) (h : ∀ k ∈ ks, 0 ≤ k ∧ k ≤ 63) : ∀ k, k ≤ ks.length → Rd1 (fun s => (adrN s k).2) (numsL (ks.take k))
  | 0, _ => by rw [List.take_zero]; exact Rd1.none
  | k + 1, hk => by
    have hi := adrNR ks h k (by omega)
    have hb := h ks[k] (List.getElem_mem _)
    have hc := Rd1.comp hi (intR hb.1 hb.2 (by omega))
    have e : numsL (ks.take (k + 1)) = numsL (ks.take k) ++ numOf (nat0 ks[k]) := by
      rw [List.take_add_one, List.getElem?_eq_getElem (by omega), numsL_app]
      simp [numsL]
    rw [e]
    exact hc
theorem adrR (ks : List Int) (h : ∀ k ∈ ks, 0 ≤ k ∧ k ≤ 63) (hl8 : ks.length ≤ 8) : Rd1 (fun s => (adrS s).2) (encL ks) := by
  have e : encL ks = numOf (nat0 (ks.length : Int)) ++ numsL ks := by
    unfold encL
    rw [numsL_cons]
    simp [numsL]
  have h3 : nat0 (ks.length : Int) = ks.length := by have := nat0_of (k := (ks.length : Int)) (by omega); omega
  have hN := adrNR ks h ks.length (Nat.le_refl _)
  rw [List.take_of_length_le (Nat.le_refl _)] at hN
  refine ⟨fun rest => ?_, fun p hp hl => ?_, ?_⟩
  · show (adrS (encL ks ++ rest, 0)).2 = _
    rw [adrS_of ks rest h hl8]
  · show (adrS (p, 0)).2 = E1
    rw [e] at hp hl
    unfold adrS
    rcases prefix_two hp hl with ⟨h1, h2⟩ | ⟨q, rfl, h1, h2⟩
    · rw [intS_short _ p 8 (by omega) h1 h2]
      rfl
    · rw [intS_of q (by omega) (by omega) (by omega), h3]
      exact hN.cut q h1 h2
  · show (adrS E1).2 = E1
    unfold adrS
    rw [intS_e1]
    rfl
theorem idR {l : LV} (hid : l.id.length = 32) : Rd1 (fun s => (decId l.kind s).2) (idP l) := by
  unfold decId idP
  split
  · exact bytesR l.id 32 (by omega)
  · exact Rd1.none
theorem listR {l : LV} {ps hs : List Int} (f : ChkF l ps hs) : Rd1 (fun s => (decLists l.kind s).2) (listP l ps hs) := by
  unfold decLists listP
  split
  · exact Rd1.comp (adrR ps (fun k hk => f.adr k (by simp [hk])) f.pl) (adrR hs (fun k hk => f.adr k (by simp [hk])) f.hl)
  · exact Rd1.none
theorem whatR {l : LV} {ps hs : List Int} (f : ChkF l ps hs) : Rd1 (fun s => (decWhat l.kind s).2) (whatP l) := by
  unfold decWhat whatP
  split
  · rename_i h
    obtain ⟨w1, w2⟩ := f.what h
    have := intR (k := l.what) (top := 3) (by omega) w2 (by omega)
    rw [show numsL [l.what] = numOf (nat0 l.what) by simp [numsL]]
    exact this
  · exact Rd1.none
theorem textR {l : LV} {ps hs : List Int} (f : ChkF l ps hs) : Rd1 (fun s => (decText l.kind s).2) (textP l) := by
  unfold decText textP
  split
  · exact strR l.text 512 (by have := f.tl; omega) (by have := f.tl; omega)
  · exact Rd1.none
theorem fourR {l : LV} {ps hs : List Int} (f : ChkF l ps hs) : Rd1 (fun s => (dec4 s).2) (numsL [l.kind, l.fr, l.to, l.seq]) := by
  have h1 := f.kind
  have h2 := f.fr
  have h3 := f.to
  have h4 := f.seq
  have c := Rd1.comp (Rd1.comp (Rd1.comp (intR (k := l.kind) (top := 10) (by omega) h1.2 (by omega)) (intR (k := l.fr) (top := 63) (by omega) h2.2 (by omega))) (intR (k := l.to) (top := 63) (by omega) h3.2 (by omega))) (intR (k := l.seq) (top := 4294967296) (by omega) h4.2 (by omega))
  have e : numsL [l.kind, l.fr, l.to, l.seq] = ((numOf (nat0 l.kind) ++ numOf (nat0 l.fr)) ++ numOf (nat0 l.to)) ++ numOf (nat0 l.seq) := by simp [numsL]
  have hd : (fun s => (dec4 s).2) = (fun s => (intS (intS (intS (intS s 10).1 63).1 63).1 4294967296).1) := by
    funext s
    simp only [dec4]
  rw [e, hd]
  exact c
theorem decId_e1 (k : Int) : (decId k E1).2 = E1 := by
  unfold decId
  split
  · show (bytesS E1 32).1 = E1
    rw [bytesS_e1]
  · rfl
theorem adrS_e1 : (adrS E1).2 = E1 := by
  unfold adrS
  rw [intS_e1]
  rfl
theorem decLists_e1 (k : Int) : (decLists k E1).2 = E1 := by
  unfold decLists
  split
  · show (adrS (adrS E1).2).2 = E1
    rw [adrS_e1, adrS_e1]
  · rfl
theorem decWhat_e1 (k : Int) : (decWhat k E1).2 = E1 := by
  unfold decWhat
  split
  · show (intS E1 3).1 = E1
    rw [intS_e1]
  · rfl
theorem decText_e1 (k : Int) : (decText k E1).2 = E1 := by
  unfold decText
  split
  · show (strS E1 512).1 = E1
    rw [strS_e1]
  · rfl
theorem decW_st (s : BSt) : (decW s).2.2 = (decText (dec4 s).1.kind (decWhat (dec4 s).1.kind (decLists (dec4 s).1.kind (decId (dec4 s).1.kind (dec4 s).2).2).2).2).2 := rfl
/-- A beginning of a letter's bytes: the decoder runs out. -/
theorem decW_cut {l : LV} {ps hs : List Int} (f : ChkF l ps hs) (hid : l.id.length = 32) (p : List UInt8) (hp : p <+: bodyL l ps hs) (hl : p.length < (bodyL l ps hs).length) : (decW (p, 0)).2.2 = E1 := by
  rw [decW_st]
  unfold bodyL at hp hl
  rcases prefix_two hp hl with ⟨h1, h2⟩ | ⟨q, rfl, h1, h2⟩
  · have h : (dec4 (p, 0)).2 = E1 := (fourR f).cut p h1 h2
    rw [h, decId_e1, decLists_e1, decWhat_e1, decText_e1]
  · rw [dec4_of f]
    have c := Rd1.comp (idR hid) (Rd1.comp (listR f) (Rd1.comp (whatR f) (textR f)))
    exact c.cut q h1 h2
/-- What follows a letter's bytes is left. -/
theorem decW_more {l : LV} {ps hs : List Int} (f : ChkF l ps hs) (hid : l.id.length = 32) (rest : List UInt8) : (decW (bodyL l ps hs ++ rest, 0)).2.2 = (rest, 0) := by
  rw [decW_st]
  unfold bodyL
  rw [List.append_assoc, dec4_of f]
  have c := Rd1.comp (idR hid) (Rd1.comp (listR f) (Rd1.comp (whatR f) (textR f)))
  exact c.go rest
theorem cut_err {l : LV} {ps hs : List Int} (f : ChkF l ps hs) (hid : l.id.length = 32) (p : List UInt8) (hp : p <+: bodyL l ps hs) (hl : p.length < (bodyL l ps hs).length) : (clS (decW (p, 0)).2.2).2 = 1 := by
  rw [decW_cut f hid p hp hl]
  rfl
theorem more_err {l : LV} {ps hs : List Int} (f : ChkF l ps hs) (hid : l.id.length = 32) : (clS (decW (bodyL l ps hs ++ [0], 0)).2.2).2 = 2 := by
  rw [decW_more f hid]
  rfl
end Go.Proofs.Ytbkknhlagohhhaa

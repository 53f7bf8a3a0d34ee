/-
  A letter's bytes read back (mathematics).
-/
import Derived.Test.YtbkknhlagohhhaaLet14
import Derived.Test.YtbkknhlagohhhaaLet15
import Derived.Test.YtbkknhlagohhhaaNum0
namespace Go.Proofs.Ytbkknhlagohhhaa
open Go.RowKit Crv

structure ChkF (l : LV) (ps hs : List Int) : Prop where
  kind : 1 ≤ l.kind ∧ l.kind ≤ 10
  fr : 0 ≤ l.fr ∧ l.fr ≤ 63
  to : 0 ≤ l.to ∧ l.to ≤ 63
  seq : 0 ≤ l.seq ∧ l.seq ≤ 4294967296
  pl : ps.length ≤ 8
  hl : hs.length ≤ 8
  tl : l.text.length ≤ 512
  noid : idK l.kind = false → l.id = List.replicate 32 0
  nolist : listK l.kind = false → ps = [] ∧ hs = []
  nowhat : whatK l.kind = false → l.what = 0
  notext : textK l.kind = false → l.text = []
  what : whatK l.kind = true → 1 ≤ l.what ∧ l.what ≤ 3
  adr : ∀ k ∈ ps ++ hs, 0 ≤ k ∧ k ≤ 63
theorem adrK_iff (n : Int) : adrK n = true ↔ 0 ≤ n ∧ n ≤ 63 := by
  unfold adrK
  simp
theorem chk_facts {l : LV} {ps hs : List Int} (h : chkL l ps hs = 0) : ChkF l ps hs := by
  unfold chkL at h
  split at h
  · omega
  rename_i h1
  split at h
  · omega
  rename_i h2
  split at h
  · omega
  rename_i h3
  split at h
  · omega
  rename_i h4
  split at h
  · omega
  rename_i h5
  split at h
  · omega
  rename_i h6
  split at h
  · omega
  rename_i h7
  split at h
  · omega
  rename_i h8
  split at h
  · omega
  rename_i h9
  split at h
  · omega
  rename_i h10
  split at h
  rotate_left
  · omega
  rename_i h11
  have k1 : kindK l.kind = true := by simpa using h1
  have k2 := (adrK_iff l.fr).1 (by simpa using h2)
  have k3 := (adrK_iff l.to).1 (by simpa using h3)
  unfold kindK at k1
  simp at k1
  have m9 : moreL l ps.length hs.length = false := by simpa using h9
  unfold moreL at m9
  simp only [Bool.or_eq_false_iff, Bool.and_eq_false_iff, Bool.not_eq_false'] at m9
  obtain ⟨⟨⟨a1, a2⟩, a3⟩, a4⟩ := m9
  refine ⟨k1, k2, k3, ⟨by omega, by omega⟩, by omega, by omega, by omega, fun h => ?_, fun h => ?_, fun h => ?_, fun h => ?_, fun h => ?_, fun k hk => ?_⟩
  · rw [h] at a1
    have a : l.id = z32 := by simpa using a1
    exact a.trans rfl
  · rw [h] at a2
    simp at a2
    exact a2
  · rw [h] at a3
    simpa using a3
  · rw [h] at a4
    simpa using a4
  · by_cases hw : l.what < 1 ∨ 3 < l.what
    · exact absurd ⟨h, hw⟩ h10
    · omega
  · exact (adrK_iff k).1 (List.all_eq_true.1 h11 k hk)

def idP (l : LV) : List UInt8 := if idK l.kind = true then l.id else []
def listP (l : LV) (ps hs : List Int) : List UInt8 := if listK l.kind = true then encL ps ++ encL hs else []
def whatP (l : LV) : List UInt8 := if whatK l.kind = true then numsL [l.what] else []
def textP (l : LV) : List UInt8 := if textK l.kind = true then strOf l.text else []
/-- The bytes behind the mark. -/
def bodyL (l : LV) (ps hs : List Int) : List UInt8 := numsL [l.kind, l.fr, l.to, l.seq] ++ (idP l ++ (listP l ps hs ++ (whatP l ++ textP l)))
theorem bytes_body (l : LV) (ps hs : List Int) : bytesL l ps hs = cvT ++ bodyL l ps hs := by
  unfold bytesL bodyL idP listP whatP textP
  split <;> split <;> split <;> split <;> simp
theorem cutP_body (r : List UInt8) : cutP (cvT ++ r) = (r, true) := by
  unfold cutP
  have h : List.take 2 (cvT ++ r) = cvT := rfl
  rw [h]
  rfl
theorem nat0_of {k : Int} (h : 0 ≤ k) : ((nat0 k : Nat) : Int) = k := by
  unfold nat0
  omega
theorem intS_of {k top : Int} (rest : List UInt8) (h0 : 0 ≤ k) (h1 : k ≤ top) (h2 : k < 9223372036854775808) : intS (numOf (nat0 k) ++ rest, 0) top = ((rest, 0), nat0 k) :=
  intS_numOf (nat0 k) rest top (by have := nat0_of h0; omega) (by rw [nat0_of h0]; exact h1)
theorem numsL_cons (k : Int) (r : List Int) : numsL (k :: r) = numOf (nat0 k) ++ numsL r := rfl
theorem adrN_of (ks : List Int) (rest : List UInt8) (h : ∀ k ∈ ks, 0 ≤ k ∧ k ≤ 63) : ∀ k, k ≤ ks.length → adrN (numsL ks ++ rest, 0) k = (ks.take k, (numsL (ks.drop k) ++ rest, 0))
  | 0, _ => by rw [List.take_zero, List.drop_zero]; rfl
  | k + 1, hk => by
    have hi := adrN_of ks rest h k (by omega)
    have hd : ks.drop k = ks[k] :: ks.drop (k + 1) := List.drop_eq_getElem_cons (by omega)
    have hb := h ks[k] (List.getElem_mem _)
    show ((adrN (numsL ks ++ rest, 0) k).1 ++ [((intS (adrN (numsL ks ++ rest, 0) k).2 63).2 : Int)], (intS (adrN (numsL ks ++ rest, 0) k).2 63).1) = _
    rw [hi, hd, numsL_cons, List.append_assoc, intS_of _ hb.1 hb.2 (by omega), nat0_of hb.1, List.take_add_one, List.getElem?_eq_getElem (by omega)]
    rfl
theorem adrS_of (ks : List Int) (rest : List UInt8) (h : ∀ k ∈ ks, 0 ≤ k ∧ k ≤ 63) (hl : ks.length ≤ 8) : adrS (encL ks ++ rest, 0) = (ks, (rest, 0)) := by
  have h1 : encL ks ++ rest = numOf (nat0 (ks.length : Int)) ++ (numsL ks ++ rest) := by
    unfold encL
    rw [numsL_cons]
    simp [numsL]
  have h2 := intS_of (k := (ks.length : Int)) (top := 8) (numsL ks ++ rest) (by omega) (by omega) (by omega)
  have h3 : nat0 (ks.length : Int) = ks.length := by have := nat0_of (k := (ks.length : Int)) (by omega); omega
  unfold adrS
  rw [h1, h2, h3, adrN_of ks rest h ks.length (Nat.le_refl _), List.take_of_length_le (Nat.le_refl _), List.drop_of_length_le (Nat.le_refl _)]
  rfl
theorem decId_of {l : LV} {ps hs : List Int} (f : ChkF l ps hs) (hid : l.id.length = 32) (rest : List UInt8) : decId l.kind (idP l ++ rest, 0) = (l.id, (rest, 0)) := by
  unfold decId idP
  split
  · have h := bytesS_app l.id rest
    rw [hid] at h
    rw [show ((32 : Nat) : Int) = 32 from rfl] at h
    rw [h, nameOf_of l.id hid]
  · rename_i h
    rw [f.noid (by simpa using h)]
    rfl
theorem decLists_of {l : LV} {ps hs : List Int} (f : ChkF l ps hs) (rest : List UInt8) : decLists l.kind (listP l ps hs ++ rest, 0) = ((ps, hs), (rest, 0)) := by
  unfold decLists listP
  split
  · rw [List.append_assoc, adrS_of ps _ (fun k hk => f.adr k (by simp [hk])) f.pl, adrS_of hs _ (fun k hk => f.adr k (by simp [hk])) f.hl]
  · rename_i h
    obtain ⟨rfl, rfl⟩ := f.nolist (by simpa using h)
    rfl
theorem decWhat_of {l : LV} {ps hs : List Int} (f : ChkF l ps hs) (rest : List UInt8) : decWhat l.kind (whatP l ++ rest, 0) = (l.what, (rest, 0)) := by
  unfold decWhat whatP
  split
  · rename_i h
    obtain ⟨w1, w2⟩ := f.what h
    rw [numsL_cons, List.append_assoc, intS_of _ (by omega) w2 (by omega), nat0_of (by omega)]
    rfl
  · rename_i h
    rw [f.nowhat (by simpa using h)]
    rfl
theorem decText_of {l : LV} {ps hs : List Int} (f : ChkF l ps hs) : decText l.kind (textP l, 0) = (l.text, ([], 0)) := by
  unfold decText textP
  split
  · have h := strS_strOf l.text [] 512 (by have := f.tl; omega) (by have := f.tl; omega)
    rw [List.append_nil] at h
    rw [h]
  · rename_i h
    rw [f.notext (by simpa using h)]
theorem dec4_of {l : LV} {ps hs : List Int} (f : ChkF l ps hs) (rest : List UInt8) : dec4 (numsL [l.kind, l.fr, l.to, l.seq] ++ rest, 0) = ({ zeroL with kind := l.kind, fr := l.fr, to := l.to, seq := l.seq }, (rest, 0)) := by
  have h1 := f.kind
  have h2 := f.fr
  have h3 := f.to
  have h4 := f.seq
  unfold dec4
  simp only [numsL_cons, List.append_assoc]
  rw [intS_of _ (by omega) h1.2 (by omega)]
  simp only
  rw [intS_of _ (by omega) h2.2 (by omega)]
  simp only
  rw [intS_of _ (by omega) h3.2 (by omega)]
  simp only
  rw [intS_of _ (by omega) h4.2 (by omega), nat0_of (by omega), nat0_of (by omega), nat0_of (by omega), nat0_of (by omega)]
  rfl
/-- A letter's bytes read back. -/
theorem dec_body {l : LV} {ps hs : List Int} (h : chkL l ps hs = 0) (hid : l.id.length = 32) : decW (bodyL l ps hs, 0) = ({ l with pv := .slice none 0 0, hv := .slice none 0 0 }, (ps, hs), ([], 0)) := by
  have f := chk_facts h
  unfold decW bodyL
  rw [dec4_of f]
  simp only
  rw [decId_of f hid]
  simp only
  rw [decLists_of f]
  simp only
  rw [decWhat_of f]
  simp only
  rw [decText_of f]
  rfl
/-- Unlike letters have unlike bytes. -/
theorem bytes_apart {l m : LV} {ps hs qs gs : List Int} (h : chkL l ps hs = 0) (hid : l.id.length = 32) (h2 : chkL m qs gs = 0) (hid2 : m.id.length = 32) (he : bytesL l ps hs = bytesL m qs gs) :
    l.kind = m.kind ∧ l.fr = m.fr ∧ l.to = m.to ∧ l.seq = m.seq ∧ l.id = m.id ∧ l.what = m.what ∧ l.text = m.text ∧ ps = qs ∧ hs = gs := by
  have e1 := dec_body h hid
  have e2 := dec_body h2 hid2
  rw [bytes_body, bytes_body] at he
  have he2 : bodyL l ps hs = bodyL m qs gs := List.append_cancel_left he
  rw [he2, e2] at e1
  have e3 := (Prod.mk.inj e1).1
  have e4 := (Prod.mk.inj (Prod.mk.inj e1).2).1
  have e5 := Prod.mk.inj e4
  injection e3 with a1 a2 a3 a4 a5 a6 a7
  exact ⟨a1.symm, a2.symm, a3.symm, a4.symm, a5.symm, a6.symm, a7.symm, e5.1.symm, e5.2.symm⟩
end Go.Proofs.Ytbkknhlagohhhaa

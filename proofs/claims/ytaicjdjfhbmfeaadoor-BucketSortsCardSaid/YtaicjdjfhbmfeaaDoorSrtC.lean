/-
  Several texts in one: their sentences stand at their heads.
-/
import Derived.Test.YtaicjdjfhbmfeaaDoorSrtB
import Derived.Deep.DeepCutAuto
/-
  The reference's Sort (mathematics).
-/
namespace Go.Proofs.YtaicjdjfhbmfeaaDoor
open Go.RowKit Go.Sort Crv

/-- An address's key, seen from a goal. -/
def keyB (g : List UInt8) (n : Int) : List UInt8 := xorOf g (idN n) ++ [b8 n]
theorem length_keyB (g : List UInt8) (hg : g.length = 32) (n : Int) : (keyB g n).length = 33 := by
  unfold keyB
  rw [List.length_append, length_xorOf g _ hg (length_idN n)]
  rfl
def lsB (g : List UInt8) (n m : Int) : Bool := Op.bytesLess (keyB g n) (keyB g m)
theorem b8_lt {n m : Int} (hn : 0 ≤ n ∧ n < 64) (hm : 0 ≤ m ∧ m < 64) : b8 n < b8 m ↔ n < m := by
  have h1 := b8_nat n
  have h2 := b8_nat m
  rw [UInt8.lt_iff_toNat_lt]
  omega
theorem less_snoc {x y : List UInt8} (hx : x.length = 32) (hy : y.length = 32) (a b : UInt8) : Op.bytesLess (x ++ [a]) (y ++ [b]) = true ↔ Op.bytesLess x y = true ∨ (x = y ∧ a < b) := by
  rw [less_iff _ _ (by simp [hx, hy]), less_iff x y (by omega)]
  have gx : ∀ j, j < 32 → (x ++ [a]).getD j 0 = x.getD j 0 := fun j hj => by
    rw [List.getD_eq_getElem?_getD, List.getElem?_append_left (by omega), ← List.getD_eq_getElem?_getD]
  have gy : ∀ j, j < 32 → (y ++ [b]).getD j 0 = y.getD j 0 := fun j hj => by
    rw [List.getD_eq_getElem?_getD, List.getElem?_append_left (by omega), ← List.getD_eq_getElem?_getD]
  have lx : (x ++ [a]).getD 32 0 = a := by
    rw [List.getD_eq_getElem?_getD, List.getElem?_append_right (by omega), hx]; rfl
  have ly : (y ++ [b]).getD 32 0 = b := by
    rw [List.getD_eq_getElem?_getD, List.getElem?_append_right (by omega), hy]; rfl
  constructor
  · rintro ⟨k, hk, hlt, hb⟩
    rw [List.length_append, List.length_singleton, hx] at hk
    by_cases e : k < 32
    · rw [gx k e, gy k e] at hlt
      exact .inl ⟨k, by omega, hlt, fun j hj => by rw [← gx j (by omega), ← gy j (by omega)]; exact hb j hj⟩
    · have ek : k = 32 := by omega
      subst ek
      rw [lx, ly] at hlt
      exact .inr ⟨eq_of_same x y hx hy fun j hj => by rw [← gx j hj, ← gy j hj]; exact hb j hj, hlt⟩
  · rintro (⟨k, hk, hlt, hb⟩ | ⟨rfl, hlt⟩)
    · exact ⟨k, by rw [List.length_append, List.length_singleton]; omega, by rw [gx k (by omega), gy k (by omega)]; exact hlt, fun j hj => by rw [gx j (by omega), gy j (by omega)]; exact hb j hj⟩
    · exact ⟨32, by rw [List.length_append, List.length_singleton]; omega, by rw [lx, ly]; exact hlt, fun j hj => by rw [gx j hj, gy j hj]⟩
theorem lsB_iff (g : List UInt8) (hg : g.length = 32) {n m : Int} (hn : 0 ≤ n ∧ n < 64) (hm : 0 ≤ m ∧ m < 64) : lsB g n m = true ↔ ltP (plOf g hg n) (plOf g hg m) := by
  unfold lsB keyB ltP
  rw [less_snoc (length_xorOf g _ hg (length_idN n)) (length_xorOf g _ hg (length_idN m)), b8_lt hn hm, ← cmpOf_less _ _ (length_xorOf g _ hg (length_idN n)) (length_xorOf g _ hg (length_idN m)), decide_eq_true_iff]
  exact Iff.rfl
/-- An address put ahead of the first that is behind it. -/
def insB (g : List UInt8) (n : Int) : List Int → List Int
  | [] => [n]
  | q :: r => if lsB g n q = true then n :: q :: r else q :: insB g n r
theorem insB_cons (g : List UInt8) (n q : Int) (r : List Int) : insB g n (q :: r) = if lsB g n q = true then n :: q :: r else q :: insB g n r := rfl
def isortB (g : List UInt8) (xs : List Int) : List Int := xs.foldl (fun L n => insB g n L) []
theorem insB_perm (g : List UInt8) (n : Int) : ∀ L, (insB g n L).Perm (n :: L)
  | [] => List.Perm.refl _
  | q :: r => by
    unfold insB
    split
    · exact List.Perm.refl _
    · exact ((insB_perm g n r).cons q).trans (List.Perm.swap n q r)
theorem isortB_snoc (g : List UInt8) (xs : List Int) (n : Int) : isortB g (xs ++ [n]) = insB g n (isortB g xs) := by simp [isortB]
theorem isortB_perm (g : List UInt8) (xs : List Int) : (isortB g xs).Perm xs := by
  have : ∀ (xs L : List Int), (xs.foldl (fun L n => insB g n L) L).Perm (xs ++ L) := by
    intro xs
    induction xs with
    | nil => intro L; exact List.Perm.refl _
    | cons n r ih =>
      intro L
      refine (ih _).trans (((insB_perm g n L).append_left r).trans ?_)
      exact List.perm_middle
  have h := this xs []
  rwa [List.append_nil] at h
/-- How far the search for the place has gone. -/
def hasB (g : List UInt8) (n : Int) (L : List Int) : Bool := L.any (lsB g n)
def nxB (g : List UInt8) (n : Int) (L : List Int) : List Int := if hasB g n L = true then insB g n L else L
theorem insB_none (g : List UInt8) (n : Int) : ∀ (L R : List Int), hasB g n L = false → insB g n (L ++ R) = L ++ insB g n R
  | [], _, _ => rfl
  | q :: r, R, h => by
    have h1 : lsB g n q = false := by cases e : lsB g n q with
      | false => rfl
      | true => simp [hasB, e] at h
    have h2 : hasB g n r = false := by
      simp only [hasB, List.any_cons, h1, Bool.false_or] at h
      exact h
    rw [List.cons_append, insB_cons, h1, if_neg (by simp), insB_none g n r R h2]
    rfl
theorem insB_some (g : List UInt8) (n : Int) : ∀ (L R : List Int), hasB g n L = true → insB g n (L ++ R) = insB g n L ++ R
  | [], _, h => by cases h
  | q :: r, R, h => by
    rw [List.cons_append]
    unfold insB
    by_cases h1 : lsB g n q = true
    · rw [if_pos h1, if_pos h1]; rfl
    · rw [if_neg h1, if_neg h1]
      have h2 : hasB g n r = true := by
        simp only [hasB, List.any_cons, Bool.or_eq_true] at h
        exact h.resolve_left h1
      rw [insB_some g n r R h2]
      rfl
theorem nxB_step (g : List UInt8) (n q : Int) (L : List Int) : nxB g n (L ++ [q]) = if hasB g n L = false ∧ lsB g n q = true then (nxB g n L ++ [n]) ++ [q] else nxB g n L ++ [q] := by
  unfold nxB
  have ha : hasB g n (L ++ [q]) = (hasB g n L || lsB g n q) := by simp [hasB]
  rw [ha]
  cases h : hasB g n L with
  | true =>
    rw [if_pos (by rfl), if_neg (by simp), if_pos rfl, insB_some g n L [q] h]
  | false =>
    cases h2 : lsB g n q with
    | true =>
      rw [if_pos (by rfl), if_pos ⟨rfl, rfl⟩, if_neg (by simp), insB_none g n L [q] h]
      simp [insB, h2]
    | false => rw [if_neg (by simp), if_neg (by simp), if_neg (by simp)]
theorem insB_end (g : List UInt8) (n : Int) (L : List Int) : insB g n L = if hasB g n L = false then nxB g n L ++ [n] else nxB g n L := by
  unfold nxB
  cases h : hasB g n L with
  | true => rw [if_neg (by simp), if_pos rfl]
  | false =>
    rw [if_pos rfl, if_neg (by simp)]
    have := insB_none g n L [] h
    rw [List.append_nil] at this
    rw [this]
    rfl
theorem isortB_srt (g : List UInt8) (hg : g.length = 32) : ∀ xs : List Int, (∀ n ∈ xs, 0 ≤ n ∧ n < 64) → SrtP ((isortB g xs).map (plOf g hg)) := by
  have ins : ∀ (n : Int) (L : List Int), (0 ≤ n ∧ n < 64) → (∀ m ∈ L, 0 ≤ m ∧ m < 64) → SrtP (L.map (plOf g hg)) → SrtP ((insB g n L).map (plOf g hg)) := by
    intro n L hn
    induction L with
    | nil => intro _ _; exact List.pairwise_singleton _ _
    | cons q r ih =>
      intro hL hs
      have hq := hL q (by simp)
      have hs' := List.pairwise_cons.1 hs
      unfold insB
      by_cases h : lsB g n q = true
      · rw [if_pos h]
        have h1 := (lsB_iff g hg hn hq).1 h
        refine List.pairwise_cons.2 ⟨fun y hy => ?_, hs⟩
        rcases List.mem_cons.1 hy with rfl | hy
        · exact fun h2 => ltP_irrefl _ (ltP_trans h1 h2)
        · exact fun h2 => hs'.1 y hy (ltP_trans h2 h1)
      · rw [if_neg h]
        have h1 : ¬ ltP (plOf g hg n) (plOf g hg q) := fun e => h ((lsB_iff g hg hn hq).2 e)
        refine List.pairwise_cons.2 ⟨fun y hy => ?_, ih (fun m hm => hL m (by simp [hm])) hs'.2⟩
        obtain ⟨z, hz, rfl⟩ := List.mem_map.1 hy
        rcases List.mem_cons.1 ((insB_perm g n r).mem_iff.1 hz) with rfl | hz
        · exact h1
        · exact hs'.1 _ (List.mem_map_of_mem hz)
  intro xs hx
  have key : ∀ k, k ≤ xs.length → SrtP ((isortB g (xs.take k)).map (plOf g hg)) := by
    intro k
    induction k with
    | zero => intro _; exact List.Pairwise.nil
    | succ k ih =>
      intro hk
      rw [List.take_succ_eq_append_getElem hk, isortB_snoc]
      exact ins _ _ (hx _ (List.getElem_mem hk)) (fun m hm => hx m (List.mem_of_mem_take ((isortB_perm g _).mem_iff.1 hm))) (ih (by omega))
  have h := key xs.length (Nat.le_refl _)
  rw [List.take_length] at h
  exact h
/-- What is sorted so is sorted the reference's way. -/
theorem isortB_eq (g : List UInt8) (hg : g.length = 32) {xs : List Int} (hx : ∀ n ∈ xs, 0 ≤ n ∧ n < 64) {ps : List PL} (hp : ps.Perm (xs.map (plOf g hg))) (hs : SrtP ps) : (ps.map fun p => p.1.1) = isortB g xs := by
  have h := srt_one (hp.trans ((isortB_perm g xs).map (plOf g hg)).symm) hs (isortB_srt g hg xs hx)
  rw [h, List.map_map]
  have e : ((fun p : PL => p.1.1) ∘ plOf g hg) = id := rfl
  rw [e, List.map_id]
end Go.Proofs.YtaicjdjfhbmfeaaDoor

/-
  The reference's Sort: the walk.
-/
namespace Go.Proofs.YtaicjdjfhbmfeaaDoor
open Go.RowKit Crv

abbrev Tsr : TypeId := 9
abbrev Tsl : TypeId := 80
theorem str_infB : ∃ i, Tryd.prog.info? Tsr = some i ∧ i.zero = some (.string ⟨#[]⟩) ∧ i.size = 1 ∧ i.bytes = 16 := info_of (by kernel_rfl)
theorem Owns.rebaseB {w : World} {b b' : Nat} {e : TypeId} {v : Value} {xs : List Value} (h : Owns w b e v xs) (hb : b' ≤ b) : Owns w b' e v xs := by
  refine ⟨h.1, ?_⟩
  rcases h.2 with h0 | ⟨g, cap, cur, rfl, h1, h2, h3⟩
  · exact .inl h0
  · exact .inr ⟨g, cap, cur, rfl, Nat.le_trans hb h1, h2, h3⟩
/-- Two lists that grow: numbers, texts. -/
def Nk (W0 : World) (vN vK : Value) (L : List Int) (ks : List (List UInt8)) (w : World) : Prop := Owns w W0.heap.size Tin vN (L.map iv) ∧ Owns w W0.heap.size Tsr vK (ks.map tx) ∧ Below W0.heap.size W0 w
section
variable {W0 w w' : World} {vN vK v' : Value} {L L' : List Int} {ks ks' : List (List UInt8)}
theorem Nk.below (h : Nk W0 vN vK L ks w) (hb : Below w.heap.size w w') : Nk W0 vN vK L ks w' := ⟨h.1.below hb, h.2.1.below hb, belowThen h.2.2 hb⟩
theorem Nk.rebase {W1 : World} (h : Nk W0 vN vK L ks w) (hb : Below W1.heap.size W1 W0) : Nk W1 vN vK L ks w := ⟨Owns.rebaseB h.1 hb.size, Owns.rebaseB h.2.1 hb.size, belowThen hb h.2.2⟩
theorem Nk.num (h : Nk W0 vN vK L ks w) (ho : Owns w' W0.heap.size Tin v' (L'.map iv)) (hg : w.grownBy w' vN.ownBlock) : Nk W0 v' vK L' ks w' :=
  ⟨ho, h.2.1.of_below fun g hg' => hg.block g (h.2.1.lt g hg').1 (fun e => (owns_tag h.2.1 g hg').apart (owns_tag h.1 g e.symm) (by decide) rfl), below_own h.2.2 hg fun g hg' => (h.1.lt g hg').2⟩
theorem Nk.str (h : Nk W0 vN vK L ks w) (ho : Owns w' W0.heap.size Tsr v' (ks'.map tx)) (hg : w.grownBy w' vK.ownBlock) : Nk W0 vN v' L ks' w' :=
  ⟨h.1.of_below fun g hg' => hg.block g (h.1.lt g hg').1 (fun e => (owns_tag h.1 g hg').apart (owns_tag h.2.1 g e.symm) (by decide) rfl), ho, below_own h.2.2 hg fun g hg' => (h.2.1.lt g hg').2⟩
end
attribute [local go_sem] ByteArray.mk_append_mk
set_option maxHeartbeats 4000000 in
set_option maxRecDepth 100000 in
theorem refSort_any (g : List UInt8) (hg : g.length = 32) (v : Value) (xs : List Int) (W : World) (hv : Zs W v xs) (hx : ∀ n ∈ xs, 0 ≤ n ∧ n < 64) (hl : xs.length ≤ 1000) :
    Calls Tryd.prog 18 #[tx g, v] W fun e w' => ∃ u, e = .returned u ∧ Owns w' W.heap.size Tin u ((isortB g xs).map iv) ∧ Below W.heap.size W w' := by
  obtain ⟨a, cap, rfl, hk0⟩ := hv
  have HKS := Lib.hid (show Zs W (.slice a xs.length cap) xs from ⟨a, cap, rfl, hk0⟩)
  have HX := Lib.hid hx
  have HS0 : Hid (Nk W (.slice (some ⟨W.heap.size, 0, none⟩) 0 0) (.slice (some ⟨W.heap.size + 1, 0, none⟩) 0 0) (isortB g (xs.take 0)) ((isortB g (xs.take 0)).map (keyB g)) ((W.alloc (.cells #[] Tin)).alloc (.cells #[] Tsr))) := Lib.hid
    ⟨Owns.of_mem (cs := []) ((Mem.newAt W Tin [] rfl).alloc _) (Nat.le_refl _) 0 0 (Nat.le_refl _) rfl (by simp [maxLen]) rfl, Owns.of_mem (cs := []) (Mem.newAt (W.alloc (.cells #[] Tin)) Tsr [] (by simp)) (by omega) 0 0 (Nat.le_refl _) rfl (by simp [maxLen]) rfl, (belowSelf W _).alloc (by simp) _⟩
  clear hk0 hx
  go_enter Tryd.func18, Tryd.ntmps18
  go_wp2_with fail
  go_loopw [5, 6, 19] (fun v5 v6 i wr => ∃ k : Nat, k ≤ xs.length ∧ i = .int .i64 k ∧ Hid (Nk W v5 v6 (isortB g (xs.take k)) ((isortB g (xs.take k)).map (keyB g)) wr)) (fun _ _ i _ => xs.length - (intOf i).toNat)
  case atStart => exact ⟨0, by omega, rfl, HS0⟩
  case round =>
    obtain ⟨k, hk, rfl, HN⟩ := hrel
    clear HS0
    by_cases hlt : k < xs.length
    · obtain ⟨b, off, rfl, hkW⟩ := HKS.out.ats k hlt
      have hl1 : (k : Int) < (xs.length : Int) := by omega
      obtain ⟨n0, hn0⟩ : ∃ n0, n0 = xs.getD k 0 := ⟨_, rfl⟩
      rw [← hn0] at hkW
      have hkc := hkW wr HN.out.2.2
      have hn64 := HX.out n0 (by rw [hn0, List.getD_eq_getElem?_getD, List.getElem?_eq_getElem hlt]; exact List.getElem_mem hlt)
      obtain ⟨n, rfl⟩ : ∃ n : Nat, n0 = (n : Int) := ⟨n0.toNat, by omega⟩
      have HEND := Lib.hid (show isortB g (xs.take (k + 1)) = insB g n (isortB g (xs.take k)) by
        rw [List.take_succ_eq_append_getElem hlt, isortB_snoc]
        have e : xs[k] = (n : Int) := by rw [hn0, List.getD_eq_getElem?_getD, List.getElem?_eq_getElem hlt]; rfl
        rw [e])
      have hn256 : n < 256 := by omega
      have HI := Lib.hid (fun w => refID_any n hn256 w)
      have HXR := Lib.hid (fun w => refXor_any g (idN n) w hg (length_idN n))
      have HKB := Lib.hid (show keyB g n = xorOf g (idN n) ++ [b8 n] from rfl)
      have hb : (n : Int) = ((b8 (n : Int)).toNat : Int) := by rw [b8_nat]; omega
      have HST := Lib.hid (fun (w : World) (g' : Nat) (hm : Mem w g' 5 [.int .u8 (n : Int)]) => byteStr (n : Int) (b8 n) hb w hm)
      obtain ⟨L, hL⟩ : ∃ L, L = isortB g (xs.take k) := ⟨_, rfl⟩
      have HLX := Lib.hid (show L.length ≤ 1000 by
        rw [hL, (isortB_perm g _).length_eq, List.length_take]
        omega)
      rw [← hL] at HN HEND
      obtain ⟨c, hcc⟩ : ∃ c, c = b8 (n : Int) := ⟨_, rfl⟩
      obtain ⟨d5, hd5⟩ : ∃ d5, d5 = idN (n : Int) := ⟨_, rfl⟩
      obtain ⟨d6, hd6⟩ : ∃ d6, d6 = xorOf g d5 := ⟨_, rfl⟩
      simp only [← hcc] at HST HKB
      simp only [← hd5] at HI HXR HKB
      have hl6 : d6.length = 32 := by rw [hd6, hd5]; exact length_xorOf g _ hg (length_idN n)
      simp only [← hd6] at HXR HKB
      clear hL hcc hd5 hd6 hb hkW hn0 hn64
      have u0 : IntKind.u8.wrap (n : Int) = (n : Int) := by simp [IntKind.wrap, IntKind.bits, IntKind.signed]; omega
      have hcv : ∀ w : World, (convert 79 9 (.slice (some ⟨w.heap.size, 0, none⟩) 1 1)).run Tryd.prog (w.alloc (.cells #[.int .u8 (n : Int)] 5)) = .ok (.string (str [c])) (w.alloc (.cells #[.int .u8 (n : Int)] 5)) := fun w => HST.out _ _ (Mem.new w 5 [.int .u8 (n : Int)])
      have hcw := HST.out (wr.alloc (.cells #[.int .u8 (n : Int)] 5)).drew wr.heap.size (Mem.new wr 5 [.int .u8 (n : Int)]).drew
      have HWR := Lib.hid (show Below wr.heap.size wr wr.drew from below_drewN (Below.refl _ _) 1)
      go_upto_region 6 with fail
      go_cut [9] from 23 to 31 (fun v9 wx => v9 = tx (keyB g n) ∧ Hid (Below wr.heap.size wr wx))
      case first =>
        go_region_with (first
          | (go_at_call 39; refine (HI.out _).mono ?_; rintro e w1 ⟨rfl, hb1⟩; (first | have hc1 := HST.out w1 wr.heap.size ((Mem.new wr 5 [.int .u8 (n : Int)]).drew.below hb1 (Mem.new wr 5 [.int .u8 (n : Int)]).drew.lt) | skip))
          | (go_at_call 44; refine (HXR.out _).mono ?_; rintro e w2 ⟨rfl, hb2⟩; (first | have hc2 := HST.out w2 _ ((Mem.new w1 5 [.int .u8 (n : Int)]).below hb2 (Mem.new w1 5 [.int .u8 (n : Int)]).lt) | have hc2 := HST.out w2 wr.heap.size (((Mem.new wr 5 [.int .u8 (n : Int)]).drew.below hb1 (Mem.new wr 5 [.int .u8 (n : Int)]).drew.lt).below hb2 (Nat.lt_of_lt_of_le (Mem.new wr 5 [.int .u8 (n : Int)]).drew.lt hb1.size)) | skip))
          | fail)
        all_goals
          go_wp2_with fail
          go_meet
          refine ⟨by rw [HKB.out], Lib.hid ?_⟩
          first
            | exact belowThen (belowThen (belowThen HWR.out hb1) hb2) (belowSelf w2 _)
            | exact belowThen (belowThen (belowThen HWR.out hb1) (belowSelf w1 _)) hb2
            | exact belowThen (belowThen (below_drewN (belowSelf wr _) 1) hb1) hb2
            | exact belowThen (belowThen (belowThen HWR.out hb1) hb2) (below_drewN (Below.refl _ _) 0)
      case rest =>
        obtain ⟨rfl, HC6⟩ := hcut
        have HN6 := Lib.hid (HN.out.below HC6.out)
        obtain ⟨aO, cO, e5, -, -, -⟩ := HN6.out.1.form
        obtain ⟨aK, cK, e6, -, -, -⟩ := HN6.out.2.1.form
        rw [List.length_map] at e5
        rw [List.length_map, List.length_map] at e6
        subst e5
        subst e6
        obtain ⟨ti, hti, hz, hs1, hby⟩ := int_inf
        have HBY : ti.bytes ≤ 64 := by omega
        have HTI := Lib.hid hti
        have HZ := Lib.hid hz
        have HS1 := Lib.hid hs1
        obtain ⟨si, hsi, hsz, hss, hsb⟩ := str_infB
        have HSB : si.bytes ≤ 64 := by omega
        have HSI := Lib.hid hsi
        have HSZ := Lib.hid hsz
        have HSS := Lib.hid hss
        have HI0 : Hid (Nk wc (.slice (some ⟨wc.heap.size, 0, none⟩) 0 0) (.slice (some ⟨wc.heap.size + 1, 0, none⟩) 0 0) (nxB g n (L.take 0)) ((nxB g n (L.take 0)).map (keyB g)) ((wc.alloc (.cells #[] Tin)).alloc (.cells #[] Tsr))) := Lib.hid
          ⟨Owns.of_mem (cs := []) ((Mem.newAt wc Tin [] rfl).alloc _) (Nat.le_refl _) 0 0 (Nat.le_refl _) rfl (by simp [maxLen]) rfl, Owns.of_mem (cs := []) (Mem.newAt (wc.alloc (.cells #[] Tin)) Tsr [] (by simp)) (by omega) 0 0 (Nat.le_refl _) rfl (by simp [maxLen]) rfl, (belowSelf wc _).alloc (by simp) _⟩
        have HBW := Lib.hid (belowThen HN.out.2.2 HC6.out)
        clear hti hz hs1 hby hsi hsz hss hsb HN hkc
        go_wp2_with fail
        go_loopw [10, 11, 12, 36] (fun v10 v11 d i w7 => ∃ j : Nat, j ≤ L.length ∧ i = .int .i64 j ∧ d = .bool (hasB g n (L.take j)) ∧ Hid (Nk wc v10 v11 (nxB g n (L.take j)) ((nxB g n (L.take j)).map (keyB g)) w7)) (fun _ _ _ i _ => L.length - (intOf i).toNat)
        case atStart => exact ⟨0, by omega, rfl, rfl, HI0⟩
        case round =>
          obtain ⟨j, hj, rfl, rfl, HV⟩ := hrel
          clear HI0
          by_cases hjt : j < L.length
          · have hl2 : (j : Int) < (L.length : Int) := by omega
            have hlx : L.length ≤ 1000 := HLX.out
            obtain ⟨q, hq⟩ : ∃ q, q = L[j] := ⟨_, rfl⟩
            have HTK := Lib.hid (show L.take (j + 1) = L.take j ++ [q] by rw [List.take_succ_eq_append_getElem hjt, hq])
            obtain ⟨aO', cO', eO, -, -, hcO⟩ := (HN6.out.1.below HV.out.2.2).form
            obtain ⟨aK', cK', eK, -, -, hcK⟩ := (HN6.out.2.1.below HV.out.2.2).form
            injection eO with eO1 eO2 eO3
            injection eK with eK1 eK2 eK3
            subst eO1
            subst eK1
            clear eO2 eK2 eO3 eK3
            obtain ⟨gO, hgO, -, hcellO⟩ := hcO j (by rw [List.length_map]; exact hjt)
            obtain ⟨gK, hgK, -, hcellK⟩ := hcK j (by rw [List.length_map, List.length_map]; exact hjt)
            subst hgO
            subst hgK
            rw [List.getElem?_map, List.getElem?_eq_getElem hjt, Option.map_some, ← hq] at hcellO
            rw [List.getElem?_map, List.getElem?_map, List.getElem?_eq_getElem hjt, Option.map_some, Option.map_some, ← hq] at hcellK
            have HKC := Lib.hid (show ∀ w, Below wc.heap.size wc w → w.cell? ⟨gK, j, none⟩ = some (tx (keyB g q)) from by
              obtain ⟨a9, c9, e9, -, -, hc9⟩ := HN6.out.2.1.form
              injection e9 with e91 _ _
              obtain ⟨g9, hg9, -, hcell9⟩ := hc9 j (by rw [List.length_map, List.length_map]; exact hjt)
              have e92 := e91.trans hg9
              injection e92 with e93
              injection e93 with e94
              subst e94
              rw [List.getElem?_map, List.getElem?_map, List.getElem?_eq_getElem hjt, Option.map_some, Option.map_some, ← hq] at hcell9
              exact fun w hw => (World.cell?_of_block (w := wc) (w' := w) (a := ⟨gK, j, none⟩) (hw.block _ (World.block_lt_of_cell? wc _ hcell9))).trans hcell9)
            have HST2 := Lib.hid (nxB_step g n q (L.take j))
            rw [← HTK.out] at HST2
            have HLS := Lib.hid (show lsB g n q = Op.bytesLess (keyB g n) (keyB g q) from rfl)
            have HXL := Lib.hid (show (nxB g n (L.take j)).length ≤ 2000 by
              unfold nxB
              split
              · rw [(insB_perm g n _).length_eq, List.length_cons, List.length_take]; have := HLX.out; omega
              · rw [List.length_take]; have := HLX.out; omega)
            obtain ⟨has, hhas⟩ : ∃ b, b = hasB g n (L.take j) := ⟨_, rfl⟩
            have HHA := Lib.hid (show hasB g n (L.take (j + 1)) = (has || lsB g n q) by rw [HTK.out, hhas]; simp [hasB])
            rw [← hhas] at HST2 ⊢
            obtain ⟨ls, hls⟩ : ∃ b, b = lsB g n q := ⟨_, rfl⟩
            rw [← hls] at HST2 HHA HLS
            obtain ⟨X, hX⟩ : ∃ X, X = nxB g n (L.take j) := ⟨_, rfl⟩
            rw [← hX] at HV HST2 HXL
            clear hq hcO hcK hhas hls hX
            cases has with
            | true =>
              rw [if_neg (by simp)] at HST2
              go_wp2_with (first
                | (at_builtin
                   refine wp_append_gr (v := u10) (HV.out.1.alloc _) [iv q] (.tmp 59) (.tmp 61) Tis ti (iv 0) rfl rfl Tryd.underlying31 HTI.out HZ.out HS1.out HBY rfl rfl rfl (fun j u hu => cell_news_one _ _ _ j u hu) (by intro u hu; simp at hu; subst hu; rfl) (by rw [List.length_map]; have := HXL.out; simp; omega) (Nat.le_trans HV.out.2.2.size (belowSelf _ _).size) ?_
                   intro v3 w3 ho3 hg3 _
                   have HV3 := Lib.hid ((HV.out.below (belowSelf _ _)).num (L' := X ++ [q]) (by rw [List.map_append]; exact ho3) hg3)
                   have hcK3 := HKC.out w3 HV3.out.2.2
                   clear ho3 hg3)
                | (at_builtin
                   refine wp_append_gr (v := u11) (HV3.out.2.1.alloc _) [tx (keyB g q)] (.tmp 63) (.tmp 68) Tsl si (.string ⟨#[]⟩) rfl rfl Tryd.underlying80 HSI.out HSZ.out HSS.out HSB rfl rfl rfl (fun j u hu => cell_news_one _ _ _ j u hu) (by intro u hu; simp at hu; subst hu; rfl) (by rw [List.length_map, List.length_map]; have := HXL.out; simp; omega) (Nat.le_trans HV3.out.2.2.size (belowSelf _ _).size) ?_
                   intro v4 w4 ho4 hg4 _
                   have HV4 := Lib.hid ((HV3.out.below (belowSelf _ _)).str (ks' := (X ++ [q]).map (keyB g)) (by rw [List.map_append, List.map_append]; exact ho4) hg4)
                   clear ho4 hg4)
                | fail)
              rw [← HST2.out] at HV4
              exact ⟨⟨j + 1, by omega, by go_num, by rw [HHA.out]; rfl, HV4⟩, by simp [intOf]; omega⟩
            | false =>
              cases ls with
              | true =>
                rw [if_pos ⟨rfl, rfl⟩] at HST2
                have hless := HLS.out.symm
                go_wp2_with (first
                  | (at_builtin
                     refine wp_append_gr (v := u10) (HV.out.1.alloc _) [iv (n : Int)] (.tmp 51) (.tmp 53) Tis ti (iv 0) rfl rfl Tryd.underlying31 HTI.out HZ.out HS1.out HBY rfl rfl rfl (fun j u hu => cell_news_one _ _ _ j u hu) (by intro u hu; simp at hu; subst hu; rfl) (by rw [List.length_map]; have := HXL.out; simp; omega) (Nat.le_trans HV.out.2.2.size (belowSelf _ _).size) ?_
                     intro v1 w1 ho1 hg1 _
                     have HVa := Lib.hid ((HV.out.below (belowSelf _ _)).num (L' := X ++ [(n : Int)]) (by rw [List.map_append]; exact ho1) hg1)
                     have hcK1 := HKC.out w1 HVa.out.2.2
                     clear ho1 hg1)
                  | (at_builtin
                     refine wp_append_gr (v := u11) (HVa.out.2.1.alloc _) [tx (keyB g (n : Int))] (.tmp 55) (.tmp 57) Tsl si (.string ⟨#[]⟩) rfl rfl Tryd.underlying80 HSI.out HSZ.out HSS.out HSB rfl rfl rfl (fun j u hu => cell_news_one _ _ _ j u hu) (by intro u hu; simp at hu; subst hu; rfl) (by rw [List.length_map, List.length_map]; have := HXL.out; simp; omega) (Nat.le_trans HVa.out.2.2.size (belowSelf _ _).size) ?_
                     intro v2 w2 ho2 hg2 _
                     have HVb := Lib.hid ((HVa.out.below (belowSelf _ _)).str (ks' := (X ++ [(n : Int)]).map (keyB g)) (by rw [List.map_append, List.map_append]; exact ho2) hg2)
                     clear ho2 hg2)
                  | (at_builtin
                     refine wp_append_gr (v := v1) (HVb.out.1.alloc _) [iv q] (.tmp 59) (.tmp 61) Tis ti (iv 0) rfl rfl Tryd.underlying31 HTI.out HZ.out HS1.out HBY rfl rfl rfl (fun j u hu => cell_news_one _ _ _ j u hu) (by intro u hu; simp at hu; subst hu; rfl) (by rw [List.length_map]; have := HXL.out; simp; omega) (Nat.le_trans HVb.out.2.2.size (belowSelf _ _).size) ?_
                     intro v3 w3 ho3 hg3 _
                     have HV3 := Lib.hid ((HVb.out.below (belowSelf _ _)).num (L' := (X ++ [(n : Int)]) ++ [q]) (by rw [List.map_append]; exact ho3) hg3)
                     have hcK3 := HKC.out w3 HV3.out.2.2
                     clear ho3 hg3)
                  | (at_builtin
                     refine wp_append_gr (v := v2) (HV3.out.2.1.alloc _) [tx (keyB g q)] (.tmp 63) (.tmp 68) Tsl si (.string ⟨#[]⟩) rfl rfl Tryd.underlying80 HSI.out HSZ.out HSS.out HSB rfl rfl rfl (fun j u hu => cell_news_one _ _ _ j u hu) (by intro u hu; simp at hu; subst hu; rfl) (by rw [List.length_map, List.length_map]; have := HXL.out; simp; omega) (Nat.le_trans HV3.out.2.2.size (belowSelf _ _).size) ?_
                     intro v4 w4 ho4 hg4 _
                     have HV4 := Lib.hid ((HV3.out.below (belowSelf _ _)).str (ks' := ((X ++ [(n : Int)]) ++ [q]).map (keyB g)) (by rw [List.map_append, List.map_append]; exact ho4) hg4)
                     clear ho4 hg4)
                  | fail)
                rw [← HST2.out] at HV4
                exact ⟨⟨j + 1, by omega, by go_num, by rw [HHA.out]; rfl, HV4⟩, by simp [intOf]; omega⟩
              | false =>
                rw [if_neg (by simp)] at HST2
                have hless := HLS.out.symm
                go_wp2_with (first
                | (at_builtin
                   refine wp_append_gr (v := u10) (HV.out.1.alloc _) [iv q] (.tmp 59) (.tmp 61) Tis ti (iv 0) rfl rfl Tryd.underlying31 HTI.out HZ.out HS1.out HBY rfl rfl rfl (fun j u hu => cell_news_one _ _ _ j u hu) (by intro u hu; simp at hu; subst hu; rfl) (by rw [List.length_map]; have := HXL.out; simp; omega) (Nat.le_trans HV.out.2.2.size (belowSelf _ _).size) ?_
                   intro v3 w3 ho3 hg3 _
                   have HV3 := Lib.hid ((HV.out.below (belowSelf _ _)).num (L' := X ++ [q]) (by rw [List.map_append]; exact ho3) hg3)
                   have hcK3 := HKC.out w3 HV3.out.2.2
                   clear ho3 hg3)
                | (at_builtin
                   refine wp_append_gr (v := u11) (HV3.out.2.1.alloc _) [tx (keyB g q)] (.tmp 63) (.tmp 68) Tsl si (.string ⟨#[]⟩) rfl rfl Tryd.underlying80 HSI.out HSZ.out HSS.out HSB rfl rfl rfl (fun j u hu => cell_news_one _ _ _ j u hu) (by intro u hu; simp at hu; subst hu; rfl) (by rw [List.length_map, List.length_map]; have := HXL.out; simp; omega) (Nat.le_trans HV3.out.2.2.size (belowSelf _ _).size) ?_
                   intro v4 w4 ho4 hg4 _
                   have HV4 := Lib.hid ((HV3.out.below (belowSelf _ _)).str (ks' := (X ++ [q]).map (keyB g)) (by rw [List.map_append, List.map_append]; exact ho4) hg4)
                   clear ho4 hg4)
                | fail)
                rw [← HST2.out] at HV4
                exact ⟨⟨j + 1, by omega, by go_num, by rw [HHA.out]; rfl, HV4⟩, by simp [intOf]; omega⟩
          · have hl2 : ¬ (j : Int) < (L.length : Int) := by omega
            have hjl : j = L.length := by omega
            subst hjl
            rw [List.take_length] at HV ⊢
            have hlx : xs.length ≤ 1000 := hl
            have HXL := Lib.hid (show (nxB g n L).length ≤ 2000 by
              unfold nxB
              split
              · rw [(insB_perm g n _).length_eq, List.length_cons]; have := HLX.out; omega
              · have := HLX.out; omega)
            have HIE := Lib.hid (insB_end g n L)
            obtain ⟨has, hhas⟩ : ∃ b, b = hasB g n L := ⟨_, rfl⟩
            rw [← hhas] at HIE ⊢
            obtain ⟨X, hX⟩ : ∃ X, X = nxB g n L := ⟨_, rfl⟩
            rw [← hX] at HV HIE HXL
            clear hhas hX
            cases has with
            | true =>
              rw [if_neg (by simp), ← HEND.out] at HIE
              have HF : Hid (Nk W u10 u11 (isortB g (xs.take (k + 1))) ((isortB g (xs.take (k + 1))).map (keyB g)) wr) := Lib.hid (by rw [HIE.out]; exact HV.out.rebase HBW.out)
              go_wp2_with fail
              exact ⟨⟨k + 1, by omega, by go_num, HF⟩, by simp [intOf]; omega⟩
            | false =>
              rw [if_pos rfl, ← HEND.out] at HIE
              go_wp2_with (first
                | (at_builtin
                   refine wp_append_gr (v := u10) (HV.out.1.alloc _) [iv (n : Int)] (.tmp 73) (.tmp 75) Tis ti (iv 0) rfl rfl Tryd.underlying31 HTI.out HZ.out HS1.out HBY rfl rfl rfl (fun j u hu => cell_news_one _ _ _ j u hu) (by intro u hu; simp at hu; subst hu; rfl) (by rw [List.length_map]; have := HXL.out; simp; omega) (Nat.le_trans HV.out.2.2.size (belowSelf _ _).size) ?_
                   intro v1 w1 ho1 hg1 _
                   have HVa := Lib.hid ((HV.out.below (belowSelf _ _)).num (L' := X ++ [(n : Int)]) (by rw [List.map_append]; exact ho1) hg1)
                   clear ho1 hg1)
                | (at_builtin
                   refine wp_append_gr (v := u11) (HVa.out.2.1.alloc _) [tx (keyB g (n : Int))] (.tmp 77) (.tmp 79) Tsl si (.string ⟨#[]⟩) rfl rfl Tryd.underlying80 HSI.out HSZ.out HSS.out HSB rfl rfl rfl (fun j u hu => cell_news_one _ _ _ j u hu) (by intro u hu; simp at hu; subst hu; rfl) (by rw [List.length_map, List.length_map]; have := HXL.out; simp; omega) (Nat.le_trans HVa.out.2.2.size (belowSelf _ _).size) ?_
                   intro v2 w2 ho2 hg2 _
                   have HVb := Lib.hid ((HVa.out.below (belowSelf _ _)).str (ks' := (X ++ [(n : Int)]).map (keyB g)) (by rw [List.map_append, List.map_append]; exact ho2) hg2)
                   clear ho2 hg2)
                | fail)
              have HF : Hid (Nk W v1 v2 (isortB g (xs.take (k + 1))) ((isortB g (xs.take (k + 1))).map (keyB g)) w2) := Lib.hid (by rw [HIE.out]; exact HVb.out.rebase HBW.out)
              exact ⟨⟨k + 1, by omega, by go_num, HF⟩, by simp [intOf]; omega⟩
    · have hl1 : ¬ (k : Int) < (xs.length : Int) := by omega
      have hkn : k = xs.length := by omega
      subst hkn
      rw [List.take_length] at HN
      go_wp2_with fail
      go_ret
      exact ⟨_, rfl, HN.out.1, HN.out.2.2⟩
end Go.Proofs.YtaicjdjfhbmfeaaDoor

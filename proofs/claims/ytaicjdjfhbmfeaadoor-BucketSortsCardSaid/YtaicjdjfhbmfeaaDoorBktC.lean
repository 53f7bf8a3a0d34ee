/-
  Several texts in one: their sentences stand at their heads.
-/
import Derived.Test.YtaicjdjfhbmfeaaDoorBktB
import Derived.Test.YtaicjdjfhbmfeaaDoorOid9
import Derived.Test.YtaicjdjfhbmfeaaDoorNam
import Derived.Test.YtaicjdjfhbmfeaaDoorBase
import Derived.Deep.QuietTactic
import Derived.BigQuiet
/-
  Package bucket: ID; the bucket of an address.
-/
namespace Go.Proofs.YtaicjdjfhbmfeaaDoor
open Go.RowKit Crv

/-- The byte of an address. -/
def b8 (n : Int) : UInt8 := UInt8.ofNat (n % 256).toNat
theorem b8_nat (n : Int) : ((b8 n).toNat : Int) = n % 256 := by
  unfold b8
  rw [UInt8.toNat_ofNat']
  omega
set_option maxHeartbeats 1000000 in
set_option maxRecDepth 100000 in
theorem id_any (n : Int) (w : World) (hc : Consts w) : Calls Tryd.prog 26 #[iv n] w fun e w' => e = .returned (.agg ((idN n).map byteV).toArray) ∧ Below w.heap.size w w' := by
  have HB := Lib.hid (b8_nat n)
  have HF := Lib.hid (show ∀ v W, StrSlice W v [[b8 n]] → Consts W → Calls Tryd.prog 54 #[.int .i64 4, v] W fun e w' => e = .returned (.agg ((idN n).map byteV).toArray) ∧ Below W.heap.size W w' from fun v W hv hc => ofOid_any 4 (by omega) v [[b8 n]] W hc hv (by simp) (by simp))
  have HL := Lib.hid (length_idN n)
  obtain ⟨x, hx⟩ : ∃ x, x = idN n := ⟨_, rfl⟩
  rw [← hx] at HL ⊢
  simp only [← hx] at HF
  clear hx
  obtain ⟨c, hcc⟩ : ∃ c, c = b8 n := ⟨_, rfl⟩
  rw [← hcc] at HB
  simp only [← hcc] at HF
  clear hcc
  have SZ := Lib.hid (sz_id x HL.out)
  have HZ := Lib.hid (show (List.replicate 32 (byteV 0)).length = (x.map byteV).length by rw [List.length_map, HL.out]; rfl)
  have ONE := Lib.hid (oneBytes x)
  have HST := Lib.hid (fun (W : World) (g : Nat) (hg : g = W.heap.size) => byteStr (n % 256) c HB.out.symm (W.alloc (.cells #[.int .u8 (n % 256)] 5)) (g := g) (Mem.newAt W 5 [.int .u8 (n % 256)] hg))
  have HC := Lib.hid hc
  clear hc
  have hst := HST.out (w.alloc (.cells zs32 TI)) (w.heap.size + 1) (by simp)
  go_enter Tryd.func26, Tryd.ntmps26
  go_wp2_with fail
  have HB2 := Lib.hid (((belowSelf w (.cells zs32 TI)).alloc (by simp) (.cells #[.int .u8 (n % 256)] 5)).alloc (by simp; omega) (.cells #[tx [c]] 9))
  have HC2 := Lib.hid (HC.out.below HB2.out)
  have HV2 := Lib.hid (show StrSlice (((w.alloc (.cells zs32 TI)).alloc (.cells #[.int .u8 (n % 256)] 5)).alloc (.cells #[tx [c]] 9)) (.slice (some ⟨w.heap.size + 1 + 1, 0, none⟩) 1 1) [[c]] from ⟨_, 1, rfl, fun i hi => ⟨w.heap.size + 1 + 1, 0, rfl, by
    have hm := Mem.newAt (g := w.heap.size + 1 + 1) ((w.alloc (.cells zs32 TI)).alloc (.cells #[.int .u8 (n % 256)] 5)) 9 [tx [c]] (by simp)
    have h0 : i = 0 := by simp at hi; exact hi
    subst h0
    exact hm.cell 0⟩⟩)
  have HM0 := Lib.hid (show Mem (((w.alloc (.cells zs32 TI)).alloc (.cells #[.int .u8 (n % 256)] 5)).alloc (.cells #[tx [c]] 9)) w.heap.size TI (List.replicate 32 (byteV 0)) from ((Mem.newAt w TI (List.replicate 32 (byteV 0)) rfl).alloc _).alloc _)
  refine (HF.out _ _ HV2.out HC2.out).mono ?_
  rintro e w1 ⟨rfl, hb1⟩
  have HM1 := Lib.hid (HM0.out.below hb1 HM0.out.lt)
  have HB3 := Lib.hid (belowThen HB2.out hb1)
  clear hb1
  go_wp2_with (first
    | (refine wp_store_mem HM1.out (x.map byteV) TI (.tmp 2) (.tmp 8) rfl rfl rfl rfl SZ.out HZ.out ONE.out ?_)
    | fail)
  exact bodyPost_ret (v := .agg (x.map byteV).toArray) (results_mem (HM1.out.setRow _) rfl _ (.array 32 5) rfl Tryd.underlying36 rfl SZ.out) rfl ⟨rfl, below_row HB3.out (Nat.le_refl _) _⟩
end Go.Proofs.YtaicjdjfhbmfeaaDoor

/-
  Regions that draw their order, whose operations read, and whose callees may lay blocks of their own (contracts of the form Below): one walk, in the order of the text.
-/
namespace Go.Proofs.YtaicjdjfhbmfeaaDoor
open Go.RowKit Crv

/-- A world behind w: what was there stands. -/
structure Bw (w : World) where
  W : World
  h : Below w.heap.size w W
instance (w : World) : Inhabited (Bw w) := ⟨⟨w, Below.refl _ _⟩⟩
theorem wp_region_bw {P : Program} {id : Nat} {Q : Exit → Act → World → Prop} {a : Act} {w : World} {l : List Oper} (hm : P.follows .mixedOrders = true) (hB : Region.lexB .any l.toArray = true)
    (h : wpQuiet P l.toArray (fun w' => ∃ p : Bw w, w' = p.W) (fun a' => ∀ w', (∃ p : Bw w, w' = p.W) → Q .normal a' w') l a) : (Code.region id l.toArray true).wp P Q a w :=
  wp_region_quiet (C := fun w' => ∃ p : Bw w, w' = p.W) hm hB ⟨⟨w.drew, ⟨rfl, rfl, rfl, Nat.le_refl _, fun _ _ => rfl⟩⟩, rfl⟩ (by simpa using h)
theorem Bw.call {P : Program} {f : FuncId} {args : Array Value} {w : World} {p : Bw w} {v : Value} (h : Calls P f args p.W fun e w' => e = .returned v ∧ Below p.W.heap.size p.W w') : Calls P f args p.W fun e w' => e = .returned v ∧ ∃ q : Bw w, w' = q.W :=
  h.mono fun _ _ h => ⟨h.1, ⟨⟨_, belowThen p.h h.2⟩, rfl⟩⟩
end Go.Proofs.YtaicjdjfhbmfeaaDoor

/-
  Package bucket: the bucket of an address, Knows, Own, New.
-/
namespace Go.Proofs.YtaicjdjfhbmfeaaDoor
open Go.RowKit Crv

section
variable {P : Program} {ops : Array Oper} {rest : List Oper} {o : Oper} {a : Act} {w : World} {Q : Exit → Act → World → Prop} {base : Nat} {e : TypeId} {v : Value} {xs : List Value}
/-- append(s, x..) at a plain region's list: what is turned, and where the row lies then. -/
theorem wp_append_gr (hown : Owns w base e v xs) (news : List Value) (s x : Operand) (t : TypeId) (i : TypeInfo) (z : Value) (hgd : o.guard = none) (ho : o.op = .call { callee := .builtin .append, args := #[s, x], argTypes := #[t, t] })
    (ht : P.underlying t = some (.slice e)) (hi : P.info? e = some i) (hz : i.zero = some z) (hsize : i.size = 1) (hby : i.bytes ≤ 64) (hzs : z.cells.size = 1)
    (hs : a.eval s = v) {g c : Nat} (hx : a.eval x = .slice (some ⟨g, 0, none⟩) news.length c) (hnews : ∀ j u, news[j]? = some u → w.cell? ⟨g, j, none⟩ = some u) (h1 : ∀ u ∈ news, u.oneCell' = true)
    (hlen : xs.length + news.length ≤ 1099511627776) (hbase : base ≤ w.heap.size)
    (h : ∀ v' w', Owns w' base e v' (xs ++ news) → w.grownBy w' v.ownBlock → (v'.ownBlock = v.ownBlock ∨ v'.ownBlock = some w.heap.size) → wpList P ops Q rest (a.put o.dst v') w') : wpList P ops Q (o :: rest) a w := by
  refine wpList_plain hgd fun K hK => ?_
  obtain ⟨v', w', hr, h2, h3, h4, h5⟩ := run_append_keep (P := P) hown news t o.type i z ht hi hz hsize hby hzs (c := c) hnews h1 hlen hbase
  unfold Oper.wp execOp
  simp only [ho, resolve, invoke, builtin, Sem.run_bind, Sem.run_pure, Result.andThen_ok, List.map_toArray, List.map_cons, List.map_nil, hs, hx, hr]
  exact hK _ _ (h v' w' h2 h3 h4)
end
section
variable {W W' : World} {tb : Nat} {sv : Nat → Value} {x : BS} {F : Nat → Prop}
theorem Tbl.ld (h : Tbl W tb sv x) : (ldRow TI (.pointer (some ⟨tb, 1, none⟩))).run Tryd.prog W = .ok (.agg (x.a.map byteV).toArray) W :=
  run_loadAt_mid _ tb 1 TI (x.a.map byteV) (.array 32 5) h.name Tryd.underlying36 rfl (sz_id x.a h.len)
attribute [local go_sem ↓] ld_id
set_option maxHeartbeats 1000000 in
set_option maxRecDepth 100000 in
theorem bucket_any (h : Tbl W tb sv x) (hc : Consts W) (n : Int) : Calls Tryd.prog 46 #[.pointer (some ⟨tb, 0, none⟩), iv n] W fun e w' =>
    e = .returned (.pointer (some ⟨tb, 33 + rowB x n * 2, none⟩)) ∧ Below W.heap.size W w' := by
  have HLD := Lib.hid (fun p : Bw W => (h.below p.h).ld)
  have HID := Lib.hid (fun p : Bw W => id_any n p.W (hc.below p.h))
  have HSH := Lib.hid (fun p : Bw W => shared_any x.a (idN n) p.W h.len (length_idN n))
  have hr : sharedOf x.a (idN n) = rowB x n := rfl
  rw [hr] at HSH
  clear hr
  have hle := rowB_le x n
  obtain ⟨k, hk⟩ : ∃ k, k = rowB x n := ⟨_, rfl⟩
  rw [← hk] at HSH hle ⊢
  clear hk
  have h0 : (0 : Int) ≤ (k : Int) ∧ (k : Int) < 257 := by omega
  have h1 : k < 257 := by omega
  clear h hc
  go_enter Tryd.func46, Tryd.ntmps46
  go_wp2_with fail
  have hld := HLD.out
  refine wp_region_bw (by kernel_rfl) (by kernel_rfl) ?_
  repeat (quiet_step ((first
    | (go_at_call 26; rename_i p; exact Bw.call (HID.out p))
    | (go_at_call 27; rename_i p; exact Bw.call (HSH.out p)))))
  refine wpQuiet_nil ?_
  rintro _ ⟨p, rfl⟩
  have HP := Lib.hid p.h
  obtain ⟨w1, hw1⟩ : ∃ w1, w1 = p.W := ⟨_, rfl⟩
  rw [← hw1] at HP ⊢
  clear hw1 p
  rename_i K hK
  refine hK _ _ ?_
  go_wp2_with fail
  go_ret
  exact ⟨rfl, HP.out⟩
theorem own_any (h : Tbl W tb sv x) : Calls Tryd.prog 16 #[.pointer (some ⟨tb, 0, none⟩)] W fun e w' => e = .returned (iv x.own) ∧ w' = W := by
  have h0 := h.ownc
  clear h
  go_enter Tryd.func16, Tryd.ntmps16
  go_wp2_with fail
  go_ret
  exact ⟨rfl, rfl⟩
set_option maxRecDepth 100000 in
theorem knows_any (h : Tbl W tb sv x) (hc : Consts W) (n : Int) : Calls Tryd.prog 20 #[.pointer (some ⟨tb, 0, none⟩), iv n] W fun e w' =>
    e = .returned (.bool (knowsT x n)) ∧ Below W.heap.size W w' := by
  have HB := Lib.hid (bucket_any h hc n)
  have HT := Lib.hid h
  have hkn : knowsT x n = decide (n ∈ x.K (rowB x n)) := rfl
  have hle := rowB_le x n
  rw [hkn]
  obtain ⟨k, hk⟩ : ∃ k, k = rowB x n := ⟨_, rfl⟩
  rw [← hk] at HB hle ⊢
  clear hk hkn h hc
  go_enter Tryd.func20, Tryd.ntmps20
  go_wp2_with fail
  refine HB.out.mono ?_
  rintro e w1 ⟨rfl, hb⟩
  have hT := HT.out.below hb
  have hc := hT.cell (k * 2) (by omega)
  have hO := hT.own (k * 2) (by omega)
  rw [lstB_K] at hO
  have HI := Lib.hid (contains_any hO (by have := hT.k4 k; omega) n)
  obtain ⟨a, cap, hs, -, -, -⟩ := hO.form
  rw [hs] at hc HI
  simp only [List.length_map] at hc HI
  have HBB := Lib.hid hb
  clear hT hO hs HT hb
  go_wp2_with fail
  refine HI.out.mono ?_
  rintro e w2 ⟨rfl, rfl⟩
  go_wp2_with fail
  go_ret
  exact ⟨rfl, HBB.out⟩
end
end Go.Proofs.YtaicjdjfhbmfeaaDoor

/-
  Package bucket: heard.
-/
namespace Go.Proofs.YtaicjdjfhbmfeaaDoor
open Go.RowKit Crv

section
variable {W W' : World} {tb : Nat} {sv : Nat → Value} {x : BS} {F : Nat → Prop}
/-- A list turned, and something laid behind it. -/
theorem grown_three {a b c d : World} {r : Option Nat} (h1 : a.grownBy b r) (h2 : Below b.heap.size b c) (h3 : c.grownBy d r) : a.grownBy d r := grown_trans (grown_below h1 h2) h3
theorem Tbl.nilQ (h : Tbl W tb sv x) {k : Nat} (hk : k < 257) : Tbl (W.setCell ⟨tb, 33 + (k * 2 + 1), none⟩ (.slice none 0 0)) tb (updV sv (k * 2 + 1) (.slice none 0 0)) (putB x k (x.K k) []) :=
  h.putQ hk (v' := .slice none 0 0) (Q := []) (Owns.nil _ _ _) (by simp) (grownRefl _ _) (fun g hg => by cases hg)
theorem foot_nil {j0 : Nat} : ∀ b, FootB tb (updV sv j0 (.slice none 0 0)) b → FootB tb sv b := by
  rintro b (rfl | ⟨j, hj, ho⟩)
  · exact .inl rfl
  · by_cases e : j = j0
    · subst e
      rw [updV_same] at ho
      cases ho
    · rw [updV_other _ _ e] at ho
      exact .inr ⟨j, hj, ho⟩
set_option maxHeartbeats 1000000 in
set_option maxRecDepth 100000 in
theorem heard_in (h : Tbl W tb sv x) (hF : ∀ b, FootB tb sv b → F b) {k : Nat} (hk : k < 257) {n : Int} (hm : n ∈ x.K k) : Calls Tryd.prog 47 #[.pointer (some ⟨tb, 33 + k * 2, none⟩), iv n] W fun e w' =>
    e = .returned (.tuple #[iv 0, .bool false]) ∧ Bx w' (And_new F W) tb (putB x k (heardB (x.K k) (x.Q k) n).1 (heardB (x.K k) (x.Q k) n).2.1) ∧ Fr F W w' := by
  have hO := h.own (k * 2) (by omega)
  rw [lstB_K] at hO
  have h4 := h.k4 k
  have HI := Lib.hid (index_any hO (by omega) n)
  obtain ⟨i, hi⟩ : ∃ i, i = (x.K k).idxOf n := ⟨_, rfl⟩
  have hidx : idxI (x.K k) n = (i : Int) := by unfold idxI; rw [if_pos hm, hi]
  have hil : i < (x.K k).length := by rw [hi]; exact List.idxOf_lt_length_iff.2 hm
  have e : heardB (x.K k) (x.Q k) n = ((x.K k).eraseIdx i ++ [n], if i = 0 then [] else x.Q k, none) := by unfold heardB; rw [if_pos hm, hi]
  rw [e]
  rw [hidx] at HI
  have HD := Lib.hid (delete_any hO i hil)
  have hel : ((x.K k).eraseIdx i).length + 1 = (x.K k).length := by rw [List.length_eraseIdx_of_lt hil]; omega
  obtain ⟨L1, hL1⟩ : ∃ L1, L1 = (x.K k).eraseIdx i := ⟨_, rfl⟩
  rw [← hL1] at HD hel ⊢
  have HEL := Lib.hid (show (L1 ++ [n]).length ≤ 4 by rw [List.length_append]; simp; omega)
  have HLEN := Lib.hid (show (L1.map iv).length + [iv n].length ≤ 1099511627776 by rw [List.length_map]; simp; omega)
  have HONE := Lib.hid (show ∀ u ∈ [iv n], u.oneCell' = true by intro u hu; simp at hu; subst hu; rfl)
  have hcK := h.cell (k * 2) (by omega)
  have hi4 : i < 4 := by omega
  obtain ⟨a, cap, hs, -, -, -⟩ := hO.form
  rw [hs] at hcK HI HD
  simp only [List.length_map] at hcK HI HD hs
  have HS := Lib.hid hs
  have HT := Lib.hid h
  have HFF := Lib.hid hF
  obtain ⟨ti, hti, hz, hs1, hby⟩ := int_inf
  have HBY : ti.bytes ≤ 64 := by omega
  have HTI := Lib.hid hti
  have HZ := Lib.hid hz
  have HS1 := Lib.hid hs1
  have HK := Lib.hid hk
  have HK5 : k * 2 < 514 := by omega
  clear h hF e hO hs hi hidx hil hel h4 hti hz hs1 hby hm hL1 hk
  go_enter Tryd.func47, Tryd.ntmps47
  go_wp2_with fail
  refine HI.out.mono ?_
  rintro e w' ⟨rfl, rfl⟩
  have hi0 : decide ((0 : Int) ≤ (i : Int)) = true := by simp
  go_wp2_with fail
  refine HD.out.mono ?_
  rintro e w1 ⟨v1, rfl, ho1, hg1, hb1⟩
  have hf1 := ho1.form
  rw [List.length_map] at hf1
  obtain ⟨a1, c1, rfl, -, -, -⟩ := hf1
  have HO1 := Lib.hid ho1
  have HG1 := Lib.hid hg1
  have HB1 := Lib.hid hb1
  clear ho1 hg1 hb1 hcK
  by_cases h0 : i = 0
  · subst h0
    go_wp2_with (first
      | (at_builtin; refine wp_append_gr (v := .slice a1 L1.length c1) (HO1.out.alloc _) [iv n] (.tmp 24) (.tmp 26) Tis ti (iv 0) rfl rfl Tryd.underlying31 HTI.out HZ.out HS1.out HBY rfl rfl rfl (fun j u hu => cell_news_one _ _ _ j u hu) HONE.out HLEN.out (Nat.zero_le _) ?_
         intro v3 w3 hown3 hg3 hat3
         have hf3 := hown3.form
         rw [List.length_append, List.length_map] at hf3
         obtain ⟨a3, c3, rfl, -, -, -⟩ := hf3
         have HO3 := Lib.hid (show Owns w3 0 Tin (.slice a3 (L1.length + [iv n].length) c3) ((L1 ++ [n]).map iv) by rw [List.map_append]; exact hown3)
         have HG3 := Lib.hid (show W.grownBy w3 (sv (k * 2)).ownBlock by rw [HS.out, ← HB1.out]; exact grown_three (HB1.out ▸ HG1.out) (belowSelf w1 _) hg3)
         have HAT3 := Lib.hid (show ∀ g, (Value.slice a3 (L1.length + [iv n].length) c3).ownBlock = some g → (sv (k * 2)).ownBlock = some g ∨ W.heap.size ≤ g from fun g hg => by
           rcases hat3 with e | e
           · rw [HS.out, ← HB1.out, ← e]; exact .inl hg
           · rw [e] at hg
             injection hg with hg
             subst hg
             exact .inr (Nat.le_trans HG1.out.size (belowSelf w1 _).size))
         obtain ⟨⟨hc3, hz3⟩⟩ : Nonempty (PProd (w3.cell? ⟨tb, 33 + k * 2, none⟩ = some (.slice a (x.K k).length cap)) (w3.frozen? ⟨tb, 33 + k * 2, none⟩ = false)) := by
           have h3 := HT.out.atj HK5 HK5 HG3.out
           rw [HS.out] at h3
           exact ⟨⟨h3.1, h3.2⟩⟩
         have HT4 := Lib.hid (HT.out.putK HK.out HO3.out HEL.out HG3.out HAT3.out)
         have HF4 := Lib.hid (foot_put (W := W) (F := F) HFF.out HAT3.out HK5)
         have HR4 := Lib.hid (fr_put (v' := .slice a3 (L1.length + [iv n].length) c3) HFF.out HK5 (33 + k * 2) HG3.out)
         obtain ⟨⟨hc4, hz4⟩⟩ : Nonempty (PProd ((w3.setCell ⟨tb, 33 + k * 2, none⟩ (.slice a3 (L1.length + 1) c3)).cell? ⟨tb, 33 + k * 2 + 1, none⟩ = some (updV sv (k * 2) (.slice a3 (L1.length + 1) c3) (k * 2 + 1))) ((w3.setCell ⟨tb, 33 + k * 2, none⟩ (.slice a3 (L1.length + 1) c3)).frozen? ⟨tb, 33 + k * 2 + 1, none⟩ = false)) :=
           ⟨⟨HT4.out.cell (k * 2 + 1) (by omega), HT4.out.tag.frozen _⟩⟩
         clear hown3 hg3 hat3)
      | fail)
    go_ret2
    have h5 := HT4.out.nilQ HK.out
    rw [K_put, putB_put] at h5
    exact ⟨rfl, ⟨_, h5, fun b hb => HF4.out b (foot_nil b hb)⟩, HR4.out.trans (Fr.set (F := F) _ _ (HFF.out tb (.inl rfl))) (fun _ hi => .inl hi)⟩
  · have h0' : decide ((i : Int) = 0) = false := by simpa using h0
    go_wp2_with (first
      | (at_builtin; refine wp_append_gr (v := .slice a1 L1.length c1) (HO1.out.alloc _) [iv n] (.tmp 24) (.tmp 26) Tis ti (iv 0) rfl rfl Tryd.underlying31 HTI.out HZ.out HS1.out HBY rfl rfl rfl (fun j u hu => cell_news_one _ _ _ j u hu) HONE.out HLEN.out (Nat.zero_le _) ?_
         intro v3 w3 hown3 hg3 hat3
         have hf3 := hown3.form
         rw [List.length_append, List.length_map] at hf3
         obtain ⟨a3, c3, rfl, -, -, -⟩ := hf3
         have HO3 := Lib.hid (show Owns w3 0 Tin (.slice a3 (L1.length + [iv n].length) c3) ((L1 ++ [n]).map iv) by rw [List.map_append]; exact hown3)
         have HG3 := Lib.hid (show W.grownBy w3 (sv (k * 2)).ownBlock by rw [HS.out, ← HB1.out]; exact grown_three (HB1.out ▸ HG1.out) (belowSelf w1 _) hg3)
         have HAT3 := Lib.hid (show ∀ g, (Value.slice a3 (L1.length + [iv n].length) c3).ownBlock = some g → (sv (k * 2)).ownBlock = some g ∨ W.heap.size ≤ g from fun g hg => by
           rcases hat3 with e | e
           · rw [HS.out, ← HB1.out, ← e]; exact .inl hg
           · rw [e] at hg
             injection hg with hg
             subst hg
             exact .inr (Nat.le_trans HG1.out.size (belowSelf w1 _).size))
         obtain ⟨⟨hc3, hz3⟩⟩ : Nonempty (PProd (w3.cell? ⟨tb, 33 + k * 2, none⟩ = some (.slice a (x.K k).length cap)) (w3.frozen? ⟨tb, 33 + k * 2, none⟩ = false)) := by
           have h3 := HT.out.atj HK5 HK5 HG3.out
           rw [HS.out] at h3
           exact ⟨⟨h3.1, h3.2⟩⟩
         have HT4 := Lib.hid (HT.out.putK HK.out HO3.out HEL.out HG3.out HAT3.out)
         have HF4 := Lib.hid (foot_put (W := W) (F := F) HFF.out HAT3.out HK5)
         have HR4 := Lib.hid (fr_put (v' := .slice a3 (L1.length + [iv n].length) c3) HFF.out HK5 (33 + k * 2) HG3.out)
         obtain ⟨⟨hc4, hz4⟩⟩ : Nonempty (PProd ((w3.setCell ⟨tb, 33 + k * 2, none⟩ (.slice a3 (L1.length + 1) c3)).cell? ⟨tb, 33 + k * 2 + 1, none⟩ = some (updV sv (k * 2) (.slice a3 (L1.length + 1) c3) (k * 2 + 1))) ((w3.setCell ⟨tb, 33 + k * 2, none⟩ (.slice a3 (L1.length + 1) c3)).frozen? ⟨tb, 33 + k * 2 + 1, none⟩ = false)) :=
           ⟨⟨HT4.out.cell (k * 2 + 1) (by omega), HT4.out.tag.frozen _⟩⟩
         clear hown3 hg3 hat3)
      | fail)
    go_ret2
    exact ⟨rfl, ⟨_, HT4.out, HF4.out⟩, HR4.out⟩
set_option maxHeartbeats 1000000 in
set_option maxRecDepth 100000 in
theorem heard_room (h : Tbl W tb sv x) (hF : ∀ b, FootB tb sv b → F b) {k : Nat} (hk : k < 257) {n : Int} (hm : n ∉ x.K k) (hl : (x.K k).length < 4) : Calls Tryd.prog 47 #[.pointer (some ⟨tb, 33 + k * 2, none⟩), iv n] W fun e w' =>
    e = .returned (.tuple #[iv 0, .bool false]) ∧ Bx w' (And_new F W) tb (putB x k (x.K k ++ [n]) (x.Q k)) ∧ Fr F W w' := by
  have hO := h.own (k * 2) (by omega)
  rw [lstB_K] at hO
  have HI := Lib.hid (index_any hO (by omega) n)
  have hidx : idxI (x.K k) n = -1 := by unfold idxI; rw [if_neg hm]
  rw [hidx] at HI
  have HEL := Lib.hid (show (x.K k ++ [n]).length ≤ 4 by rw [List.length_append]; simp; omega)
  have HLEN := Lib.hid (show ((x.K k).map iv).length + [iv n].length ≤ 1099511627776 by rw [List.length_map]; simp; omega)
  have HONE := Lib.hid (show ∀ u ∈ [iv n], u.oneCell' = true by intro u hu; simp at hu; subst hu; rfl)
  have hcK := h.cell (k * 2) (by omega)
  obtain ⟨a, cap, hs, -, -, -⟩ := hO.form
  have HO := Lib.hid hO
  rw [hs] at hcK HI
  simp only [List.length_map] at hcK HI hs
  have HS := Lib.hid hs
  have HT := Lib.hid h
  have HFF := Lib.hid hF
  obtain ⟨ti, hti, hz, hs1, hby⟩ := int_inf
  have HBY : ti.bytes ≤ 64 := by omega
  have HTI := Lib.hid hti
  have HZ := Lib.hid hz
  have HS1 := Lib.hid hs1
  have HK := Lib.hid hk
  have HK5 : k * 2 < 514 := by omega
  have hd4 : decide (((x.K k).length : Int) < 4) = true := by simp; omega
  have hl4 : ((x.K k).length : Int) < 4 := by omega
  clear h hF hO hs hidx hti hz hs1 hby hm hk
  go_enter Tryd.func47, Tryd.ntmps47
  go_wp2_with fail
  refine HI.out.mono ?_
  rintro e w' ⟨rfl, rfl⟩
  go_wp2_with (first
    | (at_builtin; refine wp_append_gr (v := .slice a (x.K k).length cap) ((HS.out ▸ HO.out).alloc _) [iv n] (.tmp 46) (.tmp 48) Tis ti (iv 0) rfl rfl Tryd.underlying31 HTI.out HZ.out HS1.out HBY rfl rfl rfl (fun j u hu => cell_news_one _ _ _ j u hu) HONE.out HLEN.out (Nat.zero_le _) ?_
       intro v3 w3 hown3 hg3 hat3
       have hf3 := hown3.form
       rw [List.length_append, List.length_map] at hf3
       obtain ⟨a3, c3, rfl, -, -, -⟩ := hf3
       have HO3 := Lib.hid (show Owns w3 0 Tin (.slice a3 ((x.K k).length + [iv n].length) c3) (((x.K k) ++ [n]).map iv) by rw [List.map_append]; exact hown3)
       have HG3 := Lib.hid (show W.grownBy w3 (sv (k * 2)).ownBlock by rw [HS.out]; exact grown_three (grownRefl _ _) (belowSelf W _) hg3)
       have HAT3 := Lib.hid (show ∀ g, (Value.slice a3 ((x.K k).length + [iv n].length) c3).ownBlock = some g → (sv (k * 2)).ownBlock = some g ∨ W.heap.size ≤ g from fun g hg => by
         rcases hat3 with e | e
         · rw [HS.out, ← e]; exact .inl hg
         · rw [e] at hg
           injection hg with hg
           subst hg
           exact .inr (belowSelf W _).size)
       obtain ⟨⟨hc3, hz3⟩⟩ : Nonempty (PProd (w3.cell? ⟨tb, 33 + k * 2, none⟩ = some (.slice a (x.K k).length cap)) (w3.frozen? ⟨tb, 33 + k * 2, none⟩ = false)) := by
         have h3 := HT.out.atj HK5 HK5 HG3.out
         rw [HS.out] at h3
         exact ⟨⟨h3.1, h3.2⟩⟩
       have HT4 := Lib.hid (HT.out.putK HK.out HO3.out HEL.out HG3.out HAT3.out)
       have HF4 := Lib.hid (foot_put (W := W) (F := F) HFF.out HAT3.out HK5)
       have HR4 := Lib.hid (fr_put (v' := .slice a3 ((x.K k).length + [iv n].length) c3) HFF.out HK5 (33 + k * 2) HG3.out)
       obtain ⟨⟨hc4, hz4⟩⟩ : Nonempty (PProd ((w3.setCell ⟨tb, 33 + k * 2, none⟩ (.slice a3 ((x.K k).length + 1) c3)).cell? ⟨tb, 33 + k * 2 + 1, none⟩ = some (updV sv (k * 2) (.slice a3 ((x.K k).length + 1) c3) (k * 2 + 1))) ((w3.setCell ⟨tb, 33 + k * 2, none⟩ (.slice a3 ((x.K k).length + 1) c3)).frozen? ⟨tb, 33 + k * 2 + 1, none⟩ = false)) :=
         ⟨⟨HT4.out.cell (k * 2 + 1) (by omega), HT4.out.tag.frozen _⟩⟩
       clear hown3 hg3 hat3)
    | fail)
  go_ret2
  exact ⟨rfl, ⟨_, HT4.out, HF4.out⟩, HR4.out⟩
set_option maxHeartbeats 1000000 in
set_option maxRecDepth 100000 in
theorem heard_ask (h : Tbl W tb sv x) (hF : ∀ b, FootB tb sv b → F b) {k : Nat} (hk : k < 257) {n : Int} (hm : n ∉ x.K k) (hl : ¬ (x.K k).length < 4) (hq : (x.Q k).length = 0) : Calls Tryd.prog 47 #[.pointer (some ⟨tb, 33 + k * 2, none⟩), iv n] W fun e w' =>
    e = .returned (.tuple #[iv ((x.K k).getD 0 0), .bool true]) ∧ Bx w' (And_new F W) tb (putB x k (x.K k) [n]) ∧ Fr F W w' := by
  have hO := h.own (k * 2) (by omega)
  rw [lstB_K] at hO
  have h4 := h.k4 k
  have HI := Lib.hid (index_any hO (by omega) n)
  have hidx : idxI (x.K k) n = -1 := by unfold idxI; rw [if_neg hm]
  rw [hidx] at HI
  have hO2 := h.own (k * 2 + 1) (by omega)
  rw [lstB_Q] at hO2
  have hcK := h.cell (k * 2) (by omega)
  obtain ⟨cQ⟩ : Nonempty (PLift (W.cell? ⟨tb, 33 + k * 2 + 1, none⟩ = some (sv (k * 2 + 1)))) := ⟨⟨h.cell (k * 2 + 1) (by omega)⟩⟩
  have hcQ := cQ.down
  clear cQ
  obtain ⟨a2, cap2, hs2, -, -, -⟩ := hO2.form
  rw [List.length_map, hq] at hs2
  rw [hs2] at hcQ
  obtain ⟨a, cap, hs, -, -, -⟩ := hO.form
  have HO := Lib.hid hO
  rw [hs] at hcK HI
  simp only [List.length_map] at hcK HI hs
  have HS := Lib.hid hs
  have HT := Lib.hid h
  have HFF := Lib.hid hF
  have HK := Lib.hid hk
  have HK5 : k * 2 < 514 := by omega
  have hd4 : decide (((x.K k).length : Int) < 4) = false := by simp; omega
  have hl4 : ¬ ((x.K k).length : Int) < 4 := by omega
  have hG := grown_below (grownRefl W (sv (k * 2 + 1)).ownBlock) (belowSelf W (.cells #[iv n] Tin))
  have hat : ∀ g, (Value.slice (some ⟨W.heap.size, 0, none⟩) 1 1).ownBlock = some g → (sv (k * 2 + 1)).ownBlock = some g ∨ W.heap.size ≤ g := fun g hg => .inr (by
    injection hg with hg
    exact Nat.le_of_eq hg)
  have HT4 := Lib.hid (h.putQ hk (v' := .slice (some ⟨W.heap.size, 0, none⟩) 1 1) (Q := [n]) (Owns.of_mem (Mem.new W Tin [iv n]) (Nat.zero_le _) 1 1 (Nat.le_refl _) rfl (by simp [maxLen]) rfl) (Nat.le_refl _) hG hat)
  have HF4 := Lib.hid (foot_put (W := W) (F := F) hF hat (show k * 2 + 1 < 514 by omega))
  have HR4 := Lib.hid (fr_put (v' := .slice (some ⟨W.heap.size, 0, none⟩) 1 1) hF (show k * 2 + 1 < 514 by omega) (33 + (k * 2 + 1)) hG)
  obtain ⟨⟨hcA, hzA⟩⟩ : Nonempty (PProd ((W.alloc (.cells #[iv n] Tin)).cell? ⟨tb, 33 + k * 2 + 1, none⟩ = some (.slice a2 0 cap2)) ((W.alloc (.cells #[iv n] Tin)).frozen? ⟨tb, 33 + k * 2 + 1, none⟩ = false)) := by
    have h3 := h.atj (show k * 2 + 1 < 514 by omega) (show k * 2 + 1 < 514 by omega) hG
    rw [hs2] at h3
    exact ⟨⟨h3.1, h3.2⟩⟩
  obtain ⟨⟨hcB, hcC⟩⟩ : Nonempty (PProd (((W.alloc (.cells #[iv n] Tin)).setCell ⟨tb, 33 + k * 2 + 1, none⟩ (.slice (some ⟨W.heap.size, 0, none⟩) 1 1)).cell? ⟨tb, 33 + k * 2, none⟩ = some (.slice a (x.K k).length cap))
      (∃ g, a = some ⟨g, 0, none⟩ ∧ ((W.alloc (.cells #[iv n] Tin)).setCell ⟨tb, 33 + k * 2 + 1, none⟩ (.slice (some ⟨W.heap.size, 0, none⟩) 1 1)).cell? ⟨g, 0, none⟩ = some (iv ((x.K k).getD 0 0)))) := by
    have e := HT4.out.cell (k * 2) (by omega)
    rw [updV_other _ _ (by omega), hs] at e
    have o := HT4.out.own (k * 2) (by omega)
    rw [updV_other _ _ (by omega), hs, lstB_K, K_put] at o
    obtain ⟨a', cap', e', -, -, hc'⟩ := Zs'.cell o
    injection e' with e1 e2 e3
    subst e1
    exact ⟨⟨e, hc' 0 (by omega)⟩⟩
  obtain ⟨g0, rfl, hcD⟩ := hcC
  have hlp : (0 : Int) < ((x.K k).length : Int) := by omega
  obtain ⟨y0, hy0⟩ : ∃ y0, y0 = (x.K k).getD 0 0 := ⟨_, rfl⟩
  rw [← hy0] at hcD ⊢
  clear hy0 hat hG
  clear h hF hO hO2 hs hs2 hidx hm hk
  go_enter Tryd.func47, Tryd.ntmps47
  go_wp2_with fail
  refine HI.out.mono ?_
  rintro e w' ⟨rfl, rfl⟩
  go_wp2_with fail
  go_ret2
  exact ⟨rfl, ⟨_, HT4.out, HF4.out⟩, HR4.out⟩
end
end Go.Proofs.YtaicjdjfhbmfeaaDoor

/-
  Package bucket: heard, gone, whatever is given; Heard, Gone.
-/
namespace Go.Proofs.YtaicjdjfhbmfeaaDoor
open Go.RowKit Crv

set_option maxRecDepth 100000 in
theorem run_append_two {W : World} {base : Nat} {v1 v2 : Value} {xs ys : List Int} (h1 : Owns W base Tin v1 (xs.map iv)) (h2 : Owns W 0 Tin v2 (ys.map iv)) (hl : xs.length + ys.length ≤ 1000000) (ty : TypeId) (hb : base ≤ W.heap.size) :
    ∃ v' w', (Builtin.append_ #[Tis, Tis] ty #[v1, v2]).run Tryd.prog W = .ok v' w' ∧ Owns w' base Tin v' ((xs ++ ys).map iv) ∧ W.grownBy w' v1.ownBlock ∧ (v'.ownBlock = v1.ownBlock ∨ v'.ownBlock = some W.heap.size) := by
  obtain ⟨ti, hi, hz, hsz, hby⟩ := int_inf
  have hf := h2.form
  rcases h2.2 with ⟨rfl, h0⟩ | ⟨g, cap, cur, rfl, _, _⟩
  · have e : ys = [] := by cases ys with
      | nil => rfl
      | cons y r => simp at h0
    subst e
    exact ⟨v1, W, run_append_owned_none W base Tis ty Tin ti 1 Tryd.underlying31 hi v1 (xs.map iv).length (xs.map iv) h1, by simpa using h1, grownRefl _ _, .inl rfl⟩
  · obtain ⟨a', c', e, _, _, hc⟩ := hf
    injection e with e1 e2 e3
    subst e1
    obtain ⟨v', w', hr, h3, h4, h5, _⟩ := run_append_keep (P := Tryd.prog) h1 (ys.map iv) Tis ty ti (iv 0) Tryd.underlying31 hi hz hsz (by omega) rfl (g := g) (c := cap) (fun j u hu => by
      have hj := (List.getElem?_eq_some_iff.1 hu).1
      obtain ⟨g', e', _, hcc⟩ := hc j hj
      injection e' with e'
      injection e' with e'
      subst e'
      rw [hcc, hu]) (fun u hu => by
      obtain ⟨y, _, rfl⟩ := List.mem_map.1 hu
      rfl) (by simp only [List.length_map]; omega) hb
    exact ⟨v', w', hr, by rw [List.map_append]; exact h3, h4, h5⟩
theorem wp_append_at {P : Program} {ops : Array Oper} {rest : List Oper} {o : Oper} {a : Act} {w : World} {Q : Exit → Act → World → Prop} {v y v' : Value} {w' : World} (s x : Operand) (t ty : TypeId)
    (hr : (Builtin.append_ #[t, t] ty #[v, y]).run P w = .ok v' w') (hgd : o.guard = none) (ho : o.op = .call { callee := .builtin .append, args := #[s, x], argTypes := #[t, t] }) (hty : o.type = ty) (hs : a.eval s = v) (hx : a.eval x = y)
    (h : wpList P ops Q rest (a.put o.dst v') w') : wpList P ops Q (o :: rest) a w := by
  refine wpList_plain hgd fun K hK => ?_
  subst hty
  unfold Oper.wp execOp
  simp only [ho, resolve, invoke, builtin, Sem.run_bind, Sem.run_pure, Result.andThen_ok, List.map_toArray, List.map_cons, List.map_nil, hs, hx, hr]
  exact hK _ _ h
theorem step_append_at {P : Program} {ops : Array Oper} {o : Oper} {a : Act} {w : World} {Q : Exit → Act → World → Prop} {K : Act → World → Prop} {E : Prop} {v y v' : Value} {w' : World} (s x : Operand) (t ty : TypeId)
    (hr : (Builtin.append_ #[t, t] ty #[v, y]).run P w = .ok v' w') (hgd : o.guard = none) (ho : o.op = .call { callee := .builtin .append, args := #[s, x], argTypes := #[t, t] }) (hty : o.type = ty) (hs : a.eval s = v) (hx : a.eval x = y)
    (h : K (a.put o.dst v') w') : if Region.wanted o (yielded ops a.tmps) = true then Oper.wp P o a w K Q else E := by
  have hw : Region.wanted o (yielded ops a.tmps) = true := by simp [Region.wanted, hgd]
  rw [if_pos hw]
  unfold Oper.wp execOp
  subst hty
  simp only [ho, resolve, invoke, builtin, Sem.run_bind, Sem.run_pure, Result.andThen_ok, List.map_toArray, List.map_cons, List.map_nil, hs, hx, hr]
  exact h
section
variable {W W' : World} {tb : Nat} {sv : Nat → Value} {x : BS} {F : Nat → Prop}
theorem Tbl.own_at (h : Tbl W tb sv x) {j i : Nat} (hj : j < 514) (hi : i < 514) (hne : i ≠ j) (hg : W.grownBy W' (sv j).ownBlock) : Owns W' 0 Tin (sv i) ((lstB x i).map iv) :=
  (h.own i hi).of_below fun g hg' => hg.block g ((h.own i hi).lt g hg').1 (fun e => hne (h.one i j g hi hj hg' e.symm))
theorem Bx.same (h : Tbl W tb sv x) (hF : ∀ b, FootB tb sv b → F b) : Bx W (And_new F W) tb x ∧ Fr F W W := ⟨⟨sv, h, fun b hb => .inl (hF b hb)⟩, Fr.refl _ _⟩
set_option maxHeartbeats 1000000 in
set_option maxRecDepth 100000 in
theorem heard_stay (h : Tbl W tb sv x) {k : Nat} (hk : k < 257) {n : Int} (hm : n ∉ x.K k) (hl : ¬ (x.K k).length < 4) (hq : ¬ (x.Q k).length = 0) : Calls Tryd.prog 47 #[.pointer (some ⟨tb, 33 + k * 2, none⟩), iv n] W fun e w' =>
    e = .returned (.tuple #[iv 0, .bool false]) ∧ W = w' := by
  have hO := h.own (k * 2) (by omega)
  rw [lstB_K] at hO
  have h4 := h.k4 k
  have HI := Lib.hid (index_any hO (by omega) n)
  have hidx : idxI (x.K k) n = -1 := by unfold idxI; rw [if_neg hm]
  rw [hidx] at HI
  have hO2 := h.own (k * 2 + 1) (by omega)
  rw [lstB_Q] at hO2
  have hcK := h.cell (k * 2) (by omega)
  obtain ⟨cQ⟩ : Nonempty (PLift (W.cell? ⟨tb, 33 + k * 2 + 1, none⟩ = some (sv (k * 2 + 1)))) := ⟨⟨h.cell (k * 2 + 1) (by omega)⟩⟩
  have hcQ := cQ.down
  clear cQ
  obtain ⟨a2, cap2, hs2, -, -, -⟩ := hO2.form
  rw [List.length_map] at hs2
  rw [hs2] at hcQ
  obtain ⟨a, cap, hs, -, -, -⟩ := hO.form
  rw [hs] at hcK HI
  simp only [List.length_map] at hcK HI
  have hd4 : decide (((x.K k).length : Int) < 4) = false := by simp; omega
  have hl4 : ¬ ((x.K k).length : Int) < 4 := by omega
  have hq0 : decide (((x.Q k).length : Int) = 0) = false := by rw [decide_eq_false]; omega
  have hq1 : ¬ ((x.Q k).length : Int) = 0 := by omega
  clear h hO hO2 hs hs2 hidx hm hk h4
  go_enter Tryd.func47, Tryd.ntmps47
  go_wp2_with fail
  refine HI.out.mono ?_
  rintro e w' ⟨rfl, rfl⟩
  go_wp2_with fail
  go_ret2
  exact ⟨rfl, rfl⟩
theorem heard_any (h : Tbl W tb sv x) (hF : ∀ b, FootB tb sv b → F b) {k : Nat} (hk : k < 257) (n : Int) : Calls Tryd.prog 47 #[.pointer (some ⟨tb, 33 + k * 2, none⟩), iv n] W fun e w' =>
    e = .returned (.tuple #[iv ((heardB (x.K k) (x.Q k) n).2.2.getD 0), .bool (heardB (x.K k) (x.Q k) n).2.2.isSome]) ∧ Bx w' (And_new F W) tb (putB x k (heardB (x.K k) (x.Q k) n).1 (heardB (x.K k) (x.Q k) n).2.1) ∧ Fr F W w' := by
  by_cases hm : n ∈ x.K k
  · have e : (heardB (x.K k) (x.Q k) n).2.2 = none := by unfold heardB; rw [if_pos hm]
    rw [e]
    exact heard_in h hF hk hm
  · by_cases hl : (x.K k).length < 4
    · have e : heardB (x.K k) (x.Q k) n = (x.K k ++ [n], x.Q k, none) := by unfold heardB; rw [if_neg hm, if_pos hl]
      rw [e]
      exact heard_room h hF hk hm hl
    · by_cases hq : (x.Q k).length = 0
      · have e : heardB (x.K k) (x.Q k) n = (x.K k, [n], some ((x.K k).getD 0 0)) := by unfold heardB; rw [if_neg hm, if_neg hl, if_pos hq]
        rw [e]
        exact heard_ask h hF hk hm hl hq
      · have e : heardB (x.K k) (x.Q k) n = (x.K k, x.Q k, none) := by unfold heardB; rw [if_neg hm, if_neg hl, if_neg hq]
        rw [e]
        simp only [putB_self]
        refine (heard_stay h hk hm hl hq).mono ?_
        rintro e w' ⟨rfl, rfl⟩
        exact ⟨rfl, Bx.same h hF⟩
set_option maxHeartbeats 2000000 in
set_option maxRecDepth 100000 in
theorem gone_in (h : Tbl W tb sv x) (hF : ∀ b, FootB tb sv b → F b) {k : Nat} (hk : k < 257) {n : Int} (hm : n ∈ x.K k) : Calls Tryd.prog 56 #[.pointer (some ⟨tb, 33 + k * 2, none⟩), iv n] W fun e w' =>
    e = .returned (.bool true) ∧ Bx w' (And_new F W) tb (putB x k (goneB (x.K k) (x.Q k) n).1 (goneB (x.K k) (x.Q k) n).2.1) ∧ Fr F W w' := by
  have hO := h.own (k * 2) (by omega)
  rw [lstB_K] at hO
  have h4 := h.k4 k
  have hq1 := h.q1 k
  have HI := Lib.hid (index_any hO (by omega) n)
  obtain ⟨i, hi⟩ : ∃ i, i = (x.K k).idxOf n := ⟨_, rfl⟩
  have hidx : idxI (x.K k) n = (i : Int) := by unfold idxI; rw [if_pos hm, hi]
  have hil : i < (x.K k).length := by rw [hi]; exact List.idxOf_lt_length_iff.2 hm
  have e : goneB (x.K k) (x.Q k) n = ((x.K k).eraseIdx i ++ x.Q k, [], true) := by unfold goneB; rw [if_pos hm, hi]
  rw [e]
  rw [hidx] at HI
  have HD := Lib.hid (delete_any (W := W.drew) (Owns.drewN hO 1) i hil)
  have hel : ((x.K k).eraseIdx i).length + 1 = (x.K k).length := by rw [List.length_eraseIdx_of_lt hil]; omega
  obtain ⟨L1, hL1⟩ : ∃ L1, L1 = (x.K k).eraseIdx i := ⟨_, rfl⟩
  rw [← hL1] at HD hel ⊢
  have HEL := Lib.hid (show (L1 ++ x.Q k).length ≤ 4 by rw [List.length_append]; omega)
  have HLEN := Lib.hid (show L1.length + (x.Q k).length ≤ 1000000 by omega)
  have hO2 := h.own (k * 2 + 1) (by omega)
  rw [lstB_Q] at hO2
  have hcK := h.cell (k * 2) (by omega)
  obtain ⟨cQ⟩ : Nonempty (PLift (W.cell? ⟨tb, 33 + k * 2 + 1, none⟩ = some (sv (k * 2 + 1)))) := ⟨⟨h.cell (k * 2 + 1) (by omega)⟩⟩
  have hcQ := cQ.down
  clear cQ
  obtain ⟨a2, cap2, hs2, -, -, -⟩ := hO2.form
  rw [List.length_map] at hs2
  rw [hs2] at hcQ
  have hi4 : i < 4 := by omega
  have hneg : decide ((i : Int) < 0) = false := by simp
  obtain ⟨a, cap, hs, -, -, -⟩ := hO.form
  rw [hs] at hcK HI HD
  simp only [List.length_map] at hcK HI HD hs
  have HS := Lib.hid hs
  have HS2 := Lib.hid hs2
  have HO2 := Lib.hid hO2
  have HT := Lib.hid h
  have HFF := Lib.hid hF
  have HK := Lib.hid hk
  have HK5 : k * 2 < 514 := by omega
  clear h hF e hO hO2 hs hs2 hi hidx hil hel h4 hq1 hm hL1 hk
  go_enter Tryd.func56, Tryd.ntmps56
  go_wp2_with fail
  refine HI.out.mono ?_
  rintro e w' ⟨rfl, rfl⟩
  go_wp2_with fail
  refine wp_region_held_drew (S := fun w' => w'.cell? ⟨tb, 33 + k * 2 + 1, none⟩ = some (.slice a2 (x.Q k).length cap2)) (by kernel_rfl) hcQ (fun hHeld => ?_)
  refine wpAnyH_take (i := 0) (oi := { dst := some 14, op := Op.move (Operand.tmp 0), type := 83, pos := "bucket.go:108", after := #[], guard := none }) (v := .pointer (some ⟨tb, 33 + k * 2, none⟩)) rfl (by kernel_rfl) (by kernel_rfl) (by kernel_rfl) (fun _ _ _ h => h) (Or.inl ⟨by rfl, ?_⟩) hHeld ?_
  · intro w' hSw
    have y0 := hSw
    clear hSw
    go_simp
  simp only [Act.put, List.setIfInBounds_toArray, List.set_cons_zero, List.set_cons_succ]
  refine wpAnyH_take (i := 1) (oi := { dst := some 15, op := Op.move (Operand.tmp 0), type := 83, pos := "bucket.go:108", after := #[], guard := none }) (v := .pointer (some ⟨tb, 33 + k * 2, none⟩)) rfl (by kernel_rfl) (by kernel_rfl) (by kernel_rfl) (fun _ _ _ h => h) (Or.inl ⟨by rfl, ?_⟩) hHeld ?_
  · intro w' hSw
    have y0 := hSw
    clear hSw
    go_simp
  simp only [Act.put, List.setIfInBounds_toArray, List.set_cons_zero, List.set_cons_succ]
  refine wpAnyH_take (i := 2) (oi := { dst := some 16, op := Op.nilCheck (Operand.tmp 15), type := 0, pos := "bucket.go:108", after := #[{ on := 1, ground := Ground.data }], guard := none }) (v := .pointer (some ⟨tb, 33 + k * 2, none⟩)) rfl (by kernel_rfl) (by kernel_rfl) (by kernel_rfl) (fun _ _ _ h => h) (Or.inl ⟨by rfl, ?_⟩) hHeld ?_
  · intro w' hSw
    have y0 := hSw
    clear hSw
    go_simp
  simp only [Act.put, List.setIfInBounds_toArray, List.set_cons_zero, List.set_cons_succ]
  refine wpAnyH_take (i := 3) (oi := { dst := some 17, op := Op.fieldAddr 73 (Operand.tmp 16) 0, type := 0, pos := "bucket.go:108", after := #[{ on := 2, ground := Ground.data }], guard := none }) (v := .pointer (some ⟨tb, 33 + k * 2, none⟩)) rfl (by kernel_rfl) (by kernel_rfl) (by kernel_rfl) (fun _ _ _ h => h) (Or.inl ⟨by rfl, ?_⟩) hHeld ?_
  · intro w' hSw
    have y0 := hSw
    clear hSw
    go_simp
  simp only [Act.put, List.setIfInBounds_toArray, List.set_cons_zero, List.set_cons_succ]
  refine wpAnyH_take (i := 5) (oi := { dst := some 19, op := Op.move (Operand.tmp 5), type := 3, pos := "bucket.go:108", after := #[], guard := none }) (v := .int .i64 (i : Int)) rfl (by kernel_rfl) (by kernel_rfl) (by kernel_rfl) (fun _ _ _ h => h) (Or.inl ⟨by rfl, ?_⟩) hHeld ?_
  · intro w' hSw
    have y0 := hSw
    clear hSw
    go_simp
  simp only [Act.put, List.setIfInBounds_toArray, List.set_cons_zero, List.set_cons_succ]
  refine wpAnyH_take (i := 6) (oi := { dst := some 20, op := Op.move (Operand.tmp 5), type := 3, pos := "bucket.go:108", after := #[], guard := none }) (v := .int .i64 (i : Int)) rfl (by kernel_rfl) (by kernel_rfl) (by kernel_rfl) (fun _ _ _ h => h) (Or.inl ⟨by rfl, ?_⟩) hHeld ?_
  · intro w' hSw
    have y0 := hSw
    clear hSw
    go_simp
  simp only [Act.put, List.setIfInBounds_toArray, List.set_cons_zero, List.set_cons_succ]
  refine wpAnyH_take (i := 7) (oi := { dst := some 21, op := Op.binOp BinOp.add 3 (Operand.tmp 20) (Operand.const (Value.int IntKind.i64 1)) 3, type := 3, pos := "bucket.go:108", after := #[{ on := 6, ground := Ground.data }], guard := none }) (v := .int .i64 ((i : Int) + 1)) rfl (by kernel_rfl) (by kernel_rfl) (by kernel_rfl) (fun _ _ _ h => h) (Or.inl ⟨by rfl, ?_⟩) hHeld ?_
  · intro w' hSw
    have y0 := hSw
    clear hSw
    simp [go_sem, IntKind.wrap, IntKind.bits, IntKind.signed]; omega
  simp only [Act.put, List.setIfInBounds_toArray, List.set_cons_zero, List.set_cons_succ]
  refine wpAnyH_take (i := 9) (oi := { dst := some 23, op := Op.move (Operand.tmp 0), type := 83, pos := "bucket.go:108", after := #[], guard := none }) (v := .pointer (some ⟨tb, 33 + k * 2, none⟩)) rfl (by kernel_rfl) (by kernel_rfl) (by kernel_rfl) (fun _ _ _ h => h) (Or.inl ⟨by rfl, ?_⟩) hHeld ?_
  · intro w' hSw
    have y0 := hSw
    clear hSw
    go_simp
  simp only [Act.put, List.setIfInBounds_toArray, List.set_cons_zero, List.set_cons_succ]
  refine wpAnyH_take (i := 10) (oi := { dst := some 24, op := Op.nilCheck (Operand.tmp 23), type := 0, pos := "bucket.go:108", after := #[{ on := 9, ground := Ground.data }], guard := none }) (v := .pointer (some ⟨tb, 33 + k * 2, none⟩)) rfl (by kernel_rfl) (by kernel_rfl) (by kernel_rfl) (fun _ _ _ h => h) (Or.inl ⟨by rfl, ?_⟩) hHeld ?_
  · intro w' hSw
    have y0 := hSw
    clear hSw
    go_simp
  simp only [Act.put, List.setIfInBounds_toArray, List.set_cons_zero, List.set_cons_succ]
  refine wpAnyH_take (i := 11) (oi := { dst := some 25, op := Op.fieldAddr 73 (Operand.tmp 24) 1, type := 0, pos := "bucket.go:108", after := #[{ on := 10, ground := Ground.data }], guard := none }) (v := .pointer (some ⟨tb, 33 + k * 2 + 1, none⟩)) rfl (by kernel_rfl) (by kernel_rfl) (by kernel_rfl) (fun _ _ _ h => h) (Or.inl ⟨by rfl, ?_⟩) hHeld ?_
  · intro w' hSw
    have y0 := hSw
    clear hSw
    go_simp
  simp only [Act.put, List.setIfInBounds_toArray, List.set_cons_zero, List.set_cons_succ]
  refine wpAnyH_take (i := 12) (oi := { dst := some 26, op := Op.load 31 (Operand.tmp 25), type := 31, pos := "bucket.go:108", after := #[{ on := 11, ground := Ground.data }], guard := none }) (v := .slice a2 (x.Q k).length cap2) rfl (by kernel_rfl) (by kernel_rfl) (by kernel_rfl) (fun _ _ _ h => h) (Or.inl ⟨by rfl, ?_⟩) hHeld ?_
  · intro w' hSw
    have y0 := hSw
    clear hSw
    go_simp
  simp only [Act.put, List.setIfInBounds_toArray, List.set_cons_zero, List.set_cons_succ]
  refine wpAnyH_ready (rs := [4]) (by kernel_rfl) (by simp) (AllReadyH.cons rfl (fun K hK => ?_) AllReadyH.nil)
  go_simp
  refine hK.out _ _ hcQ (fun hH1 => ?_)
  clear hK K
  refine wpAnyH_ready (rs := [8]) (by kernel_rfl) (by simp) (AllReadyH.cons rfl (fun K hK => ?_) AllReadyH.nil)
  go_simp
  refine HD.out.mono ?_
  rintro e w1 ⟨v1, rfl, ho1, hg1, hb1⟩
  have hf1 := ho1.form
  rw [List.length_map] at hf1
  obtain ⟨a1, c1, rfl, -, -, -⟩ := hf1
  dsimp only
  have HO1 := Lib.hid ho1
  have HG1 := Lib.hid (show W.grownBy w1 (sv (k * 2)).ownBlock by rw [HS.out]; exact ⟨hg1.os, hg1.tape, hg1.output, hg1.size, hg1.block⟩)
  have HB1 := Lib.hid hb1
  obtain ⟨⟨hcQ1⟩⟩ : Nonempty (PLift (w1.cell? ⟨tb, 33 + k * 2 + 1, none⟩ = some (.slice a2 (x.Q k).length cap2))) := by
    have h3 := HT.out.atj HK5 (show k * 2 + 1 < 514 by omega) HG1.out
    rw [HS2.out] at h3
    exact ⟨⟨h3.1⟩⟩
  clear ho1 hg1 hb1
  refine hK.out _ _ hcQ1 (fun hH2 => ?_)
  clear hK K
  refine wpAnyH_ready (rs := [13]) (by kernel_rfl) (by simp) (AllReadyH.cons rfl (fun K hK => ?_) AllReadyH.nil)
  have ho2 := HT.out.own_at HK5 (show k * 2 + 1 < 514 by omega) (by omega) HG1.out
  rw [HS2.out, lstB_Q] at ho2
  obtain ⟨v3, w3, hr3, ho3, hg3, hat3⟩ := run_append_two HO1.out ho2 HLEN.out Tis (Nat.zero_le _)
  have hf3 := ho3.form
  rw [List.length_map, List.length_append] at hf3
  obtain ⟨a3, c3, rfl, -, -, -⟩ := hf3
  refine step_append_at (.tmp 22) (.tmp 26) Tis Tis hr3 rfl rfl rfl rfl rfl ?_
  simp only [List.getElem_toArray, List.getElem_cons_succ, List.getElem_cons_zero, Act.put]
  have HO3 := Lib.hid ho3
  have HG3 := Lib.hid (show W.grownBy w3 (sv (k * 2)).ownBlock from grown_trans HG1.out (by rw [HS.out, ← HB1.out]; exact hg3))
  have HAT3 := Lib.hid (show ∀ g, (Value.slice a3 (L1.length + (x.Q k).length) c3).ownBlock = some g → (sv (k * 2)).ownBlock = some g ∨ W.heap.size ≤ g from fun g hg => by
    rcases hat3 with e | e
    · rw [HS.out, ← HB1.out, ← e]; exact .inl hg
    · rw [e] at hg
      injection hg with hg
      subst hg
      exact .inr HG1.out.size)
  obtain ⟨⟨hc3, hz3⟩⟩ : Nonempty (PProd (w3.cell? ⟨tb, 33 + k * 2, none⟩ = some (.slice a (x.K k).length cap)) (w3.frozen? ⟨tb, 33 + k * 2, none⟩ = false)) := by
    have h3 := HT.out.atj HK5 HK5 HG3.out
    rw [HS.out] at h3
    exact ⟨⟨h3.1, h3.2⟩⟩
  obtain ⟨⟨hcQ3⟩⟩ : Nonempty (PLift (w3.cell? ⟨tb, 33 + k * 2 + 1, none⟩ = some (.slice a2 (x.Q k).length cap2))) := by
    have h3 := HT.out.atj HK5 (show k * 2 + 1 < 514 by omega) HG3.out
    rw [HS2.out] at h3
    exact ⟨⟨h3.1⟩⟩
  have HT4 := Lib.hid (HT.out.putK HK.out HO3.out HEL.out HG3.out HAT3.out)
  have HF4 := Lib.hid (foot_put (W := W) (F := F) HFF.out HAT3.out HK5)
  have HR4 := Lib.hid (fr_put (v' := .slice a3 (L1.length + (x.Q k).length) c3) HFF.out HK5 (33 + k * 2) HG3.out)
  obtain ⟨⟨hcQ4, hzQ4⟩⟩ : Nonempty (PProd ((w3.setCell ⟨tb, 33 + k * 2, none⟩ (.slice a3 (L1.length + (x.Q k).length) c3)).cell? ⟨tb, 33 + k * 2 + 1, none⟩ = some (.slice a2 (x.Q k).length cap2)) ((w3.setCell ⟨tb, 33 + k * 2, none⟩ (.slice a3 (L1.length + (x.Q k).length) c3)).frozen? ⟨tb, 33 + k * 2 + 1, none⟩ = false)) := by
    have e := HT4.out.cell (k * 2 + 1) (by omega)
    rw [updV_other _ _ (by omega), HS2.out] at e
    exact ⟨⟨e, HT4.out.tag.frozen _⟩⟩
  refine hK.out _ _ hcQ3 (fun hH13 => ?_)
  clear hK K hr3 ho3 hg3 hat3 ho2
  refine wpAnyH_take (i := 14) (oi := { dst := some 28, op := Op.nilCheck (Operand.tmp 14), type := 0, pos := "bucket.go:108", after := #[{ on := 0, ground := Ground.data }, { on := 0, ground := Ground.phase }, { on := 1, ground := Ground.phase }, { on := 2, ground := Ground.phase }, { on := 3, ground := Ground.phase }, { on := 4, ground := Ground.phase }, { on := 5, ground := Ground.phase }, { on := 6, ground := Ground.phase }, { on := 7, ground := Ground.phase }, { on := 8, ground := Ground.phase }, { on := 9, ground := Ground.phase }, { on := 10, ground := Ground.phase }, { on := 11, ground := Ground.phase }, { on := 12, ground := Ground.phase }, { on := 13, ground := Ground.phase }], guard := none }) (v := .pointer (some ⟨tb, 33 + k * 2, none⟩)) rfl (by kernel_rfl) (by kernel_rfl) (by kernel_rfl) (fun _ _ _ h => h) (Or.inl ⟨by rfl, ?_⟩) hH13 ?_
  · intro w' hSw
    have y0 := hSw
    clear hSw
    go_simp
  simp only [Act.put, List.setIfInBounds_toArray, List.set_cons_zero, List.set_cons_succ]
  refine wpAnyH_take (i := 15) (oi := { dst := some 29, op := Op.fieldAddr 73 (Operand.tmp 28) 0, type := 0, pos := "bucket.go:108", after := #[{ on := 14, ground := Ground.data }, { on := 0, ground := Ground.phase }, { on := 1, ground := Ground.phase }, { on := 2, ground := Ground.phase }, { on := 3, ground := Ground.phase }, { on := 4, ground := Ground.phase }, { on := 5, ground := Ground.phase }, { on := 6, ground := Ground.phase }, { on := 7, ground := Ground.phase }, { on := 8, ground := Ground.phase }, { on := 9, ground := Ground.phase }, { on := 10, ground := Ground.phase }, { on := 11, ground := Ground.phase }, { on := 12, ground := Ground.phase }, { on := 13, ground := Ground.phase }], guard := none }) (v := .pointer (some ⟨tb, 33 + k * 2, none⟩)) rfl (by kernel_rfl) (by kernel_rfl) (by kernel_rfl) (fun _ _ _ h => h) (Or.inl ⟨by rfl, ?_⟩) hH13 ?_
  · intro w' hSw
    have y0 := hSw
    clear hSw
    go_simp
  simp only [Act.put, List.setIfInBounds_toArray, List.set_cons_zero, List.set_cons_succ]
  refine wpAnyH_ready (rs := [16]) (by kernel_rfl) (by simp) (AllReadyH.cons rfl (fun K hK => ?_) AllReadyH.nil)
  go_simp
  refine hK.out _ _ hcQ4 (fun hH3 => ?_)
  clear hK K
  refine wpAnyH_done (by kernel_rfl) ?_ _
  rename_i Kz hKz
  refine hKz _ _ ?_
  go_wp2_with fail
  go_ret
  have h5 := HT4.out.nilQ HK.out
  rw [K_put, putB_put] at h5
  exact ⟨rfl, ⟨_, h5, fun b hb => HF4.out b (foot_nil b hb)⟩, HR4.out.trans (Fr.set (F := F) _ _ (HFF.out tb (.inl rfl))) (fun _ hi => .inl hi)⟩
set_option maxRecDepth 100000 in
theorem gone_any (h : Tbl W tb sv x) (hF : ∀ b, FootB tb sv b → F b) {k : Nat} (hk : k < 257) (n : Int) : Calls Tryd.prog 56 #[.pointer (some ⟨tb, 33 + k * 2, none⟩), iv n] W fun e w' =>
    e = .returned (.bool (goneB (x.K k) (x.Q k) n).2.2) ∧ Bx w' (And_new F W) tb (putB x k (goneB (x.K k) (x.Q k) n).1 (goneB (x.K k) (x.Q k) n).2.1) ∧ Fr F W w' := by
  by_cases hm : n ∈ x.K k
  · have e : (goneB (x.K k) (x.Q k) n).2.2 = true := by unfold goneB; rw [if_pos hm]
    rw [e]
    exact gone_in h hF hk hm
  · have e : goneB (x.K k) (x.Q k) n = (x.K k, x.Q k, false) := by unfold goneB; rw [if_neg hm]
    rw [e]
    simp only [putB_self]
    have hO := h.own (k * 2) (by omega)
    rw [lstB_K] at hO
    have h4 := h.k4 k
    have HI := Lib.hid (index_any hO (by omega) n)
    have hidx : idxI (x.K k) n = -1 := by unfold idxI; rw [if_neg hm]
    rw [hidx] at HI
    have hcK := h.cell (k * 2) (by omega)
    obtain ⟨a, cap, hs, -, -, -⟩ := hO.form
    rw [hs] at hcK HI
    have HB := Lib.hid (Bx.same h hF)
    clear h hF hO hs hidx hm hk h4 e
    go_enter Tryd.func56, Tryd.ntmps56
    simp only [List.length_map] at hcK HI
    go_wp2_with fail
    refine HI.out.mono ?_
    rintro e w' ⟨rfl, rfl⟩
    go_wp2_with fail
    go_ret
    exact ⟨rfl, HB.out⟩
theorem Bx.new_new {W1 : World} (h : Bx W' (And_new F W1) tb x) (hb : W.heap.size ≤ W1.heap.size) : Bx W' (And_new F W) tb x := h.mono fun _ _ hF => hF.imp id fun e => Nat.le_trans hb e
set_option maxRecDepth 100000 in
theorem Heard_any (h : Bx W F tb x) (hc : Consts W) (n : Int) : Calls Tryd.prog 23 #[.pointer (some ⟨tb, 0, none⟩), iv n] W fun e w' =>
    e = .returned (.tuple #[iv ((heardT x n).2.getD 0), .bool (heardT x n).2.isSome]) ∧ Bx w' (And_new F W) tb (heardT x n).1 ∧ Fr F W w' := by
  obtain ⟨sv, h, hF⟩ := h
  have h0 := h.ownc
  by_cases ok : okA x.own n
  · have e : heardT x n = (putB x (rowB x n) (heardB (x.K (rowB x n)) (x.Q (rowB x n)) n).1 (heardB (x.K (rowB x n)) (x.Q (rowB x n)) n).2.1, (heardB (x.K (rowB x n)) (x.Q (rowB x n)) n).2.2) := by unfold heardT; rw [if_pos ok]
    rw [e]
    have HB := Lib.hid (bucket_any h hc n)
    have hle := rowB_le x n
    obtain ⟨k, hk⟩ : ∃ k, k = rowB x n := ⟨_, rfl⟩
    rw [← hk] at HB hle ⊢
    have HK := Lib.hid (show k < 257 by omega)
    have HH := Lib.hid (fun (w1 : World) (hb : Below W.heap.size W w1) => heard_any (h.below hb) hF HK.out n)
    obtain ⟨r, hr⟩ : ∃ r, r = heardB (x.K k) (x.Q k) n := ⟨_, rfl⟩
    rw [← hr] at HH ⊢
    obtain ⟨q1, q2, q3⟩ := ok
    have HFr := Lib.hid (fun (w1 : World) (hb : Below W.heap.size W w1) => Fr.of_below (F := F) hb)
    have d1 : decide (n = x.own) = false := by simpa using q1
    have d2 : decide (n < 0) = false := by simp; omega
    have d3 : decide (64 ≤ n) = false := by simp; omega
    obtain ⟨v0, hv0⟩ : ∃ v0, v0 = r.2.2.getD 0 := ⟨_, rfl⟩
    obtain ⟨v1, hv1⟩ : ∃ v1, v1 = r.2.2.isSome := ⟨_, rfl⟩
    obtain ⟨y, hy⟩ : ∃ y, y = putB x k r.1 r.2.1 := ⟨_, rfl⟩
    simp only [← hv0, ← hv1, ← hy] at HH ⊢
    clear h hF hc e hk hr hv0 hv1 hy hle
    go_enter Tryd.func23, Tryd.ntmps23
    go_wp2_with fail
    refine HB.out.mono ?_
    rintro e w1 ⟨rfl, hb⟩
    have HH1 := Lib.hid (HH.out w1 hb)
    have HF1 := Lib.hid (HFr.out w1 hb)
    have HSZ := Lib.hid hb.size
    clear hb HH HFr h0
    go_wp2_with fail
    refine HH1.out.mono ?_
    rintro e w2 ⟨rfl, hx, hf⟩
    have HX := Lib.hid (hx.new_new HSZ.out)
    have HF2 := Lib.hid (HF1.out.trans hf (fun _ hi => .inl hi))
    clear hx hf
    go_wp2_with fail
    go_ret2
    exact ⟨rfl, HX.out, HF2.out⟩
  · have e : heardT x n = (x, none) := by unfold heardT; rw [if_neg ok]
    rw [e]
    have HB := Lib.hid (Bx.same h hF)
    have hno : n = x.own ∨ n < 0 ∨ 64 ≤ n := by unfold okA at ok; omega
    clear h hF e ok hc
    obtain ⟨o, ho⟩ : ∃ o, o = x.own := ⟨_, rfl⟩
    rw [← ho] at h0 hno
    clear ho
    by_cases e1 : n = o
    · subst e1
      go_enter Tryd.func23, Tryd.ntmps23
      go_wp2_with fail
      go_ret2
      exact ⟨rfl, HB.out⟩
    · have d1 : decide (n = o) = false := by simpa using e1
      by_cases e2 : n < 0
      · go_enter Tryd.func23, Tryd.ntmps23
        go_wp2_with fail
        go_ret2
        exact ⟨rfl, HB.out⟩
      · have d2 : decide (n < 0) = false := by simp; omega
        have d3 : 64 ≤ n := by omega
        go_enter Tryd.func23, Tryd.ntmps23
        go_wp2_with fail
        go_ret2
        exact ⟨rfl, HB.out⟩
set_option maxRecDepth 100000 in
theorem Gone_any (h : Bx W F tb x) (hc : Consts W) (n : Int) : Calls Tryd.prog 28 #[.pointer (some ⟨tb, 0, none⟩), iv n] W fun e w' =>
    e = .returned (.bool (goneT x n).2) ∧ Bx w' (And_new F W) tb (goneT x n).1 ∧ Fr F W w' := by
  obtain ⟨sv, h, hF⟩ := h
  have e : goneT x n = (putB x (rowB x n) (goneB (x.K (rowB x n)) (x.Q (rowB x n)) n).1 (goneB (x.K (rowB x n)) (x.Q (rowB x n)) n).2.1, (goneB (x.K (rowB x n)) (x.Q (rowB x n)) n).2.2) := rfl
  rw [e]
  have HB := Lib.hid (bucket_any h hc n)
  have hle := rowB_le x n
  obtain ⟨k, hk⟩ : ∃ k, k = rowB x n := ⟨_, rfl⟩
  rw [← hk] at HB hle ⊢
  have HK := Lib.hid (show k < 257 by omega)
  have HH := Lib.hid (fun (w1 : World) (hb : Below W.heap.size W w1) => gone_any (h.below hb) hF HK.out n)
  have HFr := Lib.hid (fun (w1 : World) (hb : Below W.heap.size W w1) => Fr.of_below (F := F) hb)
  obtain ⟨v0, hv0⟩ : ∃ v0, v0 = (goneB (x.K k) (x.Q k) n).2.2 := ⟨_, rfl⟩
  obtain ⟨y, hy⟩ : ∃ y, y = putB x k (goneB (x.K k) (x.Q k) n).1 (goneB (x.K k) (x.Q k) n).2.1 := ⟨_, rfl⟩
  simp only [← hv0, ← hy] at HH ⊢
  clear h hF hc e hk hv0 hy hle
  go_enter Tryd.func28, Tryd.ntmps28
  go_wp2_with fail
  refine HB.out.mono ?_
  rintro e w1 ⟨rfl, hb⟩
  have HH1 := Lib.hid (HH.out w1 hb)
  have HF1 := Lib.hid (HFr.out w1 hb)
  have HSZ := Lib.hid hb.size
  clear hb HH HFr
  go_wp2_with fail
  refine HH1.out.mono ?_
  rintro e w2 ⟨rfl, hx, hf⟩
  have HX := Lib.hid (hx.new_new HSZ.out)
  have HF2 := Lib.hid (HF1.out.trans hf (fun _ hi => .inl hi))
  clear hx hf
  go_wp2_with fail
  go_ret
  exact ⟨rfl, HX.out, HF2.out⟩
theorem Knows_any (h : Bx W F tb x) (hc : Consts W) (n : Int) : Calls Tryd.prog 20 #[.pointer (some ⟨tb, 0, none⟩), iv n] W fun e w' =>
    e = .returned (.bool (knowsT x n)) ∧ Bx w' F tb x ∧ Below W.heap.size W w' := by
  obtain ⟨sv, h, hF⟩ := h
  exact (knows_any h hc n).mono fun _ _ q => ⟨q.1, ⟨sv, h.below q.2, hF⟩, q.2⟩
end
end Go.Proofs.YtaicjdjfhbmfeaaDoor

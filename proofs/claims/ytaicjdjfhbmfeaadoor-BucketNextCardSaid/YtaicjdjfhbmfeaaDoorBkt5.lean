/-
  Package bucket: the bucket of an address, Knows, Own, New.
-/
import Derived.Test.YtaicjdjfhbmfeaaDoorBkt4
import Derived.Test.YtaicjdjfhbmfeaaDoorQui
namespace Go.Proofs.YtaicjdjfhbmfeaaDoor
open Go.RowKit Crv

section
variable {P : Program} {ops : Array Oper} {rest : List Oper} {o : Oper} {a : Act} {w : World} {Q : Exit → Act → World → Prop} {base : Nat} {e : TypeId} {v : Value} {xs : List Value}
/-- append(s, x..) at a plain region's list: what is turned, and where the row lies then. -/
theorem wp_append_gr (hown : Owns w base e v xs) (news : List Value) (s x : Operand) (t : TypeId) (i : TypeInfo) (z : Value) (hgd : o.guard = none) (ho : o.op = .call { callee := .builtin .append, args := #[s, x], argTypes := #[t, t] })
    (ht : P.underlying t = some (.slice e)) (hi : P.info? e = some i) (hz : i.zero = some z) (hsize : i.size = 1) (hby : i.bytes ≤ 64) (hzs : z.cells.size = 1)
    (hs : a.eval s = v) {g c : Nat} (hx : a.eval x = .slice (some ⟨g, 0, none⟩) news.length c) (hnews : ∀ j u, news[j]? = some u → w.cell? ⟨g, j, none⟩ = some u) (h1 : ∀ u ∈ news, u.oneCell' = true)
    (hlen : xs.length + news.length ≤ 1099511627776) (hbase : base ≤ w.heap.size)
    (h : ∀ v' w', Owns w' base e v' (xs ++ news) → w.grownBy w' v.ownBlock → (v'.ownBlock = v.ownBlock ∨ v'.ownBlock = some w.heap.size) → wpList P ops Q rest (a.put o.dst v') w') : wpList P ops Q (o :: rest) a w := by
  refine wpList_plain hgd fun K hK => ?_
  obtain ⟨v', w', hr, h2, h3, h4, h5⟩ := run_append_keep (P := P) hown news t o.type i z ht hi hz hsize hby hzs (c := c) hnews h1 hlen hbase
  unfold Oper.wp execOp
  simp only [ho, resolve, invoke, builtin, Sem.run_bind, Sem.run_pure, Result.andThen_ok, List.map_toArray, List.map_cons, List.map_nil, hs, hx, hr]
  exact hK _ _ (h v' w' h2 h3 h4)
end
section
variable {W W' : World} {tb : Nat} {sv : Nat → Value} {x : BS} {F : Nat → Prop}
theorem Tbl.ld (h : Tbl W tb sv x) : (ldRow TI (.pointer (some ⟨tb, 1, none⟩))).run Tryd.prog W = .ok (.agg (x.a.map byteV).toArray) W :=
  run_loadAt_mid _ tb 1 TI (x.a.map byteV) (.array 32 5) h.name Tryd.underlying36 rfl (sz_id x.a h.len)
attribute [local go_sem ↓] ld_id
set_option maxHeartbeats 1000000 in
set_option maxRecDepth 100000 in
theorem bucket_any (h : Tbl W tb sv x) (hc : Consts W) (n : Int) : Calls Tryd.prog 46 #[.pointer (some ⟨tb, 0, none⟩), iv n] W fun e w' =>
    e = .returned (.pointer (some ⟨tb, 33 + rowB x n * 2, none⟩)) ∧ Below W.heap.size W w' := by
  have HLD := Lib.hid (fun p : Bw W => (h.below p.h).ld)
  have HID := Lib.hid (fun p : Bw W => id_any n p.W (hc.below p.h))
  have HSH := Lib.hid (fun p : Bw W => shared_any x.a (idN n) p.W h.len (length_idN n))
  have hr : sharedOf x.a (idN n) = rowB x n := rfl
  rw [hr] at HSH
  clear hr
  have hle := rowB_le x n
  obtain ⟨k, hk⟩ : ∃ k, k = rowB x n := ⟨_, rfl⟩
  rw [← hk] at HSH hle ⊢
  clear hk
  have h0 : (0 : Int) ≤ (k : Int) ∧ (k : Int) < 257 := by omega
  have h1 : k < 257 := by omega
  clear h hc
  go_enter Tryd.func46, Tryd.ntmps46
  go_wp2_with fail
  have hld := HLD.out
  refine wp_region_bw (by kernel_rfl) (by kernel_rfl) ?_
  repeat (quiet_step ((first
    | (go_at_call 26; rename_i p; exact Bw.call (HID.out p))
    | (go_at_call 27; rename_i p; exact Bw.call (HSH.out p)))))
  refine wpQuiet_nil ?_
  rintro _ ⟨p, rfl⟩
  have HP := Lib.hid p.h
  obtain ⟨w1, hw1⟩ : ∃ w1, w1 = p.W := ⟨_, rfl⟩
  rw [← hw1] at HP ⊢
  clear hw1 p
  rename_i K hK
  refine hK _ _ ?_
  go_wp2_with fail
  go_ret
  exact ⟨rfl, HP.out⟩
theorem own_any (h : Tbl W tb sv x) : Calls Tryd.prog 16 #[.pointer (some ⟨tb, 0, none⟩)] W fun e w' => e = .returned (iv x.own) ∧ w' = W := by
  have h0 := h.ownc
  clear h
  go_enter Tryd.func16, Tryd.ntmps16
  go_wp2_with fail
  go_ret
  exact ⟨rfl, rfl⟩
set_option maxRecDepth 100000 in
theorem knows_any (h : Tbl W tb sv x) (hc : Consts W) (n : Int) : Calls Tryd.prog 20 #[.pointer (some ⟨tb, 0, none⟩), iv n] W fun e w' =>
    e = .returned (.bool (knowsT x n)) ∧ Below W.heap.size W w' := by
  have HB := Lib.hid (bucket_any h hc n)
  have HT := Lib.hid h
  have hkn : knowsT x n = decide (n ∈ x.K (rowB x n)) := rfl
  have hle := rowB_le x n
  rw [hkn]
  obtain ⟨k, hk⟩ : ∃ k, k = rowB x n := ⟨_, rfl⟩
  rw [← hk] at HB hle ⊢
  clear hk hkn h hc
  go_enter Tryd.func20, Tryd.ntmps20
  go_wp2_with fail
  refine HB.out.mono ?_
  rintro e w1 ⟨rfl, hb⟩
  have hT := HT.out.below hb
  have hc := hT.cell (k * 2) (by omega)
  have hO := hT.own (k * 2) (by omega)
  rw [lstB_K] at hO
  have HI := Lib.hid (contains_any hO (by have := hT.k4 k; omega) n)
  obtain ⟨a, cap, hs, -, -, -⟩ := hO.form
  rw [hs] at hc HI
  simp only [List.length_map] at hc HI
  have HBB := Lib.hid hb
  clear hT hO hs HT hb
  go_wp2_with fail
  refine HI.out.mono ?_
  rintro e w2 ⟨rfl, rfl⟩
  go_wp2_with fail
  go_ret
  exact ⟨rfl, HBB.out⟩
end
end Go.Proofs.YtaicjdjfhbmfeaaDoor

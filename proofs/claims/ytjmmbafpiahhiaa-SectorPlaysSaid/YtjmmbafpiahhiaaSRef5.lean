/-
  The document's disk: New.
-/
import Derived.Test.YtjmmbafpiahhiaaSRef4
import Derived.Deep.CutRange
namespace Go.Proofs.Ytjmmbafpiahhiaa
open Go.RowKit Go.Maps Crv
theorem rowS_zeros {n q : Nat} (h : q < n) : rowS (List.replicate (64 * n) 0) q 1 = List.replicate 64 0 := by
  unfold rowS
  rw [List.drop_replicate, List.take_replicate]
  congr 1
  omega
theorem rows_zeros (n : Nat) : rows (nowF (List.replicate (64 * n) 0)) n = List.replicate n (List.replicate 64 0) :=
  (rows_congr (g := fun _ => List.replicate 64 0) fun _ hq => rowS_zeros hq).trans (rows_const _ _)
theorem rep_step (z : List UInt8) (j : Nat) : (List.replicate j z).map tx ++ [tx z] = (List.replicate (j + 1) z).map tx := by
  rw [List.replicate_succ', List.map_append]; rfl
theorem repb_step (j : Nat) : List.replicate j (Value.bool false) ++ [Value.bool false] = List.replicate (j + 1) (Value.bool false) := by
  rw [List.replicate_succ']
theorem own_tag {w : World} {B : Nat} {e : TypeId} {v : Value} {xs : List Value} (h : Owns w B e v xs) : ∀ g, v.ownBlock = some g → ∃ cs, w.heap[g]? = some (Obj.cells cs e (0, 0)) := by
  intro g hg
  rcases h.2 with ⟨rfl, _⟩ | ⟨g', cap, cur, rfl, _, hm, _⟩
  · cases hg
  · injection hg with hg
    subst hg
    exact ⟨_, hm⟩
section
variable {P : Program} {ops : Array Oper} {o : Oper} {a : Act} {w : World} {Q : Exit → Act → World → Prop} {base : Nat} {e : TypeId} {v : Value} {xs : List Value}
theorem sstep_append_news {K : Act → World → Prop} {E : Prop} (hown : Owns w base e v xs) (news : List Value) (s x : Operand) (t : TypeId) (i : TypeInfo) (z : Value) (hgd : o.guard = none) (ho : o.op = .call { callee := .builtin .append, args := #[s, x], argTypes := #[t, t] })
    (ht : P.underlying t = some (.slice e)) (hi : P.info? e = some i) (hz : i.zero = some z) (hsize : i.size = 1) (hby : i.bytes ≤ 64) (hzs : z.cells.size = 1)
    (hs : a.eval s = v) {g c : Nat} (hx : a.eval x = .slice (some ⟨g, 0, none⟩) news.length c) (hnews : ∀ j u, news[j]? = some u → w.cell? ⟨g, j, none⟩ = some u) (h1 : ∀ u ∈ news, u.oneCell' = true)
    (hlen : xs.length + news.length ≤ 1099511627776) (hbase : base ≤ w.heap.size)
    (h : ∀ v' w', Owns w' base e v' (xs ++ news) → w.grownBy w' v.ownBlock → (v'.ownBlock = v.ownBlock ∨ v'.ownBlock = some w.heap.size) → K (a.put o.dst v') w') : if Region.wanted o (yielded ops a.tmps) = true then Oper.wp P o a w K Q else E := by
  have hw : Region.wanted o (yielded ops a.tmps) = true := by simp [Region.wanted, hgd]
  rw [if_pos hw]
  obtain ⟨v', w', hr, h2, h3, h4, _⟩ := run_append_keep (P := P) hown news t o.type i z ht hi hz hsize hby hzs (c := c) hnews h1 hlen hbase
  unfold Oper.wp execOp
  simp only [ho, resolve, invoke, builtin, Sem.run_bind, Sem.run_pure, Result.andThen_ok, List.map_toArray, List.map_cons, List.map_nil, hs, hx, hr]
  exact h v' w' h2 h3 h4
end
/-- What New keeps. -/
structure NwS (w : World) (z : List UInt8) (j1 j2 j3 : Nat) (v1 v2 v3 : Value) (W : World) : Prop where
  x : Bx w W zRd [v1, v2, v3, .int .i64 (-1)]
  s : Owns W (w.heap.size + 1 + 1) TS v1 ((List.replicate j1 z).map tx)
  n : Owns W (w.heap.size + 1 + 1) TS v2 ((List.replicate j2 z).map tx)
  l : Owns W (w.heap.size + 1 + 1) TBo v3 (List.replicate j3 (.bool false))
  d : ∀ g, v1.ownBlock = some g → v2.ownBlock ≠ some g
section
variable {w W W' : World} {z : List UInt8} {j1 j2 j3 : Nat} {v1 v2 v3 : Value}
theorem NwS.below (h : NwS w z j1 j2 j3 v1 v2 v3 W) (hb : Below W.heap.size W W') : NwS w z j1 j2 j3 v1 v2 v3 W' := ⟨h.x.below hb, h.s.below hb, h.n.below hb, h.l.below hb, h.d⟩
theorem NwS.apart (h : NwS w z j1 j2 j3 v1 v2 v3 W) : ∀ g, (v1.ownBlock = some g ∨ v2.ownBlock = some g) → v3.ownBlock ≠ some g := by
  intro g hg h3
  obtain ⟨cs, h4⟩ := own_tag h.l g h3
  rcases hg with hg | hg
  · obtain ⟨cs', h5⟩ := own_tag h.s g hg
    rw [h4] at h5
    injection h5 with h5
    injection h5 with _ h5
    exact absurd h5 (by decide)
  · obtain ⟨cs', h5⟩ := own_tag h.n g hg
    rw [h4] at h5
    injection h5 with h5
    injection h5 with _ h5
    exact absurd h5 (by decide)
theorem NwS.box (h : NwS w z j1 j2 j3 v1 v2 v3 W) {u : Value} (hu : ∀ g, u.ownBlock = some g → w.heap.size + 1 + 1 ≤ g) (hg : W.grownBy W' u.ownBlock) : Bx w W' zRd [v1, v2, v3, .int .i64 (-1)] :=
  ⟨h.x.d.grown hg (fun e => by have := hu _ e.symm; omega), h.x.r.grown hg (fun e => by have := hu _ e.symm; omega), ⟨hg.os.trans h.x.b.os, hg.tape.trans h.x.b.tape, hg.output.trans h.x.b.output, Nat.le_trans h.x.b.size hg.size, fun k hk => (hg.block k (Nat.lt_of_lt_of_le hk h.x.b.size) (fun e => by have := hu _ e.symm; omega)).trans (h.x.b.block k hk)⟩⟩
theorem aside {B : Nat} {T : TypeId} {v u : Value} {xs : List Value} (h : Owns W B T v xs) (hg : W.grownBy W' u.ownBlock) (hne : ∀ g, v.ownBlock = some g → u.ownBlock ≠ some g) : Owns W' B T v xs :=
  h.of_below fun g hb => hg.block g (h.lt g hb).1 (fun e => hne g hb e.symm)
theorem Bx.set {w0 : World} {d r : List Value} (h : Bx w0 W d r) (i : Nat) (u : Value) : Bx w0 (W.setCell ⟨w0.heap.size + 1, i, none⟩ u) d (r.set i u) :=
  ⟨h.d.other (by simp) _, h.r.set i u, below_cell h.b (Nat.le_succ _) _ _⟩
theorem NwS.sure (h : NwS w z j1 j2 j3 v1 v2 v3 W) {u : Value} (ho : Owns W' (w.heap.size + 1 + 1) TS u ((List.replicate (j1 + 1) z).map tx)) (hg : W.grownBy W' v1.ownBlock) (hat : u.ownBlock = v1.ownBlock ∨ u.ownBlock = some W.heap.size) : NwS w z (j1 + 1) j2 j3 u v2 v3 (W'.setCell ⟨w.heap.size + 1, 0, none⟩ u) :=
  ⟨(h.box (fun g e => (h.s.lt g e).2) hg).set 0 u, ho.lowCell (by omega), (aside h.n hg (fun g e e' => h.d g e' e)).lowCell (by omega), (aside h.l hg (fun g e e' => h.apart g (.inl e') e)).lowCell (by omega), fun g e e' => by
    rcases hat with h1 | h1
    · exact h.d g (h1 ▸ e) e'
    · rw [h1] at e
      injection e with e
      have := (h.n.lt g e').1
      omega⟩
theorem NwS.now (h : NwS w z j1 j2 j3 v1 v2 v3 W) {u : Value} (ho : Owns W' (w.heap.size + 1 + 1) TS u ((List.replicate (j2 + 1) z).map tx)) (hg : W.grownBy W' v2.ownBlock) (hat : u.ownBlock = v2.ownBlock ∨ u.ownBlock = some W.heap.size) : NwS w z j1 (j2 + 1) j3 v1 u v3 (W'.setCell ⟨w.heap.size + 1, 1, none⟩ u) :=
  ⟨(h.box (fun g e => (h.n.lt g e).2) hg).set 1 u, (aside h.s hg (fun g e e' => h.d g e e')).lowCell (by omega), ho.lowCell (by omega), (aside h.l hg (fun g e e' => h.apart g (.inr e') e)).lowCell (by omega), fun g e e' => by
    rcases hat with h1 | h1
    · exact h.d g e (h1 ▸ e')
    · rw [h1] at e'
      injection e' with e'
      have := (h.s.lt g e).1
      omega⟩
theorem NwS.loose (h : NwS w z j1 j2 j3 v1 v2 v3 W) {u : Value} (ho : Owns W' (w.heap.size + 1 + 1) TBo u (List.replicate (j3 + 1) (.bool false))) (hg : W.grownBy W' v3.ownBlock) : NwS w z j1 j2 (j3 + 1) v1 v2 u (W'.setCell ⟨w.heap.size + 1, 2, none⟩ u) :=
  ⟨(h.box (fun g e => (h.l.lt g e).2) hg).set 2 u, (aside h.s hg (fun g e e' => h.apart g (.inl e) e')).lowCell (by omega), (aside h.n hg (fun g e e' => h.apart g (.inr e) e')).lowCell (by omega), ho.lowCell (by omega), h.d⟩
end
set_option maxRecDepth 100000 in
set_option maxHeartbeats 1000000 in
theorem rnew_any (n : Nat) (hn : n ≤ 12) (w : World) :
    Calls Try.prog 11 #[.int .i64 (n : Int)] w fun e w' => ∃ v', e = .returned v' ∧ Rf w' v' n (List.replicate (64 * n) 0) (fun _ => none) (-1) ∧ Below w.heap.size w w' := by
  obtain ⟨tt, htt, htz, hts, htb⟩ := stext_info
  have HTT := Lib.hid htt
  have HTZ := Lib.hid htz
  have HTS := Lib.hid hts
  have HTB := Lib.hid (show tt.bytes ≤ 64 by omega)
  obtain ⟨tb, hut, huz, hus, hub⟩ := sbool_info
  have HUT := Lib.hid hut
  have HUZ := Lib.hid huz
  have HUS := Lib.hid hus
  have HUB := Lib.hid (show tb.bytes ≤ 64 by omega)
  have HFI := Lib.hid (fun W => rfill_any [] (by simp) W)
  have HZR := Lib.hid (rows_zeros n)
  rw [show ([] ++ List.replicate (64 - ([] : List UInt8).length) 0 : List UInt8) = List.replicate 64 0 from rfl] at HFI
  obtain ⟨z, hz⟩ : ∃ z, z = List.replicate 64 (0 : UInt8) := ⟨_, rfl⟩
  rw [← hz] at HFI HZR
  have HR1 := Lib.hid (rep_step z)
  have HONE := Lib.hid (show ∀ u ∈ [tx z], u.oneCell' = true by intro u hu; simp at hu; subst hu; rfl)
  have HONB := Lib.hid (show ∀ u ∈ [Value.bool false], u.oneCell' = true by intro u hu; simp at hu; subst hu; rfl)
  have HS0 := Lib.hid (show NwS w z 0 0 0 (.slice none 0 0) (.slice none 0 0) (.slice none 0 0) ((w.alloc (.cells zRd.toArray TRd)).alloc (.cells #[.slice none 0 0, .slice none 0 0, .slice none 0 0, .int .i64 (-1)] TRd)) from ⟨Bx.new w zRd [.slice none 0 0, .slice none 0 0, .slice none 0 0, .int .i64 (-1)], Owns.nil _ _ _, Owns.nil _ _ _, Owns.nil _ _ _, fun g e => by cases e⟩)
  clear htt htz hts htb hut huz hus hub hz
  go_enter Try.func11, Try.ntmps11
  go_wp2_with fail
  go_loopw [4] (fun i wr => ∃ j : Nat, j ≤ n ∧ i = .int .i64 (j : Int) ∧ ∃ a1 a2 a3 c1 c2 c3, Hid (NwS w z j j j (.slice a1 j c1) (.slice a2 j c2) (.slice a3 j c3) wr)) (fun i _ => n - (intOf i).toNat)
  case atStart => exact ⟨0, by omega, rfl, none, none, none, 0, 0, 0, HS0⟩
  case round =>
    obtain ⟨j, hj, rfl, a1, a2, a3, c1, c2, c3, HS⟩ := hrel
    clear HS0
    by_cases hlt : j < n
    · have hd1 : decide (j < n) = true := by simpa using hlt
      have hd2 : decide ((j : Int) < 65536) = true := by simp; omega
      have HLE := Lib.hid (show ((List.replicate j z).map tx).length + [tx z].length ≤ 1099511627776 by simp; omega)
      have HLB := Lib.hid (show (List.replicate j (Value.bool false)).length + [Value.bool false].length ≤ 1099511627776 by simp; omega)
      go_upto_region 5 with fail
      go_cut [] from 15 to 20 (fun wx => ∃ a4 c4, NwS w z (j + 1) j j (.slice a4 (j + 1) c4) (.slice a2 j c2) (.slice a3 j c3) wx)
      case first =>
        have HD := Lib.hid (HS.out.below (below_drewN (Below.refl _ _) 1))
        have hz0 : w.heap.size + 1 < wr.heap.size := HS.out.x.r.lt
        obtain ⟨⟨r0, q0⟩, ⟨r1, q1⟩, ⟨r2, q2⟩, ⟨r3, q3⟩⟩ := mem4 HS.out.x.r
        refine wp_region_held_drew (S := fun _ => True) (by kernel_rfl) trivial (fun hHeld => ?_)
        refine wpAnyH_take (i := 0) (oi := { dst := some 15, op := Op.fieldAddr 29 (Operand.tmp 3) 0, type := 0, pos := "ref.go:23", after := #[], guard := none }) (v := .pointer (some ⟨w.heap.size + 1, 0, none⟩)) rfl (by kernel_rfl) (by kernel_rfl) (by kernel_rfl) (fun _ _ _ h => h) (Or.inl ⟨by rfl, ?_⟩) hHeld ?_
        · intro w' hSw
          clear hSw
          go_simp
        simp only [Act.put, List.setIfInBounds_toArray, List.set_cons_zero, List.set_cons_succ]
        refine wpAnyH_ready (rs := [1, 2]) (by kernel_rfl) (by simp) (AllReadyH.cons rfl (fun K hK => ?_) (AllReadyH.cons rfl (fun K hK => ?_) AllReadyH.nil))
        · go_simp
          refine hK.out _ _ trivial (fun hP1 => ?_)
          clear hK K
          refine wpAnyH_ready (rs := [2]) (by kernel_rfl) (by simp) (AllReadyH.cons rfl (fun K hK => ?_) AllReadyH.nil)
          go_simp
          refine (HFI.out _).mono ?_
          rintro e wX ⟨rfl, rfl⟩
          dsimp only
          refine hK.out _ _ trivial (fun hP2 => ?_)
          clear hK K
          refine wpAnyH_ready (rs := [3]) (by kernel_rfl) (by simp) (AllReadyH.cons rfl (fun K hK => ?_) AllReadyH.nil)
          go_simp
          refine hK.out _ _ trivial (fun hP3 => ?_)
          clear hK K
          refine wpAnyH_ready (rs := [4]) (by kernel_rfl) (by simp) (AllReadyH.cons rfl (fun K hK => ?_) AllReadyH.nil)
          have HD1 := Lib.hid (HD.out.below (belowSelf _ (.cells #[tx z] TS)))
          refine sstep_append_news (base := w.heap.size + 1 + 1) HD1.out.s [tx z] (.tmp 16) (.tmp 18) 26 tt (.string ⟨#[]⟩) rfl rfl Try.underlying26 HTT.out HTZ.out HTS.out HTB.out rfl rfl (g := wr.heap.size) (c := 1) rfl (fun i u hu => cell_news_one _ _ _ i u hu) HONE.out HLE.out (by simp; omega) ?_
          intro v4 w4 ho4 hg4 hat4
          rw [HR1.out] at ho4
          obtain ⟨a4, c4, hv4, -, -, -⟩ := ho4.form
          rw [List.length_map, List.length_replicate] at hv4
          subst hv4
          have HE := Lib.hid (HD1.out.sure ho4 hg4 hat4)
          have HBx := Lib.hid (HD1.out.box (fun g e => (HD1.out.s.lt g e).2) hg4)
          clear ho4 hg4 hat4 hz0 r0 q0 r1 q1 r2 q2 r3 q3
          obtain ⟨⟨r0, q0⟩, ⟨r1, q1⟩, ⟨r2, q2⟩, ⟨r3, q3⟩⟩ := mem4 HBx.out.r
          have hz0 : w.heap.size + 1 < w4.heap.size := HBx.out.r.lt
          refine hK.out _ _ trivial (fun hR1 => ?_)
          clear hK K
          refine wpAnyH_take (i := 5) (oi := { dst := some 20, op := Op.fieldAddr 29 (Operand.tmp 3) 0, type := 0, pos := "ref.go:23", after := #[{ on := 0, ground := Ground.phase }, { on := 1, ground := Ground.phase }, { on := 2, ground := Ground.phase }, { on := 3, ground := Ground.phase }, { on := 4, ground := Ground.phase }], guard := none }) (v := .pointer (some ⟨w.heap.size + 1, 0, none⟩)) rfl (by kernel_rfl) (by kernel_rfl) (by kernel_rfl) (fun _ _ _ h => h) (Or.inl ⟨by rfl, ?_⟩) hR1 ?_
          · intro w' hSw
            clear hSw
            go_simp
          simp only [Act.put, List.setIfInBounds_toArray]
          refine wpAnyH_ready (rs := [6]) (by kernel_rfl) (by simp) (AllReadyH.cons rfl (fun K hK => ?_) AllReadyH.nil)
          go_simp
          refine hK.out _ _ trivial (fun hR2 => ?_)
          clear hK K
          refine wpAnyH_done (by kernel_rfl) ?_ _
          rename_i Kz hKz
          refine hKz _ _ ?_
          go_meet
          exact ⟨_, _, HE.out⟩
        · go_simp
          refine (HFI.out _).mono ?_
          rintro e wX ⟨rfl, rfl⟩
          dsimp only
          refine hK.out _ _ trivial (fun hP1 => ?_)
          clear hK K
          refine wpAnyH_ready (rs := [1, 3]) (by kernel_rfl) (by simp) (AllReadyH.cons rfl (fun K hK => ?_) (AllReadyH.cons rfl (fun K hK => ?_) AllReadyH.nil))
          · go_simp
            refine hK.out _ _ trivial (fun hP2 => ?_)
            clear hK K
            refine wpAnyH_ready (rs := [3]) (by kernel_rfl) (by simp) (AllReadyH.cons rfl (fun K hK => ?_) AllReadyH.nil)
            go_simp
            refine hK.out _ _ trivial (fun hP3 => ?_)
            clear hK K
            refine wpAnyH_ready (rs := [4]) (by kernel_rfl) (by simp) (AllReadyH.cons rfl (fun K hK => ?_) AllReadyH.nil)
            have HD1 := Lib.hid (HD.out.below (belowSelf _ (.cells #[tx z] TS)))
            refine sstep_append_news (base := w.heap.size + 1 + 1) HD1.out.s [tx z] (.tmp 16) (.tmp 18) 26 tt (.string ⟨#[]⟩) rfl rfl Try.underlying26 HTT.out HTZ.out HTS.out HTB.out rfl rfl (g := wr.heap.size) (c := 1) rfl (fun i u hu => cell_news_one _ _ _ i u hu) HONE.out HLE.out (by simp; omega) ?_
            intro v4 w4 ho4 hg4 hat4
            rw [HR1.out] at ho4
            obtain ⟨a4, c4, hv4, -, -, -⟩ := ho4.form
            rw [List.length_map, List.length_replicate] at hv4
            subst hv4
            have HE := Lib.hid (HD1.out.sure ho4 hg4 hat4)
            have HBx := Lib.hid (HD1.out.box (fun g e => (HD1.out.s.lt g e).2) hg4)
            clear ho4 hg4 hat4 hz0 r0 q0 r1 q1 r2 q2 r3 q3
            obtain ⟨⟨r0, q0⟩, ⟨r1, q1⟩, ⟨r2, q2⟩, ⟨r3, q3⟩⟩ := mem4 HBx.out.r
            have hz0 : w.heap.size + 1 < w4.heap.size := HBx.out.r.lt
            refine hK.out _ _ trivial (fun hR1 => ?_)
            clear hK K
            refine wpAnyH_take (i := 5) (oi := { dst := some 20, op := Op.fieldAddr 29 (Operand.tmp 3) 0, type := 0, pos := "ref.go:23", after := #[{ on := 0, ground := Ground.phase }, { on := 1, ground := Ground.phase }, { on := 2, ground := Ground.phase }, { on := 3, ground := Ground.phase }, { on := 4, ground := Ground.phase }], guard := none }) (v := .pointer (some ⟨w.heap.size + 1, 0, none⟩)) rfl (by kernel_rfl) (by kernel_rfl) (by kernel_rfl) (fun _ _ _ h => h) (Or.inl ⟨by rfl, ?_⟩) hR1 ?_
            · intro w' hSw
              clear hSw
              go_simp
            simp only [Act.put, List.setIfInBounds_toArray]
            refine wpAnyH_ready (rs := [6]) (by kernel_rfl) (by simp) (AllReadyH.cons rfl (fun K hK => ?_) AllReadyH.nil)
            go_simp
            refine hK.out _ _ trivial (fun hR2 => ?_)
            clear hK K
            refine wpAnyH_done (by kernel_rfl) ?_ _
            rename_i Kz hKz
            refine hKz _ _ ?_
            go_meet
            exact ⟨_, _, HE.out⟩
          · go_simp
            refine hK.out _ _ trivial (fun hP2 => ?_)
            clear hK K
            refine wpAnyH_ready (rs := [1]) (by kernel_rfl) (by simp) (AllReadyH.cons rfl (fun K hK => ?_) AllReadyH.nil)
            go_simp
            refine hK.out _ _ trivial (fun hP3 => ?_)
            clear hK K
            refine wpAnyH_ready (rs := [4]) (by kernel_rfl) (by simp) (AllReadyH.cons rfl (fun K hK => ?_) AllReadyH.nil)
            have HD1 := Lib.hid (HD.out.below (belowSelf _ (.cells #[tx z] TS)))
            refine sstep_append_news (base := w.heap.size + 1 + 1) HD1.out.s [tx z] (.tmp 16) (.tmp 18) 26 tt (.string ⟨#[]⟩) rfl rfl Try.underlying26 HTT.out HTZ.out HTS.out HTB.out rfl rfl (g := wr.heap.size) (c := 1) rfl (fun i u hu => cell_news_one _ _ _ i u hu) HONE.out HLE.out (by simp; omega) ?_
            intro v4 w4 ho4 hg4 hat4
            rw [HR1.out] at ho4
            obtain ⟨a4, c4, hv4, -, -, -⟩ := ho4.form
            rw [List.length_map, List.length_replicate] at hv4
            subst hv4
            have HE := Lib.hid (HD1.out.sure ho4 hg4 hat4)
            have HBx := Lib.hid (HD1.out.box (fun g e => (HD1.out.s.lt g e).2) hg4)
            clear ho4 hg4 hat4 hz0 r0 q0 r1 q1 r2 q2 r3 q3
            obtain ⟨⟨r0, q0⟩, ⟨r1, q1⟩, ⟨r2, q2⟩, ⟨r3, q3⟩⟩ := mem4 HBx.out.r
            have hz0 : w.heap.size + 1 < w4.heap.size := HBx.out.r.lt
            refine hK.out _ _ trivial (fun hR1 => ?_)
            clear hK K
            refine wpAnyH_take (i := 5) (oi := { dst := some 20, op := Op.fieldAddr 29 (Operand.tmp 3) 0, type := 0, pos := "ref.go:23", after := #[{ on := 0, ground := Ground.phase }, { on := 1, ground := Ground.phase }, { on := 2, ground := Ground.phase }, { on := 3, ground := Ground.phase }, { on := 4, ground := Ground.phase }], guard := none }) (v := .pointer (some ⟨w.heap.size + 1, 0, none⟩)) rfl (by kernel_rfl) (by kernel_rfl) (by kernel_rfl) (fun _ _ _ h => h) (Or.inl ⟨by rfl, ?_⟩) hR1 ?_
            · intro w' hSw
              clear hSw
              go_simp
            simp only [Act.put, List.setIfInBounds_toArray]
            refine wpAnyH_ready (rs := [6]) (by kernel_rfl) (by simp) (AllReadyH.cons rfl (fun K hK => ?_) AllReadyH.nil)
            go_simp
            refine hK.out _ _ trivial (fun hR2 => ?_)
            clear hK K
            refine wpAnyH_done (by kernel_rfl) ?_ _
            rename_i Kz hKz
            refine hKz _ _ ?_
            go_meet
            exact ⟨_, _, HE.out⟩
      case rest =>
        obtain ⟨b1, d1, hcut1⟩ := hcut
        have HC5 := Lib.hid hcut1
        clear hcut1
        go_upto_region 6 with fail
        go_cut [] from 21 to 26 (fun wx => ∃ a4 c4, NwS w z (j + 1) (j + 1) j (.slice b1 (j + 1) d1) (.slice a4 (j + 1) c4) (.slice a3 j c3) wx)
        case first =>
          have HD := Lib.hid (HC5.out.below (below_drewN (Below.refl _ _) 1))
          have hz0 : w.heap.size + 1 < wc.heap.size := HC5.out.x.r.lt
          obtain ⟨⟨r0, q0⟩, ⟨r1, q1⟩, ⟨r2, q2⟩, ⟨r3, q3⟩⟩ := mem4 HC5.out.x.r
          refine wp_region_held_drew (S := fun _ => True) (by kernel_rfl) trivial (fun hHeld => ?_)
          refine wpAnyH_take (i := 0) (oi := { dst := some 21, op := Op.fieldAddr 29 (Operand.tmp 3) 1, type := 0, pos := "ref.go:24", after := #[], guard := none }) (v := .pointer (some ⟨w.heap.size + 1, 1, none⟩)) rfl (by kernel_rfl) (by kernel_rfl) (by kernel_rfl) (fun _ _ _ h => h) (Or.inl ⟨by rfl, ?_⟩) hHeld ?_
          · intro w' hSw
            clear hSw
            go_simp
          simp only [Act.put, List.setIfInBounds_toArray, List.set_cons_zero, List.set_cons_succ]
          refine wpAnyH_ready (rs := [1, 2]) (by kernel_rfl) (by simp) (AllReadyH.cons rfl (fun K hK => ?_) (AllReadyH.cons rfl (fun K hK => ?_) AllReadyH.nil))
          · go_simp
            refine hK.out _ _ trivial (fun hP1 => ?_)
            clear hK K
            refine wpAnyH_ready (rs := [2]) (by kernel_rfl) (by simp) (AllReadyH.cons rfl (fun K hK => ?_) AllReadyH.nil)
            go_simp
            refine (HFI.out _).mono ?_
            rintro e wX ⟨rfl, rfl⟩
            dsimp only
            refine hK.out _ _ trivial (fun hP2 => ?_)
            clear hK K
            refine wpAnyH_ready (rs := [3]) (by kernel_rfl) (by simp) (AllReadyH.cons rfl (fun K hK => ?_) AllReadyH.nil)
            go_simp
            refine hK.out _ _ trivial (fun hP3 => ?_)
            clear hK K
            refine wpAnyH_ready (rs := [4]) (by kernel_rfl) (by simp) (AllReadyH.cons rfl (fun K hK => ?_) AllReadyH.nil)
            have HD1 := Lib.hid (HD.out.below (belowSelf _ (.cells #[tx z] TS)))
            refine sstep_append_news (base := w.heap.size + 1 + 1) HD1.out.n [tx z] (.tmp 22) (.tmp 24) 26 tt (.string ⟨#[]⟩) rfl rfl Try.underlying26 HTT.out HTZ.out HTS.out HTB.out rfl rfl (g := wc.heap.size) (c := 1) rfl (fun i u hu => cell_news_one _ _ _ i u hu) HONE.out HLE.out (by simp; omega) ?_
            intro v4 w4 ho4 hg4 hat4
            rw [HR1.out] at ho4
            obtain ⟨a4, c4, hv4, -, -, -⟩ := ho4.form
            rw [List.length_map, List.length_replicate] at hv4
            subst hv4
            have HE := Lib.hid (HD1.out.now ho4 hg4 hat4)
            have HBx := Lib.hid (HD1.out.box (fun g e => (HD1.out.n.lt g e).2) hg4)
            clear ho4 hg4 hat4 hz0 r0 q0 r1 q1 r2 q2 r3 q3
            obtain ⟨⟨r0, q0⟩, ⟨r1, q1⟩, ⟨r2, q2⟩, ⟨r3, q3⟩⟩ := mem4 HBx.out.r
            have hz0 : w.heap.size + 1 < w4.heap.size := HBx.out.r.lt
            refine hK.out _ _ trivial (fun hR1 => ?_)
            clear hK K
            refine wpAnyH_take (i := 5) (oi := { dst := some 26, op := Op.fieldAddr 29 (Operand.tmp 3) 1, type := 0, pos := "ref.go:24", after := #[{ on := 0, ground := Ground.phase }, { on := 1, ground := Ground.phase }, { on := 2, ground := Ground.phase }, { on := 3, ground := Ground.phase }, { on := 4, ground := Ground.phase }], guard := none }) (v := .pointer (some ⟨w.heap.size + 1, 1, none⟩)) rfl (by kernel_rfl) (by kernel_rfl) (by kernel_rfl) (fun _ _ _ h => h) (Or.inl ⟨by rfl, ?_⟩) hR1 ?_
            · intro w' hSw
              clear hSw
              go_simp
            simp only [Act.put, List.setIfInBounds_toArray]
            refine wpAnyH_ready (rs := [6]) (by kernel_rfl) (by simp) (AllReadyH.cons rfl (fun K hK => ?_) AllReadyH.nil)
            go_simp
            refine hK.out _ _ trivial (fun hR2 => ?_)
            clear hK K
            refine wpAnyH_done (by kernel_rfl) ?_ _
            rename_i Kz hKz
            refine hKz _ _ ?_
            go_meet
            exact ⟨_, _, HE.out⟩
          · go_simp
            refine (HFI.out _).mono ?_
            rintro e wX ⟨rfl, rfl⟩
            dsimp only
            refine hK.out _ _ trivial (fun hP1 => ?_)
            clear hK K
            refine wpAnyH_ready (rs := [1, 3]) (by kernel_rfl) (by simp) (AllReadyH.cons rfl (fun K hK => ?_) (AllReadyH.cons rfl (fun K hK => ?_) AllReadyH.nil))
            · go_simp
              refine hK.out _ _ trivial (fun hP2 => ?_)
              clear hK K
              refine wpAnyH_ready (rs := [3]) (by kernel_rfl) (by simp) (AllReadyH.cons rfl (fun K hK => ?_) AllReadyH.nil)
              go_simp
              refine hK.out _ _ trivial (fun hP3 => ?_)
              clear hK K
              refine wpAnyH_ready (rs := [4]) (by kernel_rfl) (by simp) (AllReadyH.cons rfl (fun K hK => ?_) AllReadyH.nil)
              have HD1 := Lib.hid (HD.out.below (belowSelf _ (.cells #[tx z] TS)))
              refine sstep_append_news (base := w.heap.size + 1 + 1) HD1.out.n [tx z] (.tmp 22) (.tmp 24) 26 tt (.string ⟨#[]⟩) rfl rfl Try.underlying26 HTT.out HTZ.out HTS.out HTB.out rfl rfl (g := wc.heap.size) (c := 1) rfl (fun i u hu => cell_news_one _ _ _ i u hu) HONE.out HLE.out (by simp; omega) ?_
              intro v4 w4 ho4 hg4 hat4
              rw [HR1.out] at ho4
              obtain ⟨a4, c4, hv4, -, -, -⟩ := ho4.form
              rw [List.length_map, List.length_replicate] at hv4
              subst hv4
              have HE := Lib.hid (HD1.out.now ho4 hg4 hat4)
              have HBx := Lib.hid (HD1.out.box (fun g e => (HD1.out.n.lt g e).2) hg4)
              clear ho4 hg4 hat4 hz0 r0 q0 r1 q1 r2 q2 r3 q3
              obtain ⟨⟨r0, q0⟩, ⟨r1, q1⟩, ⟨r2, q2⟩, ⟨r3, q3⟩⟩ := mem4 HBx.out.r
              have hz0 : w.heap.size + 1 < w4.heap.size := HBx.out.r.lt
              refine hK.out _ _ trivial (fun hR1 => ?_)
              clear hK K
              refine wpAnyH_take (i := 5) (oi := { dst := some 26, op := Op.fieldAddr 29 (Operand.tmp 3) 1, type := 0, pos := "ref.go:24", after := #[{ on := 0, ground := Ground.phase }, { on := 1, ground := Ground.phase }, { on := 2, ground := Ground.phase }, { on := 3, ground := Ground.phase }, { on := 4, ground := Ground.phase }], guard := none }) (v := .pointer (some ⟨w.heap.size + 1, 1, none⟩)) rfl (by kernel_rfl) (by kernel_rfl) (by kernel_rfl) (fun _ _ _ h => h) (Or.inl ⟨by rfl, ?_⟩) hR1 ?_
              · intro w' hSw
                clear hSw
                go_simp
              simp only [Act.put, List.setIfInBounds_toArray]
              refine wpAnyH_ready (rs := [6]) (by kernel_rfl) (by simp) (AllReadyH.cons rfl (fun K hK => ?_) AllReadyH.nil)
              go_simp
              refine hK.out _ _ trivial (fun hR2 => ?_)
              clear hK K
              refine wpAnyH_done (by kernel_rfl) ?_ _
              rename_i Kz hKz
              refine hKz _ _ ?_
              go_meet
              exact ⟨_, _, HE.out⟩
            · go_simp
              refine hK.out _ _ trivial (fun hP2 => ?_)
              clear hK K
              refine wpAnyH_ready (rs := [1]) (by kernel_rfl) (by simp) (AllReadyH.cons rfl (fun K hK => ?_) AllReadyH.nil)
              go_simp
              refine hK.out _ _ trivial (fun hP3 => ?_)
              clear hK K
              refine wpAnyH_ready (rs := [4]) (by kernel_rfl) (by simp) (AllReadyH.cons rfl (fun K hK => ?_) AllReadyH.nil)
              have HD1 := Lib.hid (HD.out.below (belowSelf _ (.cells #[tx z] TS)))
              refine sstep_append_news (base := w.heap.size + 1 + 1) HD1.out.n [tx z] (.tmp 22) (.tmp 24) 26 tt (.string ⟨#[]⟩) rfl rfl Try.underlying26 HTT.out HTZ.out HTS.out HTB.out rfl rfl (g := wc.heap.size) (c := 1) rfl (fun i u hu => cell_news_one _ _ _ i u hu) HONE.out HLE.out (by simp; omega) ?_
              intro v4 w4 ho4 hg4 hat4
              rw [HR1.out] at ho4
              obtain ⟨a4, c4, hv4, -, -, -⟩ := ho4.form
              rw [List.length_map, List.length_replicate] at hv4
              subst hv4
              have HE := Lib.hid (HD1.out.now ho4 hg4 hat4)
              have HBx := Lib.hid (HD1.out.box (fun g e => (HD1.out.n.lt g e).2) hg4)
              clear ho4 hg4 hat4 hz0 r0 q0 r1 q1 r2 q2 r3 q3
              obtain ⟨⟨r0, q0⟩, ⟨r1, q1⟩, ⟨r2, q2⟩, ⟨r3, q3⟩⟩ := mem4 HBx.out.r
              have hz0 : w.heap.size + 1 < w4.heap.size := HBx.out.r.lt
              refine hK.out _ _ trivial (fun hR1 => ?_)
              clear hK K
              refine wpAnyH_take (i := 5) (oi := { dst := some 26, op := Op.fieldAddr 29 (Operand.tmp 3) 1, type := 0, pos := "ref.go:24", after := #[{ on := 0, ground := Ground.phase }, { on := 1, ground := Ground.phase }, { on := 2, ground := Ground.phase }, { on := 3, ground := Ground.phase }, { on := 4, ground := Ground.phase }], guard := none }) (v := .pointer (some ⟨w.heap.size + 1, 1, none⟩)) rfl (by kernel_rfl) (by kernel_rfl) (by kernel_rfl) (fun _ _ _ h => h) (Or.inl ⟨by rfl, ?_⟩) hR1 ?_
              · intro w' hSw
                clear hSw
                go_simp
              simp only [Act.put, List.setIfInBounds_toArray]
              refine wpAnyH_ready (rs := [6]) (by kernel_rfl) (by simp) (AllReadyH.cons rfl (fun K hK => ?_) AllReadyH.nil)
              go_simp
              refine hK.out _ _ trivial (fun hR2 => ?_)
              clear hK K
              refine wpAnyH_done (by kernel_rfl) ?_ _
              rename_i Kz hKz
              refine hKz _ _ ?_
              go_meet
              exact ⟨_, _, HE.out⟩
        case rest =>
          obtain ⟨b2, d2, hcut2⟩ := hcut
          have HC6 := Lib.hid hcut2
          have HC7 := Lib.hid (hcut2.below (belowSelf _ (.cells #[.bool false] TBo)))
          obtain ⟨⟨r0, q0⟩, ⟨r1, q1⟩, ⟨r2, q2⟩, ⟨r3, q3⟩⟩ := mem4 hcut2.x.r
          have hz0 := hcut2.x.r.lt
          clear hcut2
          go_wp2_with (first
            | (at_builtin; refine wp_append_news (base := w.heap.size + 1 + 1) HC7.out.l 0 (Below.refl 0 _) (Nat.zero_le _) [.bool false] (.tmp 28) (.tmp 29) 27 tb (.bool false) rfl rfl Try.underlying27 HUT.out HUZ.out HUS.out HUB.out rfl rfl rfl (fun i u hu => cell_news_one _ _ _ i u hu) HONB.out HLB.out HC7.out.x.r.lt ?_
               intro v8 w8 ho8 hb8 hz8 hg8 hat8
               rw [repb_step] at ho8
               obtain ⟨a8, c8, hv8, -, -, -⟩ := ho8.form
               rw [List.length_replicate] at hv8
               subst hv8
               have HE8 := Lib.hid (HC7.out.loose ho8 hg8)
               have hx8 := HC7.out.box (fun g e => (HC7.out.l.lt g e).2) hg8
               clear ho8 hb8 hz8 hg8 hat8 hz0 r0 q0 r1 q1 r2 q2 r3 q3
               obtain ⟨⟨r0, q0⟩, ⟨r1, q1⟩, ⟨r2, q2⟩, ⟨r3, q3⟩⟩ := mem4 hx8.r
               have hz0 := hx8.r.lt
               clear hx8)
            | fail)
          go_roundw
          case rel => exact ⟨j + 1, by omega, by go_num, b1, b2, a8, d1, d2, c8, HE8⟩
          case measure => simp [intOf]; omega
    · have ej : j = n := by omega
      subst ej
      have hd1 : decide (j < j) = false := by simp
      have ONE := Lib.hid (oneRd a1 a2 a3 c1 c2 c3 j (-1))
      go_wp2_with (first
        | (refine wp_load_mem HS.out.x.r TRd (.tmp 3) _ rfl rfl rfl Try.underlying29 rfl szRd ?_)
        | (refine wp_store_gen (B := w.heap.size) (w0 := w) HS.out.x.b (Nat.le_refl _) HS.out.x.d (rdC a1 a2 a3 c1 c2 c3 j (-1)) TRd (.tmp 2) (.tmp 32) rfl rfl rfl rfl szRd rfl ONE.out ?_
           intro W4 hm4 hb4 hz4 hk4
           have HX4 := Lib.hid (HS.out.x.setD hm4 hb4 hk4)
           have HK4 := Lib.hid hk4
           clear hm4 hb4 hz4 hk4)
        | fail)
      refine bodyPost_ret (results_mem HX4.out.d rfl _ _ rfl Try.underlying29 rfl szRd) rfl ⟨_, rfl, ⟨a1, a2, a3, c1, c2, c3, rfl, ?_, ?_, ?_⟩, HX4.out.b⟩
      · rw [sure_none', HZR.out]
        exact sowns_base (HS.out.s.of_below fun g hg => HK4.out g (by have := (HS.out.s.lt g hg).2; omega)) (Nat.zero_le _)
      · rw [HZR.out]
        exact sowns_base (HS.out.n.of_below fun g hg => HK4.out g (by have := (HS.out.n.lt g hg).2; omega)) (Nat.zero_le _)
      · rw [loose_none]
        exact sowns_base (HS.out.l.of_below fun g hg => HK4.out g (by have := (HS.out.l.lt g hg).2; omega)) (Nat.zero_le _)
end Go.Proofs.Ytjmmbafpiahhiaa

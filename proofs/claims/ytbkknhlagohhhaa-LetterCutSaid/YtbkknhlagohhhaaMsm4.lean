/-
  Mesh: send, of one packet.
-/
import Derived.Test.YtbkknhlagohhhaaMsm3
namespace Go.Proofs.Ytbkknhlagohhhaa
open Go.RowKit Crv

section
variable {P : Program} {ops : Array Oper} {rest : List Oper} {o : Oper} {a : Act} {w : World} {Q : Exit → Act → World → Prop} {base : Nat} {e : TypeId} {v : Value} {xs : List Value}
/-- append(s, x..) at a plain region's list: what is turned, and where the row lies then. -/
theorem wp_append_gr (hown : Owns w base e v xs) (news : List Value) (s x : Operand) (t : TypeId) (i : TypeInfo) (z : Value) (hgd : o.guard = none) (ho : o.op = .call { callee := .builtin .append, args := #[s, x], argTypes := #[t, t] })
    (ht : P.underlying t = some (.slice e)) (hi : P.info? e = some i) (hz : i.zero = some z) (hsize : i.size = 1) (hby : i.bytes ≤ 64) (hzs : z.cells.size = 1)
    (hs : a.eval s = v) {g c : Nat} (hx : a.eval x = .slice (some ⟨g, 0, none⟩) news.length c) (hnews : ∀ j u, news[j]? = some u → w.cell? ⟨g, j, none⟩ = some u) (h1 : ∀ u ∈ news, u.oneCell' = true)
    (hlen : xs.length + news.length ≤ 1099511627776) (hbase : base ≤ w.heap.size)
    (h : ∀ v' w', Owns w' base e v' (xs ++ news) → w.grownBy w' v.ownBlock → (v'.ownBlock = v.ownBlock ∨ v'.ownBlock = some w.heap.size) → wpList P ops Q rest (a.put o.dst v') w') : wpList P ops Q (o :: rest) a w := by
  refine wpList_plain hgd fun K hK => ?_
  obtain ⟨v', w', hr, h2, h3, h4, h5⟩ := run_append_keep (P := P) hown news t o.type i z ht hi hz hsize hby hzs (c := c) hnews h1 hlen hbase
  unfold Oper.wp execOp
  simp only [ho, resolve, invoke, builtin, Sem.run_bind, Sem.run_pure, Result.andThen_ok, List.map_toArray, List.map_cons, List.map_nil, hs, hx, hr]
  exact hK _ _ (h v' w' h2 h3 h4)
end
theorem str_inf : ∃ i, Try.prog.info? Tst = some i ∧ i.zero = some (.string ⟨#[]⟩) ∧ i.size = 1 ∧ i.bytes = 16 := info_of (by kernel_rfl)
section
variable {W W' : World} {mb bb : Nat} {qb : Nat → Nat} {sv : Nat → Nat → Value} {x : MS} {F : Nat → Prop}
theorem Msh.atq (h : Msh W mb bb qb sv x) {t f : Nat} (ht : t < x.n) (hf : f < x.n) (hg : W.grownBy W' (sv t f).ownBlock) : W'.cell? ⟨qb t, f, none⟩ = some (sv t f) ∧ W'.frozen? ⟨qb t, f, none⟩ = false := by
  have h3 : W'.heap[qb t]? = W.heap[qb t]? := hg.block _ (h.tqb t ht).lt (fun e => ((h.tqb t ht).apart (owns_tag (h.own t f ht hf) _ e.symm) (by decide)) rfl)
  exact ⟨(World.cell?_of_block (a := ⟨qb t, f, none⟩) h3).trans (h.que t f ht hf), ((h.tqb t ht).of h3).frozen f⟩
/-- A queue that was turned, as a mesh within F. -/
theorem Mx.put (h : Msh W mb bb qb sv x) (hF : ∀ b, Foot mb bb qb sv x.n b → F b) {t0 f0 : Nat} (ht0 : t0 < x.n) (hf0 : f0 < x.n) {v' : Value} {l : List (List UInt8)} (ho : Owns W' 0 Tst v' (l.map tx)) (hl : l.length ≤ 8)
    (hg : W.grownBy W' (sv t0 f0).ownBlock) (hat : v'.ownBlock = (sv t0 f0).ownBlock ∨ ∃ g, v'.ownBlock = some g ∧ W.heap.size ≤ g) :
    Mx (W'.setCell ⟨qb t0, f0, none⟩ v') (And_new F W) mb { x with q := upd2 x.q t0 f0 l } ∧ Fr F W (W'.setCell ⟨qb t0, f0, none⟩ v') := by
  have hq : F (qb t0) := hF _ (.inr (.inr (.inl ⟨t0, ht0, rfl⟩)))
  refine ⟨⟨bb, qb, _, h.put ht0 hf0 ho hl hg hat, fun b hb => ?_⟩, (Fr.of_grown hg fun k hk => hF k (.inr (.inr (.inr ⟨t0, f0, ht0, hf0, hk⟩)))).trans (Fr.set (F := F) ⟨qb t0, f0, none⟩ v' hq) (fun i hi => .inl hi)⟩
  rcases hb with rfl | rfl | ⟨t, ht, rfl⟩ | ⟨t, f, ht, hf, hb⟩
  · exact .inl (hF _ (.inl rfl))
  · exact .inl (hF _ (.inr (.inl rfl)))
  · exact .inl (hF _ (.inr (.inr (.inl ⟨t, ht, rfl⟩))))
  · by_cases e : t = t0 ∧ f = f0
    · obtain ⟨rfl, rfl⟩ := e
      rw [upd2_same] at hb
      rcases hat with hat | ⟨g, hat, hge⟩
      · exact .inl (hF _ (.inr (.inr (.inr ⟨t, f, ht, hf, hat ▸ hb⟩))))
      · have : g = b := by rw [hat] at hb; injection hb
        exact .inr (by omega)
    · rw [upd2_other _ _ e] at hb
      exact .inl (hF _ (.inr (.inr (.inr ⟨t, f, ht, hf, hb⟩))))
theorem Mx.lostTo (h : Msh W mb bb qb sv x) (hF : ∀ b, Foot mb bb qb sv x.n b → F b) (k : Nat) (z : Int) (hz : z = k) : Mx (W.setCell ⟨mb, 1, none⟩ (.int .i64 z)) (And_new F W) mb { x with lost := k } ∧ Fr F W (W.setCell ⟨mb, 1, none⟩ (.int .i64 z)) := by
  subst hz
  exact ⟨⟨bb, qb, sv, h.setLost k, fun b hb => .inl (hF b hb)⟩, Fr.set _ _ (hF _ (.inl rfl))⟩
theorem Mx.same (h : Msh W mb bb qb sv x) (hF : ∀ b, Foot mb bb qb sv x.n b → F b) : Mx W (And_new F W) mb x ∧ Fr F W W := ⟨⟨bb, qb, sv, h, fun b hb => .inl (hF b hb)⟩, Fr.refl _ _⟩
set_option maxHeartbeats 1000000 in
set_option maxRecDepth 100000 in
theorem send1_any (hX : Mx W F mb x) (hlo : x.lost ≤ 1000000) (fr to : Int) (text : List UInt8) : Calls Try.prog 80 #[.pointer (some ⟨mb, 0, none⟩), .int .i64 to, .int .i64 fr, tx text] W fun e w' =>
    e = .returned (.int .i64 (sendM x fr text to).2) ∧ Mx w' (And_new F W) mb (sendM x fr text to).1 ∧ Fr F W w' := by
  obtain ⟨bb, qb, sv, h, hF⟩ := hX
  have HA := Lib.hid (isAddress_any h)
  by_cases ha : isAdr x.n to = true
  · by_cases hb : isAdr x.n fr = true
    · have HA1 := Lib.hid (HA.out to)
      have HA2 := Lib.hid (HA.out fr)
      rw [ha] at HA1
      rw [hb] at HA2
      clear HA
      by_cases hbig : 1024 < text.length
      · have e : sendM x fr text to = ({ x with lost := x.lost + 1 }, 5) := by simp [sendM, ha, hb, hbig]
        rw [e]
        have HP := Lib.hid (Mx.lostTo (F := F) h hF (x.lost + 1) ((x.lost : Int) + 1) (by omega))
        have hc := h.lostc
        have hfz := h.tmb.frozen 1
        have hbg : (1024 : Int) < (text.length : Int) := by omega
        clear h hF e ha hb hbig
        go_enter Try.func80, Try.ntmps80
        go_wp2_with fail
        refine HA1.out.mono ?_
        rintro e w' ⟨rfl, rfl⟩
        go_wp2_with fail
        refine HA2.out.mono ?_
        rintro e w' ⟨rfl, rfl⟩
        go_wp2_with fail
        go_ret
        exact ⟨rfl, HP.out⟩
      · have hbg : ¬ (1024 : Int) < (text.length : Int) := by omega
        obtain ⟨t, rfl, ht⟩ := isAdr_true ha
        obtain ⟨f, rfl, hf⟩ := isAdr_true hb
        have HQ := Lib.hid (queue_any h t f ht hf)
        have hq := h.que t f ht hf
        obtain ⟨a, cap, hs, hcap⟩ := h.form ht hf
        rw [hs] at hq
        by_cases hfull : 8 ≤ (x.q t f).length
        · have e : sendM x f text t = ({ x with lost := x.lost + 1 }, 14) := by simp [sendM, ha, hb, hbig, hfull]
          rw [e]
          have HP := Lib.hid (Mx.lostTo (F := F) h hF (x.lost + 1) ((x.lost : Int) + 1) (by omega))
          have hc := h.lostc
          have hfz := h.tmb.frozen 1
          have h8 : (8 : Int) ≤ ((x.q t f).length : Int) := by omega
          clear h hF e ha hb hbig hs
          go_enter Try.func80, Try.ntmps80
          go_wp2_with fail
          refine HA1.out.mono ?_
          rintro e w' ⟨rfl, rfl⟩
          go_wp2_with fail
          refine HA2.out.mono ?_
          rintro e w' ⟨rfl, rfl⟩
          go_wp2_with fail
          refine HQ.out.mono ?_
          rintro e w' ⟨rfl, rfl⟩
          go_wp2_with fail
          go_ret
          exact ⟨rfl, HP.out⟩
        · have e : sendM x f text t = ({ x with q := upd2 x.q t f (x.q t f ++ [text]) }, 0) := by simp [sendM, ha, hb, hbig, hfull]
          rw [e]
          have h8 : ¬ (8 : Int) ≤ ((x.q t f).length : Int) := by omega
          have HH := Lib.hid h
          have HFF := Lib.hid hF
          have HT := Lib.hid ht
          have HFv := Lib.hid hf
          have HSV := Lib.hid hs
          have HL8 := Lib.hid (show (x.q t f ++ [text]).length ≤ 8 by rw [List.length_append]; simp; omega)
          have HO := Lib.hid (h.own t f ht hf)
          have HLEN := Lib.hid (show ((x.q t f).map tx).length + [tx text].length ≤ 1099511627776 by rw [List.length_map]; simp; omega)
          have HONE := Lib.hid (show ∀ u ∈ [tx text], u.oneCell' = true by intro u hu; simp at hu; subst hu; rfl)
          obtain ⟨ti, hi, hz, hs1, hby⟩ := str_inf
          have HBY : ti.bytes ≤ 64 := by omega
          have HI := Lib.hid hi
          have HZ := Lib.hid hz
          have HS := Lib.hid hs1
          clear h hF e ha hb hbig hs ht hf hi hz hs1 hby hfull hlo
          go_enter Try.func80, Try.ntmps80
          go_wp2_with fail
          refine HA1.out.mono ?_
          rintro e w' ⟨rfl, rfl⟩
          go_wp2_with fail
          refine HA2.out.mono ?_
          rintro e w' ⟨rfl, rfl⟩
          go_wp2_with fail
          refine HQ.out.mono ?_
          rintro e w' ⟨rfl, rfl⟩
          go_wp2_with (first
            | (at_builtin; refine wp_append_gr (v := .slice a (x.q t f).length cap) ((HSV.out ▸ HO.out).alloc _) [tx text] (.tmp 49) (.tmp 51) 79 ti (.string ⟨#[]⟩) rfl rfl Try.underlying79 HI.out HZ.out HS.out HBY rfl rfl rfl (fun j u hu => cell_news_one _ _ _ j u hu) HONE.out HLEN.out (Nat.zero_le _) ?_
               intro v3 w3 hown3 hg3 hat3
               obtain ⟨a3, c3, rfl, -, -, -⟩ := hown3.form
               have HO3 := Lib.hid hown3
               have HG3 := Lib.hid hg3
               have HAT3 := Lib.hid hat3
               obtain ⟨⟨hc3, hz3⟩⟩ : Nonempty (PProd (w3.cell? ⟨qb t, f, none⟩ = some (.slice a (x.q t f).length cap)) (w3.frozen? ⟨qb t, f, none⟩ = false)) := by
                 have h3 := (HH.out.below (belowSelf w' (.cells #[tx text] 9))).atq HT.out HFv.out (by rw [HSV.out]; exact HG3.out)
                 rw [HSV.out] at h3
                 exact ⟨⟨h3.1, h3.2⟩⟩
               clear hown3 hg3 hat3)
            | fail)
          go_ret
          have h4 := Mx.put (HH.out.below (belowSelf w' (.cells #[tx text] 9))) HFF.out HT.out HFv.out (l := x.q t f ++ [text]) (by rw [List.map_append]; exact HO3.out) HL8.out (by rw [HSV.out]; exact HG3.out) (by
            rw [HSV.out]
            rcases HAT3.out with h | h
            · exact .inl h
            · exact .inr ⟨_, h, Nat.le_refl _⟩)
          rw [show (List.map tx (x.q t f) ++ [tx text]).length = (x.q t f).length + 1 by simp] at h4
          have hsz : w'.heap.size ≤ (w'.alloc (.cells #[tx text] 9)).heap.size := (belowSelf w' _).size
          exact ⟨rfl, h4.1.mono (fun b _ hb => hb.imp id (fun h => Nat.le_trans hsz h)), (Fr.of_below (F := F) (belowSelf w' _)).trans h4.2 (fun i hi => .inl hi)⟩
    · have hb' : isAdr x.n fr = false := by simpa using hb
      have e : sendM x fr text to = (x, 10) := by simp [sendM, ha, hb']
      rw [e]
      have HP := Lib.hid (Mx.same (F := F) h hF)
      have HA1 := Lib.hid (HA.out to)
      have HA2 := Lib.hid (HA.out fr)
      rw [ha] at HA1
      rw [hb'] at HA2
      clear h hF e ha hb hb' HA
      go_enter Try.func80, Try.ntmps80
      go_wp2_with fail
      refine HA1.out.mono ?_
      rintro e w' ⟨rfl, rfl⟩
      go_wp2_with fail
      refine HA2.out.mono ?_
      rintro e w' ⟨rfl, rfl⟩
      go_wp2_with fail
      go_ret
      exact ⟨rfl, HP.out⟩
  · have ha' : isAdr x.n to = false := by simpa using ha
    have e : sendM x fr text to = (x, 10) := by simp [sendM, ha']
    rw [e]
    have HP := Lib.hid (Mx.same (F := F) h hF)
    have HA1 := Lib.hid (HA.out to)
    rw [ha'] at HA1
    clear h hF e ha ha' HA
    go_enter Try.func80, Try.ntmps80
    go_wp2_with fail
    refine HA1.out.mono ?_
    rintro e w' ⟨rfl, rfl⟩
    go_wp2_with fail
    go_ret
    exact ⟨rfl, HP.out⟩
end
end Go.Proofs.Ytbkknhlagohhhaa

/-
  Package cutter: Write.
-/
import Derived.Test.YtbjeiiofanpkdaaDoorCut8
namespace Go.Proofs.YtbjeiiofanpkdaaDoor
open Go.RowKit Crv

/-- append(b, s...) of a text onto bytes of one's own, as one step of a region that draws its order. -/
theorem step_append_strK {P : Program} {ops : Array Oper} {o : Oper} {a : Act} {w : World} {Q : Exit → Act → World → Prop} {K : Act → World → Prop} {E : Prop} {base : Nat} {e : TypeId} {v : Value} {xs : List Value} (hown : Owns w base e v xs)
    (l : List UInt8) (s x : Operand) (t u : TypeId) (i : TypeInfo) (hgd : o.guard = none) (ho : o.op = .call { callee := .builtin .append, args := #[s, x], argTypes := #[t, u] })
    (ht : P.underlying t = some (.slice e)) (hu : P.underlying u = some .string) (hi : P.info? e = some i) (hz : i.zero = some (.int .u8 0)) (hsize : i.size = 1) (hby : i.bytes = 1)
    (hs : a.eval s = v) (hx : a.eval x = .string (str l)) (hlen : xs.length + l.length ≤ 140737488355328) (hbase : base ≤ w.heap.size)
    (h : ∀ v' w', Owns w' base e v' (xs ++ l.map byteV) → w.grownBy w' v.ownBlock → K (a.put o.dst v') w') : if Region.wanted o (yielded ops a.tmps) = true then Oper.wp P o a w K Q else E := by
  have hw : Region.wanted o (yielded ops a.tmps) = true := by simp [Region.wanted, hgd]
  rw [if_pos hw]
  obtain ⟨v', w', hr, h2, h3, h4⟩ := Lib.run_append_own_string (P := P) w base t u o.type e i ht hu hi hz hsize hby v xs.length xs hown (str l) (by simp only [maxLen, size_str]; omega) (by simp only [size_str]; omega) hbase
  unfold Oper.wp execOp
  simp only [ho, resolve, invoke, builtin, Sem.run_bind, Sem.run_pure, Result.andThen_ok, List.map_toArray, List.map_cons, List.map_nil, hs, hx, hr]
  refine h v' w' ?_ h3
  unfold Owns
  rw [List.length_append, List.length_map]
  exact h2
/-- What is kept while parts are gone through. -/
def WrS (w : World) (B cb rb tb : Nat) (t : List Nat) (h q : List UInt8) (o : Value) (wr : World) : Prop :=
  ∃ ls h' hv', Owns wr w.heap.size 9 o (ls.map tx) ∧ CutH wr B cb rb tb t (rollAll t h') h'.length h' hv' ∧ Fed t h q ls h' ∧ Kt B w wr
theorem fed_count {t : List Nat} {h q : List UInt8} {ls : List (List UInt8)} {h' : List UInt8} (f : Fed t h q ls h') : ls.length ≤ h.length + q.length := by
  have h1 := f.cut []
  rw [List.append_nil, List.append_nil] at h1
  have h2 := length_cuts t (h ++ q)
  rw [h1, List.length_append, List.length_append] at h2
  omega
theorem rollAll_append (t : List Nat) (a b : List UInt8) : rollFrom t (rollAll t a) b = rollAll t (a ++ b) := by unfold rollAll; rw [rollFrom_append]
theorem txs_kept {w w' : World} {B : Nat} {v : Value} {ls : List (List UInt8)} (h : Txs w v ls) (hk : Kt B w w') (hm : ∀ g, v.ownBlock = some g → ¬ Mine B w g) : Txs w' v ls := by
  obtain ⟨a, cap, hv, hc⟩ := h
  refine ⟨a, cap, hv, fun i hi => ?_⟩
  obtain ⟨b, off, ha, hcell⟩ := hc i hi
  refine ⟨b, off, ha, ?_⟩
  subst hv
  subst ha
  rw [World.cell?_of_block (hk.block b (World.block_lt_of_cell? w _ hcell) (hm b rfl))]
  exact hcell
/-- A list of texts of one's own, where something else turns. -/
theorem strs_kept {A C : World} {base : Nat} {o : Value} {xs : List Value} {row : Option Nat} (h : Owns A base 9 o xs) (hg : A.grownBy C row) (hr : ∀ g, row = some g → ∃ cs T fr, A.heap[g]? = some (Obj.cells cs T fr) ∧ T ≠ 9) : Owns C base 9 o xs := h.of_below (fun g hgo => by
  obtain ⟨cs, hcs⟩ := row_tag h g hgo
  refine hg.block g (Array.getElem?_eq_some_iff.1 hcs).1 (fun e => ?_)
  obtain ⟨cs', T, fr, h1, h2⟩ := hr g e.symm
  rw [hcs] at h1
  injection h1 with h1
  injection h1 with _ h1
  exact h2 h1.symm)
set_option maxRecDepth 100000 in
theorem slice_none (a : Option Addr) (n cap : Nat) (w : World) : (Instr.slice 26 (.slice a n cap) none (some (.int .i64 0)) none).run Tryd.prog w = .ok (.slice a 0 cap) w := by
  have h0 : ∀ x : Addr, x.add 0 = x := fun x => by unfold Addr.add; split <;> simp_all
  cases a <;> simp [Instr.slice, Instr.sliceBounds, Instr.sliceBound, asIntOf, run_underlying Tryd.underlying26, Result.andThen, h0]
theorem flat_at (ps : List (List UInt8)) (k : Nat) (h : k < ps.length) : (ps.take (k + 1)).flatten = (ps.take k).flatten ++ ps.getD k [] := flatten_take_succ ps k h
set_option maxHeartbeats 4000000 in
set_option maxRecDepth 100000 in
theorem write8_any (B cb rb tb : Nat) (t : List Nat) (h : List UInt8) (hv v : Value) (ps : List (List UInt8)) (w : World) (H : CutH w B cb rb tb t (rollAll t h) h.length h hv) (hn : NoStop t h)
    (hp : Txs w v ps) (hpm : ∀ g, v.ownBlock = some g → ¬ Mine B w g) (hpl : ps.length ≤ 1000000) (hpf : ps.flatten.length ≤ 1000000) :
    Calls Tryd.prog 45 #[pV cb, v] w fun e w' => ∃ v' ls h' hv', e = .returned v' ∧ Owns w' w.heap.size 9 v' (ls.map tx) ∧ CutH w' B cb rb tb t (rollAll t h') h'.length h' hv' ∧ Fed t h ps.flatten ls h' ∧ Kt B w w' := by
  have HS0 := Lib.hid (show WrS w B cb rb tb t h (ps.take 0).flatten (.slice none 0 0) w from ⟨[], h, hv, Owns.nil _ _ _, H, Fed.start hn, Kt.refl B w⟩)
  have HP := Lib.hid hp
  have HPM := Lib.hid hpm
  have hh := hn.short
  have HBS := Lib.hid H.bs
  obtain ⟨ax, capx, hva, _⟩ := hp
  obtain ⟨ti, hi, hz, hsz, hby⟩ := str_info
  obtain ⟨bi, hbi, hbz, hbs, hbby⟩ : ∃ i, Tryd.prog.info? 5 = some i ∧ i.zero = some (.int .u8 0) ∧ i.size = 1 ∧ i.bytes = 1 := info_of (by kernel_rfl)
  have HTI := Lib.hid hi
  have HTZ := Lib.hid hz
  have HTS := Lib.hid hsz
  have HTB := Lib.hid (show ti.bytes ≤ 64 by omega)
  have HBI := Lib.hid hbi
  have HBZ := Lib.hid hbz
  have HBZS := Lib.hid hbs
  have HBBY := Lib.hid hbby
  subst hva
  clear hpm H hn hi hz hsz hby hbi hbz hbs hbby
  go_enter Tryd.func45, Tryd.ntmps45
  go_wp2_with fail
  go_loopw [5, 12] (fun o i wr => ∃ k : Nat, k ≤ ps.length ∧ i = .int .i64 k ∧ Hid (WrS w B cb rb tb t h (ps.take k).flatten o wr)) (fun _ i _ => ps.length - (intOf i).toNat)
  case atStart => exact ⟨0, by omega, rfl, HS0⟩
  case round =>
    obtain ⟨k, hk, rfl, HR⟩ := hrel
    clear HS0
    by_cases hlt : k < ps.length
    · have hd : decide ((k : Int) < (ps.length : Int)) = true := by simp; omega
      have hd2 : decide (k < ps.length) = true := by simpa using hlt
      obtain ⟨a', cap', hv', hc'⟩ := txs_kept HP.out HR.out.choose_spec.choose_spec.choose_spec.2.2.2 HPM.out
      injection hv' with q1 q2 q3
      subst q1
      obtain ⟨gb, off, ha, hcell⟩ := hc' k hlt
      subst ha
      have HFA := Lib.hid (flat_at ps k hlt)
      have hfl := flatten_take_le ps (k + 1)
      obtain ⟨p, hpe⟩ : ∃ p, p = ps.getD k [] := ⟨_, rfl⟩
      rw [← hpe] at hcell HFA
      obtain ⟨all, hall⟩ : ∃ x, x = (ps.take (k + 1)).flatten := ⟨_, rfl⟩
      rw [← hall] at HFA hfl
      have HALL := Lib.hid hall
      obtain ⟨wB, hwB⟩ : ∃ wB : World, wB = wr := ⟨_, rfl⟩
      subst hwB
      clear hpe hall q2 q3 hc'
      go_wp2_with fail
      go_loopw [5, 7] (fun o r w2 => ∃ q p' : List UInt8, r = tx p' ∧ Hid (q ++ p' = all) ∧ Hid (WrS w B cb rb tb t h q o w2)) (fun _ r _ => match r with | .string x => x.size | _ => 0)
      case atStart => exact ⟨_, p, rfl, Lib.hid HFA.out.symm, HR⟩
      case round =>
        obtain ⟨q, r, rfl, HQ, HW⟩ := hrel
        have hql := congrArg List.length HQ.out
        rw [List.length_append] at hql
        by_cases hr0 : r = []
        · subst hr0
          have HQ2 := Lib.hid (show q = all by have := HQ.out; rwa [List.append_nil] at this)
          go_wp2_with fail
          refine ⟨⟨k + 1, by omega, by go_num, by rw [← HALL.out, ← HQ2.out]; exact HW⟩, ?_⟩
          simp [intOf]; omega
        · have hpos : 0 < r.length := List.length_pos_iff.2 hr0
          have hgt : decide ((0 : Int) < (r.length : Int)) = true := by simp; omega
          obtain ⟨ls, h', hv', f1, f2, f3, f4⟩ := HW.out
          have hsh := f3.no.short
          have hcn := fed_count f3
          have HADV := Lib.hid (advance_any cb rb tb (rollAll t h') h'.length hv' t r wr f2.tab f2.rol f2.cut (rollAll_lt t h') (by omega) (by omega))
          obtain ⟨a1, cap1, hv1, -⟩ := f2.own.form
          rw [List.length_map] at hv1
          have F1 := Lib.hid f1
          have F2 := Lib.hid f2
          have F3 := Lib.hid f3
          have F4 := Lib.hid f4
          clear f1 f2 f3 f4 HW
          cases hf : firstStop t (rollAll t h') h'.length r with
          | some i =>
            rw [show advD t (rollAll t h') h'.length r = true by unfold advD; rw [hf]; rfl, adv_some hf, show advV t (rollAll t h') h'.length r = 0 by unfold advV; rw [hf], show advC t (rollAll t h') h'.length r = 0 by unfold advC; rw [hf]] at HADV
            have hle : i + 1 ≤ r.length := by have := (of_firstStop_some hf).1; omega
            have hsl1 : ∀ W, (Instr.slice 9 (.string (str r)) none (some (.int .i64 ((i : Int) + 1))) none).run Tryd.prog W = .ok (.string (str (r.take (i + 1)))) W := fun W => slice_str_to (P := Tryd.prog) Tryd.underlying9 r .i64 (i + 1) hle W
            have hsl2 : ∀ W, (Instr.slice 9 (.string (str r)) (some (.int .i64 ((i : Int) + 1))) none none).run Tryd.prog W = .ok (.string (str (r.drop (i + 1)))) W := fun W => slice_str_from (P := Tryd.prog) Tryd.underlying9 r .i64 (i + 1) hle W
            subst hv1
            go_wp2_with fail
            refine HADV.out.mono ?_
            rintro e w4 ⟨rfl, A4⟩
            have H4 := Lib.hid (F2.out.roll A4).drew
            have K4 := Lib.hid (F4.out.step A4.2.2.2 (fun g hg => .inr (by cases hg; exact ⟨F2.out.br, _, _, _, F2.out.rol, .inr (.inl rfl)⟩))).drew
            have O4 := Lib.hid (strs_kept F1.out A4.2.2.2 (fun g hg => by cases hg; exact ⟨_, _, _, F2.out.rol, by decide⟩))
            have hc4 : w4.cell? ⟨cb, 1, none⟩ = some (.slice a1 h'.length cap1) := Mem.cell H4.out.cut 1
            clear A4
            go_wp2_with fail
            refine wp_region_held_drew (S := fun _ => True) (by kernel_rfl) trivial (fun hT0 => ?_)
            clear hT0
            refine wpAnyH_take (i := 0) (oi := { dst := some 25, op := Op.move (Operand.tmp 0), type := 62, pos := "cutter.go:34", after := #[], guard := none }) (v := pV cb) rfl (by kernel_rfl) (by kernel_rfl) (by kernel_rfl) (fun _ _ _ h => h) (Or.inl ⟨by rfl, ?_⟩) trivial ?_
            · intro w' hSw
              go_simp
            simp only [Act.put, List.setIfInBounds_toArray, List.set_cons_zero, List.set_cons_succ]
            refine wpAnyH_take (i := 1) (oi := { dst := some 26, op := Op.move (Operand.tmp 0), type := 62, pos := "cutter.go:34", after := #[], guard := none }) (v := pV cb) rfl (by kernel_rfl) (by kernel_rfl) (by kernel_rfl) (fun _ _ _ h => h) (Or.inl ⟨by rfl, ?_⟩) trivial ?_
            · intro w' hSw
              go_simp
            simp only [Act.put, List.setIfInBounds_toArray, List.set_cons_zero, List.set_cons_succ]
            refine wpAnyH_take (i := 2) (oi := { dst := some 27, op := Op.nilCheck (Operand.tmp 26), type := 0, pos := "cutter.go:34", after := #[{ on := 1, ground := Ground.data }], guard := none }) (v := pV cb) rfl (by kernel_rfl) (by kernel_rfl) (by kernel_rfl) (fun _ _ _ h => h) (Or.inl ⟨by rfl, ?_⟩) trivial ?_
            · intro w' hSw
              go_simp
            simp only [Act.put, List.setIfInBounds_toArray, List.set_cons_zero, List.set_cons_succ]
            refine wpAnyH_take (i := 3) (oi := { dst := some 28, op := Op.fieldAddr 98 (Operand.tmp 27) 1, type := 0, pos := "cutter.go:34", after := #[{ on := 2, ground := Ground.data }], guard := none }) (v := .pointer (some ⟨cb, 1, none⟩)) rfl (by kernel_rfl) (by kernel_rfl) (by kernel_rfl) (fun _ _ _ h => h) (Or.inl ⟨by rfl, ?_⟩) trivial ?_
            · intro w' hSw
              go_simp
            simp only [Act.put, List.setIfInBounds_toArray, List.set_cons_zero, List.set_cons_succ]
            refine wpAnyH_take (i := 5) (oi := { dst := some 30, op := Op.move (Operand.tmp 7), type := 9, pos := "cutter.go:34", after := #[], guard := none }) (v := tx r) rfl (by kernel_rfl) (by kernel_rfl) (by kernel_rfl) (fun _ _ _ h => h) (Or.inl ⟨by rfl, ?_⟩) trivial ?_
            · intro w' hSw
              go_simp
            simp only [Act.put, List.setIfInBounds_toArray, List.set_cons_zero, List.set_cons_succ]
            refine wpAnyH_take (i := 6) (oi := { dst := some 31, op := Op.move (Operand.tmp 8), type := 3, pos := "cutter.go:34", after := #[], guard := none }) (v := .int .i64 ((i : Int) + 1)) rfl (by kernel_rfl) (by kernel_rfl) (by kernel_rfl) (fun _ _ _ h => h) (Or.inl ⟨by rfl, ?_⟩) trivial ?_
            · intro w' hSw
              go_simp
            simp only [Act.put, List.setIfInBounds_toArray, List.set_cons_zero, List.set_cons_succ]
            refine wpAnyH_take (i := 7) (oi := { dst := some 32, op := Op.slice 9 (Operand.tmp 30) none (some (Operand.tmp 31)) none, type := 9, pos := "cutter.go:34", after := #[{ on := 5, ground := Ground.data }, { on := 6, ground := Ground.data }], guard := none }) (v := .string (str (r.take (i + 1)))) rfl (by kernel_rfl) (by kernel_rfl) (by kernel_rfl) (fun _ _ _ h => h) (Or.inl ⟨by rfl, ?_⟩) trivial ?_
            · intro w' hSw
              go_simp
            simp only [Act.put, List.setIfInBounds_toArray, List.set_cons_zero, List.set_cons_succ]
            refine wpAnyH_ready (rs := [4]) (by kernel_rfl) (by simp) (AllReadyH.cons rfl (fun K hK => ?_) AllReadyH.nil)
            go_simp
            refine hK.out _ _ trivial (fun hT => ?_)
            clear hK K hT
            refine wpAnyH_ready (rs := [8]) (by kernel_rfl) (by simp) (AllReadyH.cons rfl (fun K hK => ?_) AllReadyH.nil)
            refine step_append_strK H4.out.own (r.take (i + 1)) (.tmp 29) (.tmp 32) 26 9 bi rfl rfl Tryd.underlying26 Tryd.underlying9 HBI.out HBZ.out HBZS.out HBBY.out rfl rfl (by rw [List.length_map]; rw [List.length_take]; omega) H4.out.bs ?_
            intro v5 w5 ho5 hg5
            refine hK.out _ _ trivial (fun hT => ?_)
            clear hK K hT
            simp only [Act.put, List.setIfInBounds_toArray]
            rw [← List.map_append] at ho5
            obtain ⟨a5, cap5, hv5, -⟩ := ho5.form
            obtain ⟨n5, hn5⟩ : ∃ n, n = ((h' ++ (r.take (i + 1))).map byteV).length := ⟨_, rfl⟩
            rw [← hn5] at hv5
            subst hv5
            obtain ⟨H6, C5⟩ := H4.out.held hg5 ho5
            have hc5 : w5.cell? ⟨cb, 1, none⟩ = some (.slice a1 h'.length cap1) := Mem.cell C5 1
            have hf5 := Mem.frozen C5 1
            have hmine5 : ∀ g, (Value.slice a1 h'.length cap1).ownBlock = some g → Mine B w4.drew g := fun g hg => by
              obtain ⟨h1, cs, h2⟩ := own_row H4.out.own g hg
              exact ⟨h1, _, _, _, h2, .inl rfl⟩
            have K6 := Lib.hid ((K4.out.step hg5 (fun g hg => .inr (hmine5 g hg))).step (grown_cell (grownRefl w5 (some cb)) 1 (.slice a5 n5 cap5)) (fun g hg => .inr (by cases hg; exact ⟨H4.out.bc, _, _, _, C5, .inr (.inr rfl)⟩)))
            have O5 := strs_kept O4.out (show w4.grownBy w5 (Value.slice a1 h'.length cap1).ownBlock from ⟨hg5.os, hg5.tape, hg5.output, hg5.size, hg5.block⟩) (fun g hg => by
              obtain ⟨_, cs, h2⟩ := own_row H4.out.own g hg
              exact ⟨_, _, _, h2, by decide⟩)
            have O6 := Lib.hid (strs_kept O5 (grown_cell (grownRefl w5 (some cb)) 1 (.slice a5 n5 cap5)) (fun g hg => by cases hg; exact ⟨_, _, _, C5, by decide⟩))
            have H6' := Lib.hid H6
            clear hg5 ho5 C5 H6 hmine5 O5 hsl1 hc4 hn5
            refine wpAnyH_take (i := 9) (oi := { dst := some 34, op := Op.nilCheck (Operand.tmp 25), type := 0, pos := "cutter.go:34", after := #[{ on := 0, ground := Ground.data }, { on := 0, ground := Ground.phase }, { on := 1, ground := Ground.phase }, { on := 2, ground := Ground.phase }, { on := 3, ground := Ground.phase }, { on := 4, ground := Ground.phase }, { on := 5, ground := Ground.phase }, { on := 6, ground := Ground.phase }, { on := 7, ground := Ground.phase }, { on := 8, ground := Ground.phase }], guard := none }) (v := pV cb) rfl (by kernel_rfl) (by kernel_rfl) (by kernel_rfl) (fun _ _ _ h => h) (Or.inl ⟨by rfl, ?_⟩) trivial ?_
            · intro w' hSw
              go_simp
            simp only [Act.put]
            refine wpAnyH_take (i := 10) (oi := { dst := some 35, op := Op.fieldAddr 98 (Operand.tmp 34) 1, type := 0, pos := "cutter.go:34", after := #[{ on := 9, ground := Ground.data }, { on := 0, ground := Ground.phase }, { on := 1, ground := Ground.phase }, { on := 2, ground := Ground.phase }, { on := 3, ground := Ground.phase }, { on := 4, ground := Ground.phase }, { on := 5, ground := Ground.phase }, { on := 6, ground := Ground.phase }, { on := 7, ground := Ground.phase }, { on := 8, ground := Ground.phase }], guard := none }) (v := .pointer (some ⟨cb, 1, none⟩)) rfl (by kernel_rfl) (by kernel_rfl) (by kernel_rfl) (fun _ _ _ h => h) (Or.inl ⟨by rfl, ?_⟩) trivial ?_
            · intro w' hSw
              go_simp
            simp only [Act.put]
            refine wpAnyH_ready (rs := [11]) (by kernel_rfl) (by simp) (AllReadyH.cons rfl (fun K hK => ?_) AllReadyH.nil)
            go_simp
            refine hK.out _ _ trivial (fun hT => ?_)
            clear hK K hT
            refine wpAnyH_done (by kernel_rfl) ?_ _
            rename_i K hK
            refine hK _ _ ?_
            clear hc5 hf5
            obtain ⟨w6, hw6⟩ : ∃ W, W = w5.setCell ⟨cb, 1, none⟩ (.slice a5 n5 cap5) := ⟨_, rfl⟩
            rw [← hw6] at K6 O6 H6' ⊢
            clear hw6
            have hc6 : w6.cell? ⟨cb, 1, none⟩ = some (.slice a5 n5 cap5) := Mem.cell H6'.out.cut 1
            have hcv := H6'.out.own.string (P := Tryd.prog) (src := 26) (dst := 9) Tryd.underlying26 Tryd.underlying5 Tryd.underlying9
            have HFD := Lib.hid (F3.out.done hf)
            have HQ2 := Lib.hid (show (q ++ r.take (i + 1)) ++ r.drop (i + 1) = all by rw [List.append_assoc, List.take_append_drop]; exact HQ.out)
            have hdl : (r.drop (i + 1)).length < r.length := by rw [List.length_drop]; omega
            obtain ⟨y, hy⟩ : ∃ y, y = h' ++ r.take (i + 1) := ⟨_, rfl⟩
            rw [← hy] at hcv HFD H6'
            have HLEN := Lib.hid (show (ls.map tx).length + [tx y].length ≤ 1099511627776 by rw [List.length_map]; simp; omega)
            have HONE := Lib.hid (show ∀ u ∈ [tx y], u.oneCell' = true by intro u hu; simp at hu; subst hu; rfl)
            have hs0 := fun W => slice_none a5 n5 cap5 W
            clear hy hf
            go_wp2_with (first
              | (at_builtin; refine wp_append_news (O6.out.alloc _) 0 (Below.refl 0 _) (Nat.zero_le _) [tx y] (.tmp 40) (.tmp 46) 53 ti (.string ⟨#[]⟩) rfl rfl Tryd.underlying53 HTI.out HTZ.out HTS.out HTB.out rfl rfl rfl (fun j u hu => cell_news_one _ _ _ j u hu) HONE.out HLEN.out (by have := K6.out.size; simp; omega) ?_
                 intro v7 w7 ho7 _ _ hg7 _
                 have H7 := (H6'.out.apart (World.grownBy_alloc w6 (.cells #[tx y] 9) none) (fun g hg => by cases hg)).apart hg7 (fun g hg => by
                   obtain ⟨cs, h⟩ := row_tag (O6.out.alloc (.cells #[tx y] 9)) g hg
                   exact ⟨cs, _, h⟩)
                 have K7 := (K6.out.step (World.grownBy_alloc w6 (.cells #[tx y] 9) none) (fun g hg => by cases hg)).step hg7 (fun g hg => .inl (O6.out.lt g hg).2)
                 have hc7 : w7.cell? ⟨cb, 1, none⟩ = some (.slice a5 n5 cap5) := Mem.cell H7.cut 1
                 have hf7 := Mem.frozen H7.cut 1
                 have H8 := Lib.hid (H7.held (h2 := []) (grownRefl w7 _) (owns_cut0 H7.own)).1
                 have K8 := Lib.hid (K7.step (grown_cell (grownRefl w7 (some cb)) 1 (.slice a5 0 cap5)) (fun g hg => .inr (by cases hg; exact ⟨H7.bc, _, _, _, H7.cut, .inr (.inr rfl)⟩)))
                 rw [show ls.map tx ++ [tx y] = (ls ++ [y]).map tx by rw [List.map_append]; rfl] at ho7
                 have O8 := Lib.hid (strs_kept ho7 (grown_cell (grownRefl w7 (some cb)) 1 (.slice a5 0 cap5)) (fun g hg => by cases hg; exact ⟨_, _, _, H7.cut, by decide⟩))
                 clear H7 K7 ho7 hg7)
              | fail)
            refine ⟨⟨q ++ r.take (i + 1), r.drop (i + 1), rfl, HQ2, Lib.hid ⟨ls ++ [y], [], _, O8.out, H8.out, HFD.out, K8.out⟩⟩, ?_⟩
            exact hdl
          | none =>
            rw [show advD t (rollAll t h') h'.length r = false by unfold advD; rw [hf]; rfl, adv_none hf, show advV t (rollAll t h') h'.length r = rollFrom t (rollAll t h') r by unfold advV; rw [hf], show advC t (rollAll t h') h'.length r = h'.length + r.length by unfold advC; rw [hf]] at HADV
            have hle : r.length ≤ r.length := Nat.le_refl _
            have hsl1 : ∀ W, (Instr.slice 9 (.string (str r)) none (some (.int .i64 (r.length : Int))) none).run Tryd.prog W = .ok (.string (str r)) W := fun W => by
                have hq := slice_str_to (P := Tryd.prog) Tryd.underlying9 r .i64 r.length hle W
                rwa [List.take_length] at hq
            have hsl2 : ∀ W, (Instr.slice 9 (.string (str r)) (some (.int .i64 (r.length : Int))) none none).run Tryd.prog W = .ok (.string (str ([] : List UInt8))) W := fun W => by
                have hq := slice_str_from (P := Tryd.prog) Tryd.underlying9 r .i64 r.length hle W
                rwa [List.drop_length] at hq
            subst hv1
            go_wp2_with fail
            refine HADV.out.mono ?_
            rintro e w4 ⟨rfl, A4⟩
            have H4 := Lib.hid (F2.out.roll A4).drew
            have K4 := Lib.hid (F4.out.step A4.2.2.2 (fun g hg => .inr (by cases hg; exact ⟨F2.out.br, _, _, _, F2.out.rol, .inr (.inl rfl)⟩))).drew
            have O4 := Lib.hid (strs_kept F1.out A4.2.2.2 (fun g hg => by cases hg; exact ⟨_, _, _, F2.out.rol, by decide⟩))
            have hc4 : w4.cell? ⟨cb, 1, none⟩ = some (.slice a1 h'.length cap1) := Mem.cell H4.out.cut 1
            clear A4
            go_wp2_with fail
            refine wp_region_held_drew (S := fun _ => True) (by kernel_rfl) trivial (fun hT0 => ?_)
            clear hT0
            refine wpAnyH_take (i := 0) (oi := { dst := some 25, op := Op.move (Operand.tmp 0), type := 62, pos := "cutter.go:34", after := #[], guard := none }) (v := pV cb) rfl (by kernel_rfl) (by kernel_rfl) (by kernel_rfl) (fun _ _ _ h => h) (Or.inl ⟨by rfl, ?_⟩) trivial ?_
            · intro w' hSw
              go_simp
            simp only [Act.put, List.setIfInBounds_toArray, List.set_cons_zero, List.set_cons_succ]
            refine wpAnyH_take (i := 1) (oi := { dst := some 26, op := Op.move (Operand.tmp 0), type := 62, pos := "cutter.go:34", after := #[], guard := none }) (v := pV cb) rfl (by kernel_rfl) (by kernel_rfl) (by kernel_rfl) (fun _ _ _ h => h) (Or.inl ⟨by rfl, ?_⟩) trivial ?_
            · intro w' hSw
              go_simp
            simp only [Act.put, List.setIfInBounds_toArray, List.set_cons_zero, List.set_cons_succ]
            refine wpAnyH_take (i := 2) (oi := { dst := some 27, op := Op.nilCheck (Operand.tmp 26), type := 0, pos := "cutter.go:34", after := #[{ on := 1, ground := Ground.data }], guard := none }) (v := pV cb) rfl (by kernel_rfl) (by kernel_rfl) (by kernel_rfl) (fun _ _ _ h => h) (Or.inl ⟨by rfl, ?_⟩) trivial ?_
            · intro w' hSw
              go_simp
            simp only [Act.put, List.setIfInBounds_toArray, List.set_cons_zero, List.set_cons_succ]
            refine wpAnyH_take (i := 3) (oi := { dst := some 28, op := Op.fieldAddr 98 (Operand.tmp 27) 1, type := 0, pos := "cutter.go:34", after := #[{ on := 2, ground := Ground.data }], guard := none }) (v := .pointer (some ⟨cb, 1, none⟩)) rfl (by kernel_rfl) (by kernel_rfl) (by kernel_rfl) (fun _ _ _ h => h) (Or.inl ⟨by rfl, ?_⟩) trivial ?_
            · intro w' hSw
              go_simp
            simp only [Act.put, List.setIfInBounds_toArray, List.set_cons_zero, List.set_cons_succ]
            refine wpAnyH_take (i := 5) (oi := { dst := some 30, op := Op.move (Operand.tmp 7), type := 9, pos := "cutter.go:34", after := #[], guard := none }) (v := tx r) rfl (by kernel_rfl) (by kernel_rfl) (by kernel_rfl) (fun _ _ _ h => h) (Or.inl ⟨by rfl, ?_⟩) trivial ?_
            · intro w' hSw
              go_simp
            simp only [Act.put, List.setIfInBounds_toArray, List.set_cons_zero, List.set_cons_succ]
            refine wpAnyH_take (i := 6) (oi := { dst := some 31, op := Op.move (Operand.tmp 8), type := 3, pos := "cutter.go:34", after := #[], guard := none }) (v := .int .i64 (r.length : Int)) rfl (by kernel_rfl) (by kernel_rfl) (by kernel_rfl) (fun _ _ _ h => h) (Or.inl ⟨by rfl, ?_⟩) trivial ?_
            · intro w' hSw
              go_simp
            simp only [Act.put, List.setIfInBounds_toArray, List.set_cons_zero, List.set_cons_succ]
            refine wpAnyH_take (i := 7) (oi := { dst := some 32, op := Op.slice 9 (Operand.tmp 30) none (some (Operand.tmp 31)) none, type := 9, pos := "cutter.go:34", after := #[{ on := 5, ground := Ground.data }, { on := 6, ground := Ground.data }], guard := none }) (v := .string (str r)) rfl (by kernel_rfl) (by kernel_rfl) (by kernel_rfl) (fun _ _ _ h => h) (Or.inl ⟨by rfl, ?_⟩) trivial ?_
            · intro w' hSw
              go_simp
            simp only [Act.put, List.setIfInBounds_toArray, List.set_cons_zero, List.set_cons_succ]
            refine wpAnyH_ready (rs := [4]) (by kernel_rfl) (by simp) (AllReadyH.cons rfl (fun K hK => ?_) AllReadyH.nil)
            go_simp
            refine hK.out _ _ trivial (fun hT => ?_)
            clear hK K hT
            refine wpAnyH_ready (rs := [8]) (by kernel_rfl) (by simp) (AllReadyH.cons rfl (fun K hK => ?_) AllReadyH.nil)
            refine step_append_strK H4.out.own r (.tmp 29) (.tmp 32) 26 9 bi rfl rfl Tryd.underlying26 Tryd.underlying9 HBI.out HBZ.out HBZS.out HBBY.out rfl rfl (by rw [List.length_map]; omega) H4.out.bs ?_
            intro v5 w5 ho5 hg5
            refine hK.out _ _ trivial (fun hT => ?_)
            clear hK K hT
            simp only [Act.put, List.setIfInBounds_toArray]
            rw [← List.map_append] at ho5
            obtain ⟨a5, cap5, hv5, -⟩ := ho5.form
            obtain ⟨n5, hn5⟩ : ∃ n, n = ((h' ++ r).map byteV).length := ⟨_, rfl⟩
            rw [← hn5] at hv5
            subst hv5
            obtain ⟨H6, C5⟩ := H4.out.held hg5 ho5
            have hc5 : w5.cell? ⟨cb, 1, none⟩ = some (.slice a1 h'.length cap1) := Mem.cell C5 1
            have hf5 := Mem.frozen C5 1
            have hmine5 : ∀ g, (Value.slice a1 h'.length cap1).ownBlock = some g → Mine B w4.drew g := fun g hg => by
              obtain ⟨h1, cs, h2⟩ := own_row H4.out.own g hg
              exact ⟨h1, _, _, _, h2, .inl rfl⟩
            have K6 := Lib.hid ((K4.out.step hg5 (fun g hg => .inr (hmine5 g hg))).step (grown_cell (grownRefl w5 (some cb)) 1 (.slice a5 n5 cap5)) (fun g hg => .inr (by cases hg; exact ⟨H4.out.bc, _, _, _, C5, .inr (.inr rfl)⟩)))
            have O5 := strs_kept O4.out (show w4.grownBy w5 (Value.slice a1 h'.length cap1).ownBlock from ⟨hg5.os, hg5.tape, hg5.output, hg5.size, hg5.block⟩) (fun g hg => by
              obtain ⟨_, cs, h2⟩ := own_row H4.out.own g hg
              exact ⟨_, _, _, h2, by decide⟩)
            have O6 := Lib.hid (strs_kept O5 (grown_cell (grownRefl w5 (some cb)) 1 (.slice a5 n5 cap5)) (fun g hg => by cases hg; exact ⟨_, _, _, C5, by decide⟩))
            have H6' := Lib.hid H6
            clear hg5 ho5 C5 H6 hmine5 O5 hsl1 hc4 hn5
            refine wpAnyH_take (i := 9) (oi := { dst := some 34, op := Op.nilCheck (Operand.tmp 25), type := 0, pos := "cutter.go:34", after := #[{ on := 0, ground := Ground.data }, { on := 0, ground := Ground.phase }, { on := 1, ground := Ground.phase }, { on := 2, ground := Ground.phase }, { on := 3, ground := Ground.phase }, { on := 4, ground := Ground.phase }, { on := 5, ground := Ground.phase }, { on := 6, ground := Ground.phase }, { on := 7, ground := Ground.phase }, { on := 8, ground := Ground.phase }], guard := none }) (v := pV cb) rfl (by kernel_rfl) (by kernel_rfl) (by kernel_rfl) (fun _ _ _ h => h) (Or.inl ⟨by rfl, ?_⟩) trivial ?_
            · intro w' hSw
              go_simp
            simp only [Act.put]
            refine wpAnyH_take (i := 10) (oi := { dst := some 35, op := Op.fieldAddr 98 (Operand.tmp 34) 1, type := 0, pos := "cutter.go:34", after := #[{ on := 9, ground := Ground.data }, { on := 0, ground := Ground.phase }, { on := 1, ground := Ground.phase }, { on := 2, ground := Ground.phase }, { on := 3, ground := Ground.phase }, { on := 4, ground := Ground.phase }, { on := 5, ground := Ground.phase }, { on := 6, ground := Ground.phase }, { on := 7, ground := Ground.phase }, { on := 8, ground := Ground.phase }], guard := none }) (v := .pointer (some ⟨cb, 1, none⟩)) rfl (by kernel_rfl) (by kernel_rfl) (by kernel_rfl) (fun _ _ _ h => h) (Or.inl ⟨by rfl, ?_⟩) trivial ?_
            · intro w' hSw
              go_simp
            simp only [Act.put]
            refine wpAnyH_ready (rs := [11]) (by kernel_rfl) (by simp) (AllReadyH.cons rfl (fun K hK => ?_) AllReadyH.nil)
            go_simp
            refine hK.out _ _ trivial (fun hT => ?_)
            clear hK K hT
            refine wpAnyH_done (by kernel_rfl) ?_ _
            rename_i K hK
            refine hK _ _ ?_
            clear hc5 hf5
            obtain ⟨w6, hw6⟩ : ∃ W, W = w5.setCell ⟨cb, 1, none⟩ (.slice a5 n5 cap5) := ⟨_, rfl⟩
            rw [← hw6] at K6 O6 H6' ⊢
            clear hw6
            have HFD := Lib.hid (F3.out.more hf)
            have HH := Lib.hid (show CutH w6 B cb rb tb t (rollAll t (h' ++ r)) (h' ++ r).length (h' ++ r) (.slice a5 n5 cap5) by rw [← rollAll_append, List.length_append]; exact H6'.out)
            go_wp2_with fail
            refine ⟨⟨q ++ r, [], rfl, by rw [List.append_nil]; exact HQ, Lib.hid ⟨ls, h' ++ r, _, O6.out, HH.out, HFD.out, K6.out⟩⟩, ?_⟩
            exact hpos
    · have e : k = ps.length := by omega
      subst e
      have hd : decide ((ps.length : Int) < (ps.length : Int)) = false := by simp
      rw [List.take_length] at HR
      obtain ⟨ls, h', hv', f1, f2, f3, f4⟩ := HR.out
      have HF := Lib.hid (show _ ∧ _ ∧ _ ∧ _ from ⟨f1, f2, f3, f4⟩)
      clear f1 f2 f3 f4
      go_wp2_with fail
      go_ret
      exact ⟨_, ls, h', hv', rfl, HF.out.1, HF.out.2.1, HF.out.2.2.1, HF.out.2.2.2⟩
end Go.Proofs.YtbjeiiofanpkdaaDoor

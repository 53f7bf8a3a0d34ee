/-
  CutterParts: the walk.
-/
import Derived.Test.YtbjeiiofanpkdaaDoorCLaw3
import Derived.Test.YtbjeiiofanpkdaaDoorLst
namespace Go.Proofs.YtbjeiiofanpkdaaDoor
open Go.RowKit Crv

/-- append(a, b...) of two lists of one's own. -/
theorem run_append_all {P : Program} {w : World} {base b2 : Nat} {e : TypeId} {v x : Value} {xs ys : List Value} (hown : Owns w base e v xs) (hx : Owns w b2 e x ys) (t ty : TypeId) (i : TypeInfo) (z : Value)
    (ht : P.underlying t = some (.slice e)) (hi : P.info? e = some i) (hz : i.zero = some z) (hsize : i.size = 1) (hby : i.bytes ≤ 64) (hzs : z.cells.size = 1) (h1 : ∀ u ∈ ys, u.oneCell' = true) (hlen : xs.length + ys.length ≤ 1099511627776) (hbase : base ≤ w.heap.size) :
    ∃ v' w', (Builtin.append_ #[t, t] ty #[v, x]).run P w = .ok v' w' ∧ Owns w' base e v' (xs ++ ys) ∧ w.grownBy w' v.ownBlock := by
  rcases hx.2 with ⟨rfl, h0⟩ | ⟨g, cap, cur, rfl, _, hg, _, _, _, htk⟩
  · have hy : ys = [] := List.length_eq_zero_iff.1 h0
    subst hy
    exact ⟨v, w, run_append_owned_none w base t ty e i 1 ht hi v xs.length xs hown, by rw [List.append_nil]; exact hown, grownRefl _ _⟩
  · obtain ⟨v', w', hr, h2, h3, _⟩ := run_append_keep (P := P) hown ys t ty i z ht hi hz hsize hby hzs (g := g) (c := cap) (fun j u hu => by
      have hj : j < ys.length := (List.getElem?_eq_some_iff.1 hu).1
      have h4 := hx.reads
      obtain ⟨a', cap', hv', hc'⟩ := h4
      injection hv' with h5 _ _
      obtain ⟨b', off', ha', hcell'⟩ := hc' j hj
      rw [← h5] at ha'
      injection ha' with ha'
      injection ha' with h6 h7 _
      subst h6 h7
      rw [Nat.zero_add] at hcell'
      rw [hcell', hu]) h1 hlen hbase
    exact ⟨v', w', hr, h2, h3⟩
section
variable {P : Program} {ops : Array Oper} {rest : List Oper} {o : Oper} {a : Act} {w : World} {Q : Exit → Act → World → Prop} {base b2 : Nat} {e : TypeId} {v x : Value} {xs ys : List Value}
theorem wp_append_all (hown : Owns w base e v xs) (hx : Owns w b2 e x ys) (s y : Operand) (t : TypeId) (i : TypeInfo) (z : Value) (hgd : o.guard = none) (ho : o.op = .call { callee := .builtin .append, args := #[s, y], argTypes := #[t, t] })
    (ht : P.underlying t = some (.slice e)) (hi : P.info? e = some i) (hz : i.zero = some z) (hsize : i.size = 1) (hby : i.bytes ≤ 64) (hzs : z.cells.size = 1) (hs : a.eval s = v) (hy : a.eval y = x) (h1 : ∀ u ∈ ys, u.oneCell' = true) (hlen : xs.length + ys.length ≤ 1099511627776) (hbase : base ≤ w.heap.size)
    (h : ∀ v' w', Owns w' base e v' (xs ++ ys) → w.grownBy w' v.ownBlock → wpList P ops Q rest (a.put o.dst v') w') : wpList P ops Q (o :: rest) a w := by
  refine wpList_plain hgd fun K hK => ?_
  obtain ⟨v', w', hr, h2, h3⟩ := run_append_all (P := P) hown hx t o.type i z ht hi hz hsize hby hzs h1 hlen hbase
  unfold Oper.wp execOp
  simp only [ho, resolve, invoke, builtin, Sem.run_bind, Sem.run_pure, Result.andThen_ok, List.map_toArray, List.map_cons, List.map_nil, hs, hy, hr]
  exact hK _ _ (h v' w' h2 h3)
theorem step_append_all {K : Act → World → Prop} {E : Prop} (hown : Owns w base e v xs) (hx : Owns w b2 e x ys) (s y : Operand) (t : TypeId) (i : TypeInfo) (z : Value) (hgd : o.guard = none) (ho : o.op = .call { callee := .builtin .append, args := #[s, y], argTypes := #[t, t] })
    (ht : P.underlying t = some (.slice e)) (hi : P.info? e = some i) (hz : i.zero = some z) (hsize : i.size = 1) (hby : i.bytes ≤ 64) (hzs : z.cells.size = 1) (hs : a.eval s = v) (hy : a.eval y = x) (h1 : ∀ u ∈ ys, u.oneCell' = true) (hlen : xs.length + ys.length ≤ 1099511627776) (hbase : base ≤ w.heap.size)
    (h : ∀ v' w', Owns w' base e v' (xs ++ ys) → w.grownBy w' v.ownBlock → K (a.put o.dst v') w') : if Region.wanted o (yielded ops a.tmps) = true then Oper.wp P o a w K Q else E := by
  have hw : Region.wanted o (yielded ops a.tmps) = true := by simp [Region.wanted, hgd]
  rw [if_pos hw]
  obtain ⟨v', w', hr, h2, h3⟩ := run_append_all (P := P) hown hx t o.type i z ht hi hz hsize hby hzs h1 hlen hbase
  unfold Oper.wp execOp
  simp only [ho, resolve, invoke, builtin, Sem.run_bind, Sem.run_pure, Result.andThen_ok, List.map_toArray, List.map_cons, List.map_nil, hs, hy, hr]
  exact h v' w' h2 h3
end
theorem one_txs (ls : List (List UInt8)) : ∀ u ∈ ls.map tx, u.oneCell' = true := by
  intro u hu
  obtain ⟨x, _, rfl⟩ := List.mem_map.1 hu
  rfl
/-- What is kept while parts come: the cutter, the chunks so far. -/
def PaS (w6 : World) (B cb rb tb : Nat) (t : List Nat) (q : List UInt8) (o : Value) (wr : World) : Prop :=
  ∃ ls h hv, Owns wr w6.heap.size 9 o (ls.map tx) ∧ CutH wr B cb rb tb t (rollAll t h) h.length h hv ∧ Fed t [] q ls h ∧ Kt B w6 wr
theorem two_mine {w : World} {B : Nat} {x y : Value} : ∀ g, (Value.slice (some ⟨w.heap.size, 0, none⟩) 2 2).ownBlock = some g → ¬ Mine B (w.alloc (.cells #[x, y] 9)) g := not_mine_new (xs := #[x, y])
theorem two_parts (s : List UInt8) (m a k : Nat) (ha : a ≤ k) : s.take m ++ [(s.take (m + a)).drop m, (s.take (m + k)).drop (m + a)].flatten = s.take (m + k) := by
  rw [take_mid]
  have e : (s.take (m + k)).drop (m + a) = (s.drop (m + a)).take (k - a) := by rw [show m + k = (m + a) + (k - a) by omega, take_mid]
  rw [e]
  simp only [List.flatten_cons, List.flatten_nil, List.append_nil]
  rw [show m + k = m + (a + (k - a)) by omega, List.take_add, List.take_add, List.drop_drop]
set_option maxHeartbeats 4000000 in
set_option maxRecDepth 100000 in
theorem cutterParts_walk (s0 : List UInt8) (n : Int) (v2 : Value) (ks : List Int) (w : World) (hc : Consts w) (hks : Zs w v2 ks) (hkl : ks.length ≤ 9223372036854775807) :
    Calls Tryd.prog 10 #[.string (str s0), .int .i64 n, v2] w fun e w' => e = .returned (.bool true) ∧ Below w.heap.size w w' := by
  have HCU := Lib.hid (fun W => cutB s0 300 (by omega) W)
  rw [show (300 : Int).toNat = 300 from rfl] at HCU
  have HBY := Lib.hid (fun W => bytes_of (s0.take 300) n W)
  have HC := Lib.hid hc
  have HKS := Lib.hid hks
  have HN := Lib.hid (fun W hW => gearNew_any [99, 97, 114, 97, 118, 97, 110] W hW (by decide))
  obtain ⟨t, ht⟩ : ∃ t, t = gearTab [99, 97, 114, 97, 118, 97, 110] := ⟨_, rfl⟩
  simp only [← ht] at HN
  obtain ⟨ti, hi, hz, hsz, hby⟩ := str_info
  have HTI := Lib.hid hi
  have HTZ := Lib.hid hz
  have HTS := Lib.hid hsz
  have HTB : ti.bytes ≤ 64 := by omega
  obtain ⟨a2, cap2, hv2, _⟩ := hks
  subst hv2
  clear ht hc hi hz hsz hby
  go_enter Tryd.func10, Tryd.ntmps10
  go_wp2_with fail
  refine (HCU.out _).mono ?_
  rintro e w' ⟨rfl, rfl⟩
  go_wp2_with fail
  refine (HBY.out _).mono ?_
  rintro e w3 ⟨s, rfl, hsl, hb3⟩
  have hs15 : s.length ≤ 1500 := by omega
  have HB3 := Lib.hid hb3
  clear hsl hb3 HCU HBY
  have HA := Lib.hid (awake8_any w3 (HC.out.below HB3.out))
  go_wp2_with fail
  refine HA.out.mono ?_
  rintro e w4 ⟨rfl, hb4⟩
  have HB4 := Lib.hid (belowThen HB3.out hb4)
  clear hb4 HA
  go_wp2_with fail
  refine (HN.out _ (HC.out.below HB4.out)).mono ?_
  rintro e w5 ⟨rfl, htb, hb5⟩
  have HB5 := Lib.hid (belowThen HB4.out hb5)
  obtain ⟨tb, htbe⟩ : ∃ b, b = w4.heap.size := ⟨_, rfl⟩
  rw [← htbe] at htb
  simp only [← htbe]
  have HT5 := Lib.hid htb
  clear hb5 htbe htb HN HB4 HC HB3
  obtain ⟨B, hB⟩ : ∃ B, B = w5.heap.size := ⟨_, rfl⟩
  have hwB : w.heap.size ≤ B := by rw [hB]; exact HB5.out.size
  have HTL := Lib.hid (show tb < B by rw [hB]; exact HT5.out.1.lt)
  go_wp2_with fail
  refine (cutNew_any tb t w5 HT5.out).mono ?_
  rintro e w6 ⟨tb1, rb, cb, rfl, ht6, hr6, hc6, hb6, k1, k2, k3⟩
  rw [← hB] at hb6 k1 k2 k3
  have HB6 := Lib.hid (show Below w.heap.size w w6 from HB5.out.trans (hb6.mono hwB))
  have HH6 := Lib.hid (show CutH w6 B cb rb tb1 t (rollAll t []) ([] : List UInt8).length [] (.slice none 0 0) from ⟨ht6, hr6, hc6, Owns.nil _ _ _, k3, k2, by rw [hB]; rw [hB] at hb6; exact hb6.size⟩)
  have HT6 := Lib.hid (HT5.out.low hb6 HTL.out)
  have hB6 := HH6.out.bs
  have HP0 := Lib.hid (show PaS w6 B cb rb tb1 t (s.take 0) (.slice (some ⟨w6.heap.size, 0, none⟩) 0 0) (w6.alloc (.cells #[] 9)) from ⟨[], [], _, owns_new0 w6 9, HH6.out.alloc _, Fed.start (NoStop.nil t), Kt.alloc B _⟩)
  clear ht6 hr6 hc6 hb6 k1 k2 k3 hB HT5 HH6
  go_wp2_with fail
  go_loopw [9, 10, 11] (fun o a i wr => ∃ m k : Nat, m ≤ s.length ∧ k ≤ 30 ∧ k ≤ ks.length ∧ a = .int .i64 m ∧ i = .int .i64 k ∧ Hid (PaS w6 B cb rb tb1 t (s.take m) o wr)) (fun _ _ i _ => 31 - (intOf i).toNat)
  case atStart => exact ⟨0, 0, by omega, by omega, by omega, rfl, rfl, HP0⟩
  case round =>
    obtain ⟨m, k, hm, hk, hkk, rfl, rfl, HP⟩ := hrel
    clear HP0
    by_cases hlt : k < ks.length ∧ k < 30
    · obtain ⟨hl1, hl2⟩ := hlt
      have d1 : decide ((k : Int) < (ks.length : Int)) = true := by simp; omega
      have d1' : decide (k < ks.length) = true := by simpa using hl1
      have d2 : decide ((k : Int) < 30) = true := by simp; omega
      obtain ⟨ls, h, hv, f1, f2, f3, f4⟩ := HP.out
      have hbw : Below w.heap.size w wr := HB6.out.trans ((f4.below hB6).mono hwB)
      obtain ⟨a', cap', hv', hc'⟩ := HKS.out.below hbw
      injection hv' with q1 q2 q3
      subst q1
      subst q3
      clear q2
      obtain ⟨gb, off, ha, hcell⟩ := hc' k hl1
      subst ha
      obtain ⟨z, hz⟩ : ∃ z, z = ks.getD k 0 := ⟨_, rfl⟩
      rw [← hz] at hcell
      obtain ⟨kk, hkq⟩ : ∃ kk : Nat, min (max z 0) ((s.length : Int) - (m : Int)) = (kk : Int) := ⟨(min (max z 0) ((s.length : Int) - (m : Int))).toNat, by omega⟩
      have hkk2 : m + kk ≤ s.length := by omega
      have HMN := Lib.hid hkq
      clear hz hkq hc' hbw
      go_wp2_with (first
        | (refine wp_max0 (c := z) (d := 0) (.tmp 44) (.const (.int .i64 0)) rfl rfl rfl rfl ?_)
        | (refine wp_min0 (c := max z 0) (d := (s.length : Int) - (m : Int)) (.tmp 45) (.tmp 49) HMN.out rfl rfl rfl rfl ?_)
        | fail)
      -- REGION12
      obtain ⟨hf, hhf⟩ : ∃ x, x = kk / 2 := ⟨_, rfl⟩
      have hfl : hf ≤ kk := by omega
      have e0 : ((kk : Int) / 2) = (hf : Int) := by omega
      have e1 : IntKind.i64.wrap (hf : Int) = (hf : Int) := IntWalk.i64_in _ (by omega)
      have e2 : IntKind.i64.wrap ((m : Int) + (hf : Int)) = (m : Int) + (hf : Int) := IntWalk.i64_in _ (by omega)
      have e3 : IntKind.i64.wrap ((m : Int) + (kk : Int)) = (m : Int) + (kk : Int) := IntWalk.i64_in _ (by omega)
      obtain ⟨x1, hx1⟩ : ∃ x, x = (s.take (m + hf)).drop m := ⟨_, rfl⟩
      obtain ⟨x2, hx2⟩ : ∃ x, x = (s.take (m + kk)).drop (m + hf) := ⟨_, rfl⟩
      have hs1 : ∀ W, (Instr.slice 9 (.string (str s)) (some (.int .i64 (m : Int))) (some (.int .i64 ((m : Int) + (hf : Int)))) none).run Tryd.prog W = .ok (.string (str x1)) W := fun W => by
        rw [hx1]
        exact slice_str_mid (P := Tryd.prog) Tryd.underlying9 s .i64 .i64 m (m + hf) (by omega) (by omega) W
      have hs2 : ∀ W, (Instr.slice 9 (.string (str s)) (some (.int .i64 ((m : Int) + (hf : Int)))) (some (.int .i64 ((m : Int) + (kk : Int)))) none).run Tryd.prog W = .ok (.string (str x2)) W := fun W => by
        rw [hx2]
        exact slice_str_mid (P := Tryd.prog) Tryd.underlying9 s .i64 .i64 (m + hf) (m + kk) (by omega) (by omega) W
      have HX := Lib.hid (show s.take m ++ [x1, x2].flatten = s.take (m + kk) by
        rw [hx1, hx2]
        exact two_parts s m hf kk hfl)
      have hx1l : x1.length ≤ 1500 := by rw [hx1, List.length_drop, List.length_take]; omega
      have hx2l : x2.length ≤ 1500 := by rw [hx2, List.length_drop, List.length_take]; omega
      have hls := fed_count f3
      rw [List.length_nil, List.length_take] at hls
      have HWB := Lib.hid (write8_any B cb rb tb1 t h hv _ [x1, x2] (wr.alloc (.cells #[tx x1, tx x2] 9)).drew (f2.alloc (.cells #[tx x1, tx x2] 9)).drew f3.no (Txs.new (w := wr) (t := 9) [x1, x2] 2) (two_mine (w := wr)) (by simp) (by simp; omega))
      have HO := Lib.hid (f1.alloc (.cells #[tx x1, tx x2] 9))
      have HKa := Lib.hid (f4.trans (Kt.alloc (w := wr) B (.cells #[tx x1, tx x2] 9))).drew
      have HF3 := Lib.hid f3
      clear f1 f2 f3 f4 hx1 hx2 hhf HP
      go_region_held3 (fun _ => True) (trivial)
        (first
          | (go_at_call 45; refine HWB.out.mono ?_; rintro e w7 ⟨v7, ms, h', hv7, rfl, ho7, hh7, hf7, hk7⟩; have HFT := Lib.hid (show Fed t [] (s.take (m + kk)) (ls ++ ms) h' by have := HF3.out.trans hf7; rwa [HX.out] at this); have hms := fed_count hf7; have hsh := hf7.no.short; have hsh0 := HF3.out.no.short; have HO7 := Lib.hid (strs_kt (show Owns (wr.alloc (.cells #[tx x1, tx x2] 9)).drew w6.heap.size 9 _ (ls.map tx) from HO.out) hk7); have HX7 := Lib.hid ho7; have HH7 := Lib.hid hh7; have HK7 := Lib.hid (HKa.out.trans hk7); clear ho7 hh7 hf7 hk7)
          | (refine step_append_all HO7.out HX7.out (.tmp 51) (.tmp 70) 53 ti (.string ⟨#[]⟩) rfl rfl Tryd.underlying53 HTI.out HTZ.out HTS.out HTB rfl rfl rfl (one_txs ms) (by rw [List.length_map, List.length_map]; simp at hms; omega) (by exact HK7.out.size) ?_; intro v8 w8 ho8 hg8; rw [← List.map_append] at ho8; have HO8 := Lib.hid ho8; have HH8 := Lib.hid (HH7.out.apart hg8 (fun g hg => by obtain ⟨cs, hcs⟩ := row_tag HO7.out g hg; exact ⟨cs, _, hcs⟩)); have HK8 := Lib.hid (HK7.out.step hg8 (fun g hg => .inl (HO7.out.lt g hg).2)); clear ho8 hg8))
      rename_i K hK hHe
      refine hK _ _ ?_
      have hln : (ls ++ ms).length ≤ 6000 := by rw [List.length_append]; simp at hms; omega
      have hall := congrArg List.length HFT.out.all
      rw [List.nil_append, List.length_take, List.length_append, Nat.min_eq_left hkk2] at hall
      have HALL := Lib.hid hall
      have HP8 := Lib.hid (show PaS w6 B cb rb tb1 t (s.take (m + kk)) v8 w8 from ⟨_, _, _, HO8.out, HH8.out, HFT.out, HK8.out⟩)
      obtain ⟨L, hL⟩ : ∃ L, L = ls ++ ms := ⟨_, rfl⟩
      rw [← hL] at HO8 hln HALL hall
      obtain ⟨a8, cap8, hv8, hc8⟩ := Txs.of_owns HO8.out
      have HC8 := Lib.hid hc8
      subst hv8
      have HWT := Lib.hid (waits_any B cb rb tb1 _ _ t h' hv7 w8 HH8.out)
      obtain ⟨hw, hhw⟩ : ∃ n, n = h'.length := ⟨_, rfl⟩
      rw [← hhw] at HWT HALL hall
      have hfm : L.flatten.length ≤ 1500 := by omega
      clear hHe hL hc8 HFT HO7 HX7 HH7 HK7 hms e0 e1 e2 e3 hs1 hs2 hhw hall
      go_wp2_with fail
      go_loopw [13, 77] (fun sn j w9 => ∃ q : Nat, q ≤ L.length ∧ j = .int .i64 q ∧ sn = .int .i64 ((L.take q).flatten.length : Nat) ∧ w8 = w9) (fun _ j _ => L.length - (intOf j).toNat)
      case atStart => exact ⟨0, by omega, rfl, rfl, rfl⟩
      case round =>
        obtain ⟨q, hq, rfl, rfl, rfl⟩ := hrel
        by_cases hql : q < L.length
        · have dq : decide ((q : Int) < (L.length : Int)) = true := by simp; omega
          have dq' : decide (q < L.length) = true := by simpa using hql
          obtain ⟨gq, oq, hqa, hqc⟩ := HC8.out q hql
          subst hqa
          have HFS := Lib.hid (congrArg List.length (flatten_take_succ L q hql))
          have hyl := flatten_take_le L (q + 1)
          rw [HFS.out] at hyl
          rw [List.length_append] at HFS hyl
          obtain ⟨x, hx⟩ : ∃ x, x = L.getD q [] := ⟨_, rfl⟩
          rw [← hx] at hqc HFS hyl
          obtain ⟨y, hy⟩ : ∃ y, y = (L.take q).flatten.length := ⟨_, rfl⟩
          rw [← hy] at HFS hyl
          simp only [← hy]
          clear hx hy
          go_wp2_with fail
          refine ⟨⟨q + 1, by omega, by go_num, by rw [HFS.out]; go_num, trivial⟩, ?_⟩
          simp [intOf]; omega
        · have eq : q = L.length := by omega
          subst eq
          have dq : decide ((L.length : Int) < (L.length : Int)) = false := by simp
          rw [List.take_length]
          have HS2 := Lib.hid (show ((L.flatten.length : Nat) : Int) + (hw : Int) = (m : Int) + (kk : Int) by have := HALL.out; omega)
          have hbig : L.flatten.length + hw ≤ 3000 := by have := HALL.out; omega
          obtain ⟨fl, hfl2⟩ : ∃ f, f = L.flatten.length := ⟨_, rfl⟩
          rw [← hfl2] at HS2 hbig
          simp only [← hfl2]
          have hne : (((fl : Int) + (hw : Int)) != ((m : Int) + (kk : Int))) = false := by rw [HS2.out]; simp
          clear hfl2
          go_wp2_with fail
          refine HWT.out.mono ?_
          rintro e w' ⟨rfl, rfl⟩
          go_wp2_with fail
          refine ⟨⟨m + kk, k + 1, by omega, by omega, by omega, by go_num, by go_num, HP8⟩, ?_⟩
          simp [intOf]; omega
    · by_cases hA : k < ks.length
      · have d1 : decide ((k : Int) < (ks.length : Int)) = true := by simp; omega
        have d2 : decide ((k : Int) < 30) = false := by simp; omega
        obtain ⟨ls, h, hv, f1, f2, f3, f4⟩ := HP.out
        have hls := fed_count f3
        rw [List.length_nil, List.length_take] at hls
        have hsf := fun W => slice_str_from (P := Tryd.prog) Tryd.underlying9 s .i64 m (by omega) W
        have HWB := Lib.hid (write8_any B cb rb tb1 t h hv _ [s.drop m] _ (f2.alloc (.cells #[tx (s.drop m)] 9)) f3.no (Txs.new (w := wr) (t := 9) [s.drop m] 1) (not_mine_new (w := wr) (xs := #[tx (s.drop m)])) (by simp) (by simp; omega))
        rw [show [s.drop m].flatten = s.drop m by simp] at HWB
        have HO := Lib.hid (f1.alloc (.cells #[tx (s.drop m)] 9))
        have HKa := Lib.hid (f4.trans (Kt.alloc (w := wr) B (.cells #[tx (s.drop m)] 9)))
        have HF3 := Lib.hid f3
        clear f1 f2 f3 f4 HP
        go_wp2_with fail
        refine HWB.out.mono ?_
        rintro e w7 ⟨v7, ms, h', hv7, rfl, ho7, hh7, hf7, hk7⟩
        have HFT := Lib.hid (show Fed t [] s (ls ++ ms) h' by have := HF3.out.trans hf7; rwa [List.take_append_drop] at this)
        have hms := fed_count hf7
        have hsh := hf7.no.short
        have hsh0 := HF3.out.no.short
        rw [List.length_drop] at hms
        have HO7 := Lib.hid (strs_kt HO.out hk7)
        have HX7 := Lib.hid ho7
        have HH7 := Lib.hid hh7
        have HK7 := Lib.hid (HKa.out.trans hk7)
        clear ho7 hh7 hf7 hk7 HWB hsf HO HKa HF3
        go_wp2_with (first
          | (at_builtin; refine wp_append_all HO7.out HX7.out (.tmp 92) (.tmp 98) 53 ti (.string ⟨#[]⟩) rfl rfl Tryd.underlying53 HTI.out HTZ.out HTS.out HTB rfl rfl rfl (one_txs ms) (by rw [List.length_map, List.length_map]; omega) (by exact HK7.out.size) ?_
             intro v8 w8 ho8 hg8
             rw [← List.map_append] at ho8
             have HO8 := Lib.hid ho8
             have HH8 := Lib.hid (HH7.out.apart hg8 (fun g hg => by
               obtain ⟨cs, hcs⟩ := row_tag HO7.out g hg
               exact ⟨cs, _, hcs⟩))
             have HK8 := Lib.hid (HK7.out.step hg8 (fun g hg => .inl (HO7.out.lt g hg).2))
             clear ho8 hg8)
          | fail)
        have hln : (ls ++ ms).length ≤ 6000 := by rw [List.length_append]; omega
        obtain ⟨L, hL⟩ : ∃ L, L = ls ++ ms := ⟨_, rfl⟩
        rw [← hL] at HFT HO8 hln
        clear HO7 HX7 HH7 HK7 hms hL
        refine (waits_any B cb rb tb1 _ _ t h' hv7 w8 HH8.out).mono ?_
        rintro e w' ⟨rfl, rfl⟩
        have HCL := Lib.hid (close_any B cb rb tb1 _ _ t h' hv7 w8 HH8.out (by omega))
        go_wp2_with fail
        refine HCL.out.mono ?_
        rintro e w9 ⟨rfl, hh9, hk9⟩
        have HK9 := Lib.hid (HK8.out.trans hk9)
        have HO9 := Lib.hid (strs_kt HO8.out hk9)
        have HH9 := Lib.hid hh9
        have hz9 : w6.heap.size ≤ w9.heap.size := HK9.out.size
        have HFE := Lib.hid (fed_end HFT.out)
        have HRC := Lib.hid (fun W hW => refCut_any tb t s W hW (by omega))
        obtain ⟨cs, hcs⟩ : ∃ c, c = cuts t s := ⟨_, rfl⟩
        simp only [← hcs] at HRC
        rw [← hcs] at HFE
        clear hk9 hh9 HO8 HH8 HK8 HCL hcs
        by_cases h0 : h' = []
        · subst h0
          have HE := Lib.hid (show cs = L by have := HFE.out; rwa [if_pos rfl] at this)
          have HC2 := Lib.hid (close_any B cb rb tb1 _ _ t [] _ w9 HH9.out (by simp))
          go_wp2_with fail
          refine HC2.out.mono ?_
          rintro e w10 ⟨rfl, hh10, hk10⟩
          have HK10 := Lib.hid (HK9.out.trans hk10)
          have HO10 := Lib.hid (strs_kt HO9.out hk10)
          have HT10 := Lib.hid (HT6.out.low (HK10.out.below hB6) HTL.out)
          have HB10 := Lib.hid (show Below w.heap.size w w10 from HB6.out.trans ((HK10.out.below hB6).mono hwB))
          have HWT := Lib.hid (waits_any B cb rb tb1 _ _ t [] _ w10 hh10)
          clear hh10 hk10
          go_wp2_with fail
          refine HWT.out.mono ?_
          rintro e w' ⟨rfl, rfl⟩
          go_wp2_with fail
          refine (HRC.out _ HT10.out).mono ?_
          rintro e w11 ⟨vz, rfl, hoz, hb11⟩
          rw [HE.out] at hoz
          have HSA := Lib.hid (same_any _ vz L w11 (Txs.of_owns (HO10.out.below hb11)) (Txs.of_owns hoz) (by omega))
          have HB11 := Lib.hid (belowThen HB10.out hb11)
          clear hoz hb11
          go_wp2_with fail
          refine HSA.out.mono ?_
          rintro e w12 ⟨rfl, hb12⟩
          have HB12 := Lib.hid (belowThen HB11.out hb12)
          clear hb12
          go_wp2
          go_ret
          exact ⟨rfl, HB12.out⟩
        · have hem : h'.isEmpty = false := by rw [List.isEmpty_eq_false_iff]; exact h0
          have hpos : 0 < h'.length := List.length_pos_iff.2 h0
          have hgt : decide ((0 : Int) < (h'.length : Int)) = true := by simp; omega
          have HE := Lib.hid (show cs = L ++ [h'] by have := HFE.out; rwa [if_neg h0] at this)
          have HLEN := Lib.hid (show (L.map tx).length + [tx h'].length ≤ 1099511627776 by rw [List.length_map]; simp; omega)
          have HONE := Lib.hid (show ∀ u ∈ [tx h'], u.oneCell' = true by intro u hu; simp at hu; subst hu; rfl)
          go_wp2_with (first
            | (at_builtin; refine wp_append_news (HO9.out.alloc _) 0 (Below.refl 0 _) (Nat.zero_le _) [tx h'] (.tmp 108) (.tmp 110) 53 ti (.string ⟨#[]⟩) rfl rfl Tryd.underlying53 HTI.out HTZ.out HTS.out HTB rfl rfl rfl (fun j u hu => cell_news_one _ _ _ j u hu) HONE.out HLEN.out (by simp; omega) ?_
               intro v10 w10 ho10 _ _ hg10 _
               rw [show L.map tx ++ [tx h'] = (L ++ [h']).map tx by rw [List.map_append]; rfl] at ho10
               have HO10 := Lib.hid ho10
               have HH10 := Lib.hid ((HH9.out.alloc (.cells #[tx h'] 9)).apart hg10 (fun g hg => by
                 obtain ⟨cs, hcs⟩ := row_tag (HO9.out.alloc (.cells #[tx h'] 9)) g hg
                 exact ⟨cs, _, hcs⟩))
               have HK10 := Lib.hid ((HK9.out.trans (Kt.alloc (w := w9) B (.cells #[tx h'] 9))).step hg10 (fun g hg => .inl (HO9.out.lt g hg).2))
               clear ho10 hg10)
            | fail)
          have HC2 := Lib.hid (close_any B cb rb tb1 _ _ t [] _ w10 HH10.out (by simp))
          refine HC2.out.mono ?_
          rintro e w11 ⟨rfl, hh11, hk11⟩
          have HK11 := Lib.hid (HK10.out.trans hk11)
          have HO11 := Lib.hid (strs_kt HO10.out hk11)
          have HT11 := Lib.hid (HT6.out.low (HK11.out.below hB6) HTL.out)
          have HB11 := Lib.hid (show Below w.heap.size w w11 from HB6.out.trans ((HK11.out.below hB6).mono hwB))
          have HWT := Lib.hid (waits_any B cb rb tb1 _ _ t [] _ w11 hh11)
          clear hh11 hk11
          go_wp2_with fail
          refine HWT.out.mono ?_
          rintro e w' ⟨rfl, rfl⟩
          go_wp2_with fail
          refine (HRC.out _ HT11.out).mono ?_
          rintro e w12 ⟨vz, rfl, hoz, hb12⟩
          rw [HE.out] at hoz
          have HSA := Lib.hid (same_any _ vz (L ++ [h']) w12 (Txs.of_owns (HO11.out.below hb12)) (Txs.of_owns hoz) (by rw [List.length_append]; simp; omega))
          have HB12 := Lib.hid (belowThen HB11.out hb12)
          clear hoz hb12
          go_wp2_with fail
          refine HSA.out.mono ?_
          rintro e w13 ⟨rfl, hb13⟩
          have HB13 := Lib.hid (belowThen HB12.out hb13)
          clear hb13
          go_wp2
          go_ret
          exact ⟨rfl, HB13.out⟩
      · have d1 : decide ((k : Int) < (ks.length : Int)) = false := by simp; omega
        obtain ⟨ls, h, hv, f1, f2, f3, f4⟩ := HP.out
        have hls := fed_count f3
        rw [List.length_nil, List.length_take] at hls
        have hsf := fun W => slice_str_from (P := Tryd.prog) Tryd.underlying9 s .i64 m (by omega) W
        have HWB := Lib.hid (write8_any B cb rb tb1 t h hv _ [s.drop m] _ (f2.alloc (.cells #[tx (s.drop m)] 9)) f3.no (Txs.new (w := wr) (t := 9) [s.drop m] 1) (not_mine_new (w := wr) (xs := #[tx (s.drop m)])) (by simp) (by simp; omega))
        rw [show [s.drop m].flatten = s.drop m by simp] at HWB
        have HO := Lib.hid (f1.alloc (.cells #[tx (s.drop m)] 9))
        have HKa := Lib.hid (f4.trans (Kt.alloc (w := wr) B (.cells #[tx (s.drop m)] 9)))
        have HF3 := Lib.hid f3
        clear f1 f2 f3 f4 HP
        go_wp2_with fail
        refine HWB.out.mono ?_
        rintro e w7 ⟨v7, ms, h', hv7, rfl, ho7, hh7, hf7, hk7⟩
        have HFT := Lib.hid (show Fed t [] s (ls ++ ms) h' by have := HF3.out.trans hf7; rwa [List.take_append_drop] at this)
        have hms := fed_count hf7
        have hsh := hf7.no.short
        have hsh0 := HF3.out.no.short
        rw [List.length_drop] at hms
        have HO7 := Lib.hid (strs_kt HO.out hk7)
        have HX7 := Lib.hid ho7
        have HH7 := Lib.hid hh7
        have HK7 := Lib.hid (HKa.out.trans hk7)
        clear ho7 hh7 hf7 hk7 HWB hsf HO HKa HF3
        go_wp2_with (first
          | (at_builtin; refine wp_append_all HO7.out HX7.out (.tmp 92) (.tmp 98) 53 ti (.string ⟨#[]⟩) rfl rfl Tryd.underlying53 HTI.out HTZ.out HTS.out HTB rfl rfl rfl (one_txs ms) (by rw [List.length_map, List.length_map]; omega) (by exact HK7.out.size) ?_
             intro v8 w8 ho8 hg8
             rw [← List.map_append] at ho8
             have HO8 := Lib.hid ho8
             have HH8 := Lib.hid (HH7.out.apart hg8 (fun g hg => by
               obtain ⟨cs, hcs⟩ := row_tag HO7.out g hg
               exact ⟨cs, _, hcs⟩))
             have HK8 := Lib.hid (HK7.out.step hg8 (fun g hg => .inl (HO7.out.lt g hg).2))
             clear ho8 hg8)
          | fail)
        have hln : (ls ++ ms).length ≤ 6000 := by rw [List.length_append]; omega
        obtain ⟨L, hL⟩ : ∃ L, L = ls ++ ms := ⟨_, rfl⟩
        rw [← hL] at HFT HO8 hln
        clear HO7 HX7 HH7 HK7 hms hL
        refine (waits_any B cb rb tb1 _ _ t h' hv7 w8 HH8.out).mono ?_
        rintro e w' ⟨rfl, rfl⟩
        have HCL := Lib.hid (close_any B cb rb tb1 _ _ t h' hv7 w8 HH8.out (by omega))
        go_wp2_with fail
        refine HCL.out.mono ?_
        rintro e w9 ⟨rfl, hh9, hk9⟩
        have HK9 := Lib.hid (HK8.out.trans hk9)
        have HO9 := Lib.hid (strs_kt HO8.out hk9)
        have HH9 := Lib.hid hh9
        have hz9 : w6.heap.size ≤ w9.heap.size := HK9.out.size
        have HFE := Lib.hid (fed_end HFT.out)
        have HRC := Lib.hid (fun W hW => refCut_any tb t s W hW (by omega))
        obtain ⟨cs, hcs⟩ : ∃ c, c = cuts t s := ⟨_, rfl⟩
        simp only [← hcs] at HRC
        rw [← hcs] at HFE
        clear hk9 hh9 HO8 HH8 HK8 HCL hcs
        by_cases h0 : h' = []
        · subst h0
          have HE := Lib.hid (show cs = L by have := HFE.out; rwa [if_pos rfl] at this)
          have HC2 := Lib.hid (close_any B cb rb tb1 _ _ t [] _ w9 HH9.out (by simp))
          go_wp2_with fail
          refine HC2.out.mono ?_
          rintro e w10 ⟨rfl, hh10, hk10⟩
          have HK10 := Lib.hid (HK9.out.trans hk10)
          have HO10 := Lib.hid (strs_kt HO9.out hk10)
          have HT10 := Lib.hid (HT6.out.low (HK10.out.below hB6) HTL.out)
          have HB10 := Lib.hid (show Below w.heap.size w w10 from HB6.out.trans ((HK10.out.below hB6).mono hwB))
          have HWT := Lib.hid (waits_any B cb rb tb1 _ _ t [] _ w10 hh10)
          clear hh10 hk10
          go_wp2_with fail
          refine HWT.out.mono ?_
          rintro e w' ⟨rfl, rfl⟩
          go_wp2_with fail
          refine (HRC.out _ HT10.out).mono ?_
          rintro e w11 ⟨vz, rfl, hoz, hb11⟩
          rw [HE.out] at hoz
          have HSA := Lib.hid (same_any _ vz L w11 (Txs.of_owns (HO10.out.below hb11)) (Txs.of_owns hoz) (by omega))
          have HB11 := Lib.hid (belowThen HB10.out hb11)
          clear hoz hb11
          go_wp2_with fail
          refine HSA.out.mono ?_
          rintro e w12 ⟨rfl, hb12⟩
          have HB12 := Lib.hid (belowThen HB11.out hb12)
          clear hb12
          go_wp2
          go_ret
          exact ⟨rfl, HB12.out⟩
        · have hem : h'.isEmpty = false := by rw [List.isEmpty_eq_false_iff]; exact h0
          have hpos : 0 < h'.length := List.length_pos_iff.2 h0
          have hgt : decide ((0 : Int) < (h'.length : Int)) = true := by simp; omega
          have HE := Lib.hid (show cs = L ++ [h'] by have := HFE.out; rwa [if_neg h0] at this)
          have HLEN := Lib.hid (show (L.map tx).length + [tx h'].length ≤ 1099511627776 by rw [List.length_map]; simp; omega)
          have HONE := Lib.hid (show ∀ u ∈ [tx h'], u.oneCell' = true by intro u hu; simp at hu; subst hu; rfl)
          go_wp2_with (first
            | (at_builtin; refine wp_append_news (HO9.out.alloc _) 0 (Below.refl 0 _) (Nat.zero_le _) [tx h'] (.tmp 108) (.tmp 110) 53 ti (.string ⟨#[]⟩) rfl rfl Tryd.underlying53 HTI.out HTZ.out HTS.out HTB rfl rfl rfl (fun j u hu => cell_news_one _ _ _ j u hu) HONE.out HLEN.out (by simp; omega) ?_
               intro v10 w10 ho10 _ _ hg10 _
               rw [show L.map tx ++ [tx h'] = (L ++ [h']).map tx by rw [List.map_append]; rfl] at ho10
               have HO10 := Lib.hid ho10
               have HH10 := Lib.hid ((HH9.out.alloc (.cells #[tx h'] 9)).apart hg10 (fun g hg => by
                 obtain ⟨cs, hcs⟩ := row_tag (HO9.out.alloc (.cells #[tx h'] 9)) g hg
                 exact ⟨cs, _, hcs⟩))
               have HK10 := Lib.hid ((HK9.out.trans (Kt.alloc (w := w9) B (.cells #[tx h'] 9))).step hg10 (fun g hg => .inl (HO9.out.lt g hg).2))
               clear ho10 hg10)
            | fail)
          have HC2 := Lib.hid (close_any B cb rb tb1 _ _ t [] _ w10 HH10.out (by simp))
          refine HC2.out.mono ?_
          rintro e w11 ⟨rfl, hh11, hk11⟩
          have HK11 := Lib.hid (HK10.out.trans hk11)
          have HO11 := Lib.hid (strs_kt HO10.out hk11)
          have HT11 := Lib.hid (HT6.out.low (HK11.out.below hB6) HTL.out)
          have HB11 := Lib.hid (show Below w.heap.size w w11 from HB6.out.trans ((HK11.out.below hB6).mono hwB))
          have HWT := Lib.hid (waits_any B cb rb tb1 _ _ t [] _ w11 hh11)
          clear hh11 hk11
          go_wp2_with fail
          refine HWT.out.mono ?_
          rintro e w' ⟨rfl, rfl⟩
          go_wp2_with fail
          refine (HRC.out _ HT11.out).mono ?_
          rintro e w12 ⟨vz, rfl, hoz, hb12⟩
          rw [HE.out] at hoz
          have HSA := Lib.hid (same_any _ vz (L ++ [h']) w12 (Txs.of_owns (HO11.out.below hb12)) (Txs.of_owns hoz) (by rw [List.length_append]; simp; omega))
          have HB12 := Lib.hid (belowThen HB11.out hb12)
          clear hoz hb12
          go_wp2_with fail
          refine HSA.out.mono ?_
          rintro e w13 ⟨rfl, hb13⟩
          have HB13 := Lib.hid (belowThen HB12.out hb13)
          clear hb13
          go_wp2
          go_ret
          exact ⟨rfl, HB13.out⟩
end Go.Proofs.YtbjeiiofanpkdaaDoor

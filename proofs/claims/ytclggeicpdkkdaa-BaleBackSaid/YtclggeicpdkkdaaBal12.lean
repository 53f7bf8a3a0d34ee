/-
  Slices of names that the call makes; package bale: IDs.
-/
import Derived.Test.YtclggeicpdkkdaaBal11
import Derived.Test.YtclggeicpdkkdaaBal8
namespace Go.Proofs.Ytclggeicpdkkdaa
open Go.RowKit Crv

def idCells (xs : List (List UInt8)) : List Value := xs.flatten.map byteV
/-- A slice value that owns a row of names. -/
def Ids (w : World) (base : Nat) (v : Value) (xs : List (List UInt8)) : Prop := (∀ x ∈ xs, x.length = 32) ∧ w.ownsRow base Ti 32 v xs.length (idCells xs)
theorem length_idCells {xs : List (List UInt8)} (h : ∀ x ∈ xs, x.length = 32) : (idCells xs).length = xs.length * 32 := by
  rw [idCells, List.length_map, flatten_len32 xs h]
  omega
theorem Ids.lt {w : World} {base : Nat} {v : Value} {xs : List (List UInt8)} (h : Ids w base v xs) : ∀ g, v.ownBlock = some g → g < w.heap.size ∧ base ≤ g := by
  intro g hg
  rcases h.2.2 with ⟨rfl, _⟩ | ⟨g', cap, cur, rfl, h1, h2, h3⟩
  · cases hg
  · have : g' = g := by simpa [Value.ownBlock] using hg
    subst this
    exact ⟨(Array.getElem?_eq_some_iff.1 h2).1, h1⟩
theorem Ids.of_block {w w' : World} {base : Nat} {v : Value} {xs : List (List UInt8)} (h : Ids w base v xs) (hb : ∀ g, v.ownBlock = some g → w'.heap[g]? = w.heap[g]?) : Ids w' base v xs := by
  refine ⟨h.1, h.2.1, ?_⟩
  rcases h.2.2 with h0 | ⟨g, cap, cur, rfl, h1, h2, h3⟩
  · exact .inl h0
  · exact .inr ⟨g, cap, cur, rfl, h1, (hb g rfl).trans h2, h3⟩
theorem Ids.below {w w' : World} {base : Nat} {v : Value} {xs : List (List UInt8)} (h : Ids w base v xs) (hb : Below w.heap.size w w') : Ids w' base v xs := h.of_block fun g hg => hb.block g (h.lt g hg).1
theorem Ids.new {w : World} {base : Nat} (hb : base ≤ w.heap.size) : Ids (w.alloc (.cells #[] Ti)) base (.slice (some ⟨w.heap.size, 0, none⟩) 0 0) [] :=
  ⟨by simp, rfl, .inr ⟨w.heap.size, 0, #[], rfl, hb, Mem.new w Ti [], Nat.le_refl _, by simp [maxLen], rfl, rfl⟩⟩
theorem idCells_get {xs : List (List UInt8)} (h : ∀ x ∈ xs, x.length = 32) : ∀ (i : Nat) (hi : i < xs.length) (j : Nat), j < 32 → (idCells xs)[i * 32 + j]? = (xs[i].map byteV)[j]? := by
  induction xs with
  | nil => intro i hi; simp at hi
  | cons x r ih =>
    intro i hi j hj
    have hx := h x (by simp)
    have e : idCells (x :: r) = x.map byteV ++ idCells r := by simp [idCells]
    rw [e]
    cases i with
    | zero =>
      rw [List.getElem?_append_left (by simp [hx]; omega)]
      simp
    | succ i =>
      rw [List.getElem?_append_right (by simp [hx]; omega), List.length_map, hx, show (i + 1) * 32 + j - 32 = i * 32 + j from by omega]
      exact ih (fun y hy => h y (by simp [hy])) i (by simpa using hi) j hj
theorem Ids.form {w : World} {base : Nat} {v : Value} {xs : List (List UInt8)} (h : Ids w base v xs) : ∃ a cap, v = .slice a xs.length cap ∧
    (∀ i (hi : i < xs.length), ∃ g, a = some ⟨g, 0, none⟩ ∧ base ≤ g ∧ g < w.heap.size ∧ w.rangeAt g (i * 32) (xs[i].map byteV)) := by
  have hall := h.1
  rcases h.2.2 with ⟨rfl, h0⟩ | ⟨g, cap, cur, rfl, h1, h2, h3, h4, h5, h6⟩
  · exact ⟨none, 0, by rw [h0], fun i hi => by omega⟩
  · refine ⟨_, _, rfl, fun i hi => ⟨g, rfl, h1, (Array.getElem?_eq_some_iff.1 h2).1, fun j u hu => ?_⟩⟩
    have hx := hall xs[i] (List.getElem_mem hi)
    have hj : j < 32 := by
      have := (List.getElem?_eq_some_iff.1 hu).1
      simpa [hx] using this
    have hlen : i * 32 + j < xs.length * 32 := by
      have : (i + 1) * 32 ≤ xs.length * 32 := Nat.mul_le_mul_right _ hi
      omega
    have e := idCells_get hall i hi j hj
    rw [hu, ← h6, List.getElem?_take_of_lt hlen] at e
    simp only [World.cell?, h2]
    simpa using e

section
variable {P : Program} {ops : Array Oper} {rest : List Oper} {o : Oper} {a : Act} {w0 w : World} {Q : Exit → Act → World → Prop}
/-- A whole array out of the middle of a block. -/
theorem wp_load_rng {b off : Nat} {cs : List Value} (hc : w.rangeAt b off cs) (ty : TypeId) (x : Operand) (d : TypeDesc) (hgd : o.guard = none) (ho : o.op = .load ty x) (hx : a.eval x = .pointer (some ⟨b, off, none⟩))
    (hu : P.underlying ty = some d) (hd : d.isRow = true) (hi : (P.info? ty).map (·.size) = some cs.length) (h : wpList P ops Q rest (a.put o.dst (.agg cs.toArray)) w) : wpList P ops Q (o :: rest) a w := by
  refine wpList_plain hgd fun K hK => ?_
  have hr := run_loadAt_mid (P := P) w b off ty cs d hc hu hd hi
  unfold Oper.wp execOp
  simp only [ho, hx, hr, Sem.run_bind, Sem.run_pure, Result.andThen_ok]
  exact hK _ _ h
/-- append of m cells that lie together. -/
theorem wp_append_m {base : Nat} {e : TypeId} {v : Value} {xs : List Value} (hown : Owns w base e v xs) (B : Nat) (hB : Below B w0 w) (hBb : B ≤ base)
    (news : List Value) (m : Nat) (hm : news.length = m) (s x : Operand) (t : TypeId) (i : TypeInfo) (z : Value) (hgd : o.guard = none) (ho : o.op = .call { callee := .builtin .append, args := #[s, x], argTypes := #[t, t] })
    (ht : P.underlying t = some (.slice e)) (hi : P.info? e = some i) (hz : i.zero = some z) (hsize : i.size = 1) (hby : i.bytes ≤ 64) (hzs : z.cells.size = 1)
    (hs : a.eval s = v) {g c : Nat} (hx : a.eval x = .slice (some ⟨g, 0, none⟩) m c) (hnews : ∀ j u, news[j]? = some u → w.cell? ⟨g, j, none⟩ = some u) (h1 : ∀ u ∈ news, u.oneCell' = true)
    (hlen : xs.length + m ≤ 1099511627776) (hbase : base ≤ w.heap.size)
    (h : ∀ v' w', Owns w' base e v' (xs ++ news) → Below B w0 w' → w.heap.size ≤ w'.heap.size → Keeps w v xs.length w' → wpList P ops Q rest (a.put o.dst v') w') : wpList P ops Q (o :: rest) a w := by
  subst hm
  exact wp_append_keep hown B hB hBb news s x t i z hgd ho ht hi hz hsize hby hzs hs hx hnews h1 hlen hbase h
/-- append(l, x) of a name. -/
theorem wp_append_id {base : Nat} {v : Value} {xs : List (List UInt8)} (hown : Ids w base v xs) (B : Nat) (hB : Below B w0 w) (hBb : B ≤ base)
    (x : List UInt8) (hxl : x.length = 32) (s y : Operand) (t : TypeId) (i : TypeInfo) (z : Value) (hgd : o.guard = none) (ho : o.op = .call { callee := .builtin .append, args := #[s, y], argTypes := #[t, t] })
    (ht : P.underlying t = some (.slice Ti)) (hi : P.info? Ti = some i) (hz : i.zero = some z) (hsize : i.size = 32) (hby : i.bytes = 32) (hzs : z.cells.size = 32)
    (hs : a.eval s = v) {g c : Nat} (hx : a.eval y = .slice (some ⟨g, 0, none⟩) 1 c) (hnews : Mem w g Ti (x.map byteV))
    (hlen : xs.length ≤ 1099511627776) (hbase : base ≤ w.heap.size)
    (h : ∀ v' w', Ids w' base v' (xs ++ [x]) → Below B w0 w' → w.heap.size ≤ w'.heap.size → w.grownBy w' v.ownBlock → (v'.ownBlock = v.ownBlock ∨ v'.ownBlock = some w.heap.size) → wpList P ops Q rest (a.put o.dst v') w') : wpList P ops Q (o :: rest) a w := by
  refine wpList_append_own_at (P := P) w hgd s y t ho base Ti i z 32 32 ht hi hz hsize hby hzs (by omega) v xs.length (idCells xs) hs hown.2 ⟨g, 0, none⟩ 1 c (x.map byteV) hx (by simp [hxl]) ?_ (oneBytes x) (by simp only [maxLen]; omega) (by omega) hbase ?_
  · intro j u hu
    rw [add_plain, hnews.cell]
    exact hu
  · intro v' w' ho' hg _ hat
    have hlt := hown.lt
    refine h v' w' ⟨fun q hq => ?_, ?_⟩ (hB.trans ⟨hg.os, hg.tape, hg.output, hg.size, fun k hk => hg.block k (by omega) (fun e => by have := (hlt k e.symm).2; omega)⟩) hg.size hg hat
    · rcases List.mem_append.1 hq with h1 | h1
      · exact hown.1 q h1
      · simp at h1; subst h1; exact hxl
    · rw [List.length_append]
      have e : idCells (xs ++ [x]) = idCells xs ++ x.map byteV := by simp [idCells]
      rw [e]
      exact ho'
end

set_option maxRecDepth 100000 in
set_option maxHeartbeats 1000000 in
theorem ids_any (w : World) (base : Nat) (v : Value) (xs : List (List UInt8)) (hv : Ids w base v xs) (hn : xs.length ≤ 1000) :
    Calls Try.prog 15 #[v] w fun e w' => e = .returned (.string (str (idsOf xs))) ∧ Below w.heap.size w w' := by
  obtain ⟨i8, hi, hz, hsz, hby⟩ : ∃ i, Try.prog.info? 5 = some i ∧ i.zero = some (.int .u8 0) ∧ i.size = 1 ∧ i.bytes = 1 := info_of (by kernel_rfl)
  have HBY : i8.bytes ≤ 64 := by omega
  have HI := Lib.hid hi
  have HZ := Lib.hid hz
  have HS := Lib.hid hsz
  clear hi hz hsz hby
  have HV := Lib.hid hv
  obtain ⟨a, cap, rfl, hcell⟩ := hv.form
  have HALL := Lib.hid hv.1
  clear hcell hv
  have hnl := length_numOf (n := xs.length) (by omega)
  have HC := Lib.hid (appendNum_any w w.heap.size (.slice none 0 0) [] xs.length (by omega) (Owns.nil _ _ _) (Nat.le_refl _) (by simp))
  rw [List.nil_append] at HC
  obtain ⟨m, hm⟩ : ∃ m, m = numOf xs.length := ⟨_, rfl⟩
  have HM := Lib.hid (show idsOf xs = m ++ xs.flatten by rw [hm]; rfl)
  rw [← hm] at HC hnl
  clear hm
  go_enter Try.func15, Try.ntmps15
  go_wp2_with fail
  refine HC.out.mono ?_
  rintro e w1 ⟨v1, rfl, hown1, hb1⟩
  have HO1 := Lib.hid hown1
  clear HC hown1
  go_wp2_with fail
  go_loopw [3, 12] (fun v i wr => ∃ k : Nat, k ≤ xs.length ∧ i = .int .i64 k ∧ Hid (Owns wr w.heap.size 5 v ((m ++ (xs.take k).flatten).map byteV)) ∧ Below w.heap.size w wr) (fun _ i _ => xs.length - (intOf i).toNat)
  case atStart => exact ⟨0, by omega, rfl, Lib.hid (by simpa using HO1.out), hb1⟩
  case round =>
    clear HO1 hb1
    obtain ⟨k, hk, rfl, HO, hb⟩ := hrel
    have hbz := hb.size
    by_cases hlt : k < xs.length
    · obtain ⟨a', cap', hv', hc'⟩ := (HV.out.below hb).form
      injection hv' with h1 h2 h3
      obtain ⟨g, ha, hgb, hgl, hrng⟩ := hc' k hlt
      rw [← h1] at ha
      subst ha
      obtain ⟨x, hx⟩ : ∃ x, x = xs[k] := ⟨_, rfl⟩
      have hxl : x.length = 32 := HALL.out x (by rw [hx]; exact List.getElem_mem hlt)
      rw [← hx] at hrng
      have HRNG := Lib.hid hrng
      have HSUM := Lib.hid (show (m ++ (xs.take (k + 1)).flatten).map byteV = (m ++ (xs.take k).flatten).map byteV ++ x.map byteV by
        rw [List.take_succ_eq_append_getElem hlt, List.flatten_append, ← hx]; simp)
      have HLEN := Lib.hid (show ((m ++ (xs.take k).flatten).map byteV).length + 32 ≤ 1099511627776 by
        have h4 := flatten_len32 (xs.take k) (fun l hl => HALL.out l (List.mem_of_mem_take hl))
        have h5 := List.length_take_le k xs
        rw [List.length_map, List.length_append]
        omega)
      have SZ := Lib.hid (sz_id x hxl)
      have HZ32 := Lib.hid (show (List.replicate 32 (byteV 0)).length = (x.map byteV).length by rw [List.length_map, hxl]; rfl)
      have ONE := Lib.hid (oneBytes x)
      have HXL := Lib.hid (show (x.map byteV).length = 32 by rw [List.length_map, hxl])
      clear hx h1 h2 h3 hc' hrng hxl
      have hd : decide (k < xs.length) = true := by simp; omega
      go_wp2_with (first
        | (refine wp_load_rng HRNG.out Ti (.tmp 14) (.array 32 5) rfl rfl rfl Try.underlying30 rfl SZ.out ?_)
        | (refine wp_store_gen (B := wr.heap.size) (w0 := wr) (belowSelf wr _) (Nat.le_refl _) (Mem.newAt wr Ti (List.replicate 32 (byteV 0)) rfl) (x.map byteV) Ti (.tmp 5) (.tmp 15) rfl rfl rfl rfl SZ.out HZ32.out ONE.out ?_
           intro W2 hm2 hb2 hz2 hk2
           have HX2 := Lib.hid hm2
           have HO2 := Lib.hid (HO.out.below hb2)
           have hb02 := belowThen hb hb2
           clear hm2 hb2 hz2 hk2)
        | (at_builtin; refine wp_append_m HO2.out w.heap.size hb02 (Nat.le_refl _) (x.map byteV) 32 HXL.out (.tmp 16) (.tmp 17) 32 i8 (.int .u8 0) rfl rfl Try.underlying32 HI.out HZ.out HS.out HBY rfl rfl rfl (fun j u hu => (Mem.cell HX2.out j).trans hu) ONE.out HLEN.out hb02.size ?_
           intro v3 w3 hown3 hb3 hz3 hkp3
           rw [← HSUM.out] at hown3
           have HO3 := Lib.hid hown3
           clear hown3 hkp3 hz3)
        | fail)
      go_roundw
      case rel => exact ⟨k + 1, by omega, by go_num, HO3, hb3⟩
      case measure => simp [intOf]; omega
    · have ek : k = xs.length := by omega
      subst ek
      rw [List.take_length, ← HM.out] at HO
      have hcv := HO.out.string (P := Try.prog) (src := 32) (dst := 9) Try.underlying32 Try.underlying5 Try.underlying9
      go_wp2
      go_ret
      exact ⟨rfl, hb⟩
end Go.Proofs.Ytclggeicpdkkdaa

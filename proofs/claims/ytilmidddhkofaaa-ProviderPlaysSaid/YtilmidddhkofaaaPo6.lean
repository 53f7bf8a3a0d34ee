/-
  ProviderPlays: names out of numbers; a table and a list beside it.
-/
import Derived.Test.YtilmidddhkofaaaPo5
import Derived.Test.YtilmidddhkofaaaPLaw4
namespace Go.Proofs.Ytilmidddhkofaaa
open Go.RowKit Go.Maps Crv

theorem seventy (z : Int) : ∃ o : Nat, o < 70 ∧ (wrap64 (Int.tmod z 70 + 70)).tmod 70 = (o : Int) := by
  have h1 : -70 < Int.tmod z 70 ∧ Int.tmod z 70 < 70 := ⟨by have := Int.lt_tmod_of_pos z (show (0 : Int) < 70 by decide); omega, Int.tmod_lt_of_pos z (by decide)⟩
  rw [IntWalk.wrap64_in _ (by omega)]
  have h2 : (Int.tmod z 70 + 70).tmod 70 = (Int.tmod z 70 + 70) % 70 := Int.tmod_eq_emod_of_nonneg (by omega)
  rw [h2]
  exact ⟨((Int.tmod z 70 + 70) % 70).toNat, by omega, by omega⟩
/-- The name of a number below 70. -/
def nm2 (o : Nat) : List UInt8 := UInt8.ofNat o :: 1 :: List.replicate 30 0
abbrev nm2A (o : Nat) : Array Value := #[Value.int .u8 (o : Int), Value.int .u8 1, Value.int .u8 0, Value.int .u8 0, Value.int .u8 0, Value.int .u8 0, Value.int .u8 0, Value.int .u8 0, Value.int .u8 0, Value.int .u8 0, Value.int .u8 0, Value.int .u8 0, Value.int .u8 0, Value.int .u8 0, Value.int .u8 0, Value.int .u8 0, Value.int .u8 0, Value.int .u8 0, Value.int .u8 0, Value.int .u8 0, Value.int .u8 0, Value.int .u8 0, Value.int .u8 0, Value.int .u8 0, Value.int .u8 0, Value.int .u8 0, Value.int .u8 0, Value.int .u8 0, Value.int .u8 0, Value.int .u8 0, Value.int .u8 0, Value.int .u8 0]
theorem length_nm2 (o : Nat) : (nm2 o).length = 32 := rfl
theorem nm2A_eq {o : Nat} (h : o < 70) : ((nm2 o).map byteV).toArray = nm2A o := by
  have : byteV (UInt8.ofNat o) = .int .u8 (o : Int) := by
    show Value.int .u8 ((UInt8.ofNat o).toNat : Int) = _
    rw [UInt8.toNat_ofNat', Nat.mod_eq_of_lt (by omega)]
  unfold nm2
  rw [List.map_cons, this]
  rfl
set_option maxHeartbeats 2000000 in
set_option maxRecDepth 100000 in
theorem lawid_any (n : Int) (w : World) : Calls Try.prog 9 #[iv n] w fun e w' => ∃ o : Nat, o < 70 ∧ e = .returned (nmV (nm2 o)) ∧ Below w.heap.size w w' := by
  obtain ⟨o, ho, hoo⟩ := seventy n
  have HZ := Lib.hid (show Mem (w.alloc (.cells (List.replicate 32 (byteV 0)).toArray TI)) w.heap.size TI (List.replicate 32 (byteV 0)) from Mem.new w TI _)
  have HA := Lib.hid (show Value.agg (nm2A o) = .agg ((nm2 o).map byteV).toArray from congrArg Value.agg (nm2A_eq ho).symm)
  have HO := Lib.hid (oneBytes (nm2 o))
  have HL := Lib.hid (show (List.replicate 32 (byteV 0)).length = ((nm2 o).map byteV).length from rfl)
  have HI := Lib.hid (show (Try.prog.info? TI).map (·.size) = some ((nm2 o).map byteV).length from sz_id (nm2 o) rfl)
  have HB := Lib.hid (belowSelf w (.cells (List.replicate 32 (byteV 0)).toArray TI))
  go_enter Try.func9, Try.ntmps9
  go_wp2_with (first
    | (refine wp_store_gen HZ.out ((nm2 o).map byteV) TI (.tmp 2) (.tmp 8) rfl rfl rfl HA.out HI.out HL.out HO.out ?_
       intro W hm hg hs
       have HM := Lib.hid hm
       have HG := Lib.hid hg
       clear hm hg hs)
    | fail)
  exact bodyPost_ret (v := nmV (nm2 o)) (results_mem HM.out rfl _ (.array 32 5) rfl Try.underlying30 rfl HI.out) rfl ⟨o, ho, rfl, belowNew HB.out HG.out (Nat.le_refl _)⟩
/-- A slice of rows reads as it did where its block does. -/
theorem RdO.of {w w' : World} {v : Value} {l : List OV} (h : RdO w v l) (hs : w.heap.size ≤ w'.heap.size) (hb : ∀ g, v.ownBlock = some g → w'.heap[g]? = w.heap[g]?) : RdO w' v l := by
  obtain ⟨a, cap, hv, hcap, hc⟩ := h
  refine ⟨a, cap, hv, hcap, fun i hi => ?_⟩
  obtain ⟨g, off, ha, hlt, hr⟩ := hc i hi
  exact ⟨g, off, ha, Nat.lt_of_lt_of_le hlt hs, fun j u hu => (World.cell?_of_block (a := ⟨g, off + i * 3 + j, none⟩) (hb g (by rw [hv, ha]; rfl))).trans (hr j u hu)⟩
/-- A table and the document's list that a law has made since W0, beside the blocks S that are kept. -/
def St (W0 : World) (S : List Nat) (t : Nat) (V : PV) (v : Value) (l : List OV) (w : World) : Prop :=
  ∃ F : Nat → Prop, Pv w F t V ∧ (∀ k, F k → W0.heap.size ≤ k ∧ k < w.heap.size) ∧ RdO w v l ∧ (∀ g, v.ownBlock = some g → g < w.heap.size ∧ ¬ F g) ∧ (∀ s ∈ S, s < w.heap.size ∧ ¬ F s) ∧ Below W0.heap.size W0 w
section
variable {W0 w w' : World} {S : List Nat} {t : Nat} {V V' : PV} {v v' : Value} {l l' : List OV} {x : List UInt8} {a u now : Int}
theorem St.below (h : St W0 S t V v l w) : Below W0.heap.size W0 w := by
  obtain ⟨F, h1, h2, h3, h4, h5, h6⟩ := h
  exact h6
theorem St.rd (h : St W0 S t V v l w) : RdO w v l := by
  obtain ⟨F, h1, h2, h3, h4, h5, h6⟩ := h
  exact h3
theorem St.uq (h : St W0 S t V v l w) : Uniq V ∧ (∀ p ∈ V, Uniq p.2) ∧ (∀ p ∈ V, p.2.Pairwise fun p q => eI.lt p.1 q.1 = true) := by
  obtain ⟨F, h1, h2, h3, h4, h5, h6⟩ := h
  exact h1.uq
theorem St.on (h : St W0 S t V v l w) (hb : Below w.heap.size w w') : St W0 S t V v l w' := by
  obtain ⟨F, h1, h2, h3, h4, h5, h6⟩ := h
  exact ⟨F, h1.below hb, fun k hk => ⟨(h2 k hk).1, Nat.lt_of_lt_of_le (h2 k hk).2 hb.size⟩, h3.below hb, fun g hg => ⟨Nat.lt_of_lt_of_le (h4 g hg).1 hb.size, (h4 g hg).2⟩, fun s hs => ⟨Nat.lt_of_lt_of_le (h5 s hs).1 hb.size, (h5 s hs).2⟩, belowThen h6 hb⟩
/-- A new block is kept. -/
theorem St.add (h : St W0 S t V v l w) (hb : Below w.heap.size w w') {g : Nat} (h1 : w.heap.size ≤ g) (h2 : g < w'.heap.size) : St W0 (g :: S) t V v l w' := by
  have h' := h
  obtain ⟨F, f1, f2, f3, f4, f5, f6⟩ := h
  refine ⟨F, f1.below hb, fun k hk => ⟨(f2 k hk).1, Nat.lt_of_lt_of_le (f2 k hk).2 hb.size⟩, f3.below hb, fun g hg => ⟨Nat.lt_of_lt_of_le (f4 g hg).1 hb.size, (f4 g hg).2⟩, fun s hs => ?_, belowThen f6 hb⟩
  rcases List.mem_cons.1 hs with rfl | hs
  · exact ⟨h2, fun hF => by have := (f2 _ hF).2; omega⟩
  · exact ⟨Nat.lt_of_lt_of_le (f5 s hs).1 hb.size, (f5 s hs).2⟩
theorem St.less (h : St W0 S t V v l w) {S' : List Nat} (hs : ∀ s ∈ S', s ∈ S) : St W0 S' t V v l w := by
  obtain ⟨F, f1, f2, f3, f4, f5, f6⟩ := h
  exact ⟨F, f1, f2, f3, f4, fun s q => f5 s (hs s q), f6⟩
/-- Another list, old or new. -/
theorem St.list (h : St W0 S t V v l w) (hb : Below w.heap.size w w') (hr : RdO w' v' l') (hv : ∀ g, v'.ownBlock = some g → v.ownBlock = some g ∨ (w.heap.size ≤ g ∧ g < w'.heap.size)) : St W0 S t V v' l' w' := by
  obtain ⟨F, f1, f2, f3, f4, f5, f6⟩ := h
  refine ⟨F, f1.below hb, fun k hk => ⟨(f2 k hk).1, Nat.lt_of_lt_of_le (f2 k hk).2 hb.size⟩, hr, fun g hg => ?_, fun s hs => ⟨Nat.lt_of_lt_of_le (f5 s hs).1 hb.size, (f5 s hs).2⟩, belowThen f6 hb⟩
  rcases hv g hg with h1 | h1
  · exact ⟨Nat.lt_of_lt_of_le (f4 g h1).1 hb.size, (f4 g h1).2⟩
  · exact ⟨h1.2, fun hF => by have := (f2 g hF).2; omega⟩
/-- The table turns. -/
theorem St.turn {F G : Nat → Prop} (h : Pv w F t V ∧ (∀ k, F k → W0.heap.size ≤ k ∧ k < w.heap.size) ∧ RdO w v l ∧ (∀ g, v.ownBlock = some g → g < w.heap.size ∧ ¬ F g) ∧ (∀ s ∈ S, s < w.heap.size ∧ ¬ F s) ∧ Below W0.heap.size W0 w)
    (hG : ∀ k, G k → F k ∨ w.heap.size ≤ k) (q1 : Pv w' G t V') (q2 : Fr F w w') : St W0 S t V' v l w' ∧ ∀ s ∈ S, w'.heap[s]? = w.heap[s]? := by
  obtain ⟨f1, f2, f3, f4, f5, f6⟩ := h
  refine ⟨⟨fun k => G k ∧ k < w'.heap.size, q1.mono fun b hb hF => ⟨hF, hb⟩, fun k hk => ⟨?_, hk.2⟩, f3.of q2.size fun g hg => q2.block g (f4 g hg).1 (f4 g hg).2, fun g hg => ⟨Nat.lt_of_lt_of_le (f4 g hg).1 q2.size, fun hF => ?_⟩, fun s hs => ⟨Nat.lt_of_lt_of_le (f5 s hs).1 q2.size, fun hF => ?_⟩, ?_⟩, fun s hs => q2.block s (f5 s hs).1 (f5 s hs).2⟩
  · rcases hG k hk.1 with h | h
    · exact (f2 k h).1
    · exact Nat.le_trans f6.size h
  · rcases hG g hF.1 with h | h
    · exact (f4 g hg).2 h
    · have := (f4 g hg).1; omega
  · rcases hG s hF.1 with h | h
    · exact (f5 s hs).2 h
    · have := (f5 s hs).1; omega
  · exact f6.trans (q2.below (fun k hk hF => by have := (f2 k hF).1; omega) f6.size)
theorem St.put (h : St W0 S t V v l w) (hx : x.length = 32) (hu : In64 u) : Calls Try.prog 10 #[.pointer (some ⟨t, 0, none⟩), nmV x, iv a, iv u] w fun e w' =>
    e = .returned (iv (putV x a u V).2) ∧ St W0 S t (putV x a u V).1 v l w' ∧ ∀ s ∈ S, w'.heap[s]? = w.heap[s]? := by
  obtain ⟨F, h⟩ := h
  exact (put_any h.1 hx hu).mono fun _ _ q => ⟨q.1, St.turn h (fun _ hk => hk) q.2.1 q.2.2⟩
theorem St.expire (h : St W0 S t V v l w) : Calls Try.prog 15 #[.pointer (some ⟨t, 0, none⟩), iv now] w fun e w' =>
    e = .returned (.tuple #[]) ∧ St W0 S t (expireV now V) v l w' ∧ ∀ s ∈ S, w'.heap[s]? = w.heap[s]? := by
  obtain ⟨F, h⟩ := h
  exact (expire_any h.1).mono fun _ _ q => ⟨q.1, St.turn h (fun _ hk => .inl hk) q.2.1 q.2.2⟩
theorem St.drop (h : St W0 S t V v l w) {z : Value} {xs : List Int} (hx : x.length = 32) (hz : ZsP w z xs) (hr : ∀ a ∈ xs, In64 a) (hxl : xs.length ≤ 1000000) : Calls Try.prog 13 #[.pointer (some ⟨t, 0, none⟩), nmV x, z] w fun e w' =>
    e = .returned (.tuple #[]) ∧ St W0 S t (dropV x xs V) v l w' ∧ ∀ s ∈ S, w'.heap[s]? = w.heap[s]? := by
  obtain ⟨F, h⟩ := h
  exact (drop_any h.1 hx hz hr hxl).mono fun _ _ q => ⟨q.1, St.turn h (fun _ hk => .inl hk) q.2.1 q.2.2⟩
theorem St.get (h : St W0 S t V v l w) (hx : x.length = 32) : Calls Try.prog 17 #[.pointer (some ⟨t, 0, none⟩), nmV x, iv now] w fun e w' =>
    ∃ z, e = .returned z ∧ Owns w' w.heap.size Tin z ((getV x now V).map iv) ∧ St W0 S t V v l w' ∧ Below w.heap.size w w' := by
  have h0 := h
  obtain ⟨F, h⟩ := h
  exact (get_any h.1 hx).mono fun _ _ ⟨z, q1, q2, q3⟩ => ⟨z, q1, q2, h0.on q3, q3⟩
theorem St.names (h : St W0 S t V v l w) : Calls Try.prog 19 #[.pointer (some ⟨t, 0, none⟩)] w fun e w' =>
    ∃ z, e = .returned z ∧ Rw w' w.heap.size TI 32 z (V.map fun p => p.1.map byteV) ∧ St W0 S t V v l w' ∧ Below w.heap.size w w' := by
  have h0 := h
  obtain ⟨F, h⟩ := h
  exact (names_any h.1).mono fun _ _ ⟨z, q1, q2, q3⟩ => ⟨z, q1, q2, h0.on q3, q3⟩
theorem St.make (hb : Below W0.heap.size W0 w) : Calls Try.prog 8 #[] w fun e w' => e = .returned (.pointer (some ⟨w.heap.size + 1, 0, none⟩)) ∧ St W0 [] (w.heap.size + 1) [] (.slice none 0 0) [] w' :=
  (pnew_any w).mono fun _ _ ⟨q1, q2, q3, q4⟩ => ⟨q1, fun k => k = w.heap.size + 1 ∨ k = w.heap.size, ⟨w.heap.size, [], q2, rfl, fun k hk => by
    rcases hk with rfl | rfl | ⟨r, hr, _⟩
    · exact .inl rfl
    · exact .inr rfl
    · simp at hr⟩, fun k hk => by
      have := hb.size
      rcases hk with rfl | rfl <;> omega, Rd.nil _ 3, fun g hg => by simp [Value.ownBlock] at hg, by simp, belowThen hb q3⟩
end
/-- How long the list may be. -/
theorem putO_len (id : List UInt8) (n u : Int) (l : List OV) : (putO id n u l).1.length ≤ l.length + 1 := by
  unfold putO
  split
  · simp
  · split
    · simp
    · split <;> simp
theorem dropO_len (id : List UInt8) (n : Int) (l : List OV) : (dropO id n l).length ≤ l.length := List.length_filter_le _ _
theorem expO_len (now : Int) (l : List OV) : (expO now l).length ≤ l.length := List.length_filter_le _ _
end Go.Proofs.Ytilmidddhkofaaa

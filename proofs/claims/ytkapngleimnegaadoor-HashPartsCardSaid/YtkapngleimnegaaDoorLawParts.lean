/-
  HashParts: the walk.
-/
import Derived.Test.YtkapngleimnegaaDoorLawLong
namespace Go.Proofs.YtkapngleimnegaaDoor
open Go.RowKit Crv
attribute [local go_sem] ByteArray.mk_append_mk

abbrev strV (l : List UInt8) : Value := .string (str l)
/-- The first k parts, each cut to 90 bytes. -/
def cutTo (ls : List (List UInt8)) (k : Nat) : List (List UInt8) := (ls.take k).map (·.take 90)
theorem cutTo_succ (ls : List (List UInt8)) (k : Nat) (h : k < ls.length) : cutTo ls (k + 1) = cutTo ls k ++ [(ls.getD k []).take 90] := by
  unfold cutTo
  rw [List.take_add_one, List.getElem?_eq_getElem h, List.map_append, List.getD_eq_getElem?_getD, List.getElem?_eq_getElem h]
  rfl
theorem length_cutTo (ls : List (List UInt8)) (k : Nat) : (cutTo ls k).length ≤ k := by
  unfold cutTo
  rw [List.length_map]
  exact List.length_take_le _ _
theorem flatten_cutTo (ls : List (List UInt8)) (k : Nat) : (cutTo ls k).flatten.length ≤ 90 * k := by
  have h : ∀ L : List (List UInt8), (∀ l ∈ L, l.length ≤ 90) → L.flatten.length ≤ 90 * L.length := by
    intro L
    induction L with
    | nil => simp
    | cons a L ih =>
      intro hL
      have h1 := hL a (by simp)
      have h2 := ih (fun l hl => hL l (by simp [hl]))
      simp only [List.flatten_cons, List.length_append, List.length_cons]
      omega
  have h1 := h (cutTo ls k) (fun l hl => by
    unfold cutTo at hl
    obtain ⟨x, _, rfl⟩ := List.mem_map.1 hl
    exact List.length_take_le _ _)
  have h2 := length_cutTo ls k
  omega

/-- What the law's loop holds: the state s has all, short has the parts. -/
def Parts (w0 : World) (s : Nat) (all : List UInt8) (sh : List (List UInt8)) (v : Value) (w : World) : Prop :=
  Below w0.heap.size w0 w ∧ Consts w ∧ Holds w s all ∧ Owns w (s + 1) 9 v (sh.map strV) ∧ s + 1 ≤ w.heap.size
theorem Parts.below {w0 w w' : World} {s : Nat} {all : List UInt8} {sh : List (List UInt8)} {v : Value} (h : Parts w0 s all sh v w) (hb : Below w.heap.size w w') : Parts w0 s all sh v w' :=
  ⟨below_then h.1 hb, h.2.1.below hb, h.2.2.1.below hb, h.2.2.2.1.below hb, Nat.le_trans h.2.2.2.2 hb.size⟩
theorem Parts.alloc {w0 w : World} {s : Nat} {all : List UInt8} {sh : List (List UInt8)} {v : Value} (h : Parts w0 s all sh v w) (o : Obj) : Parts w0 s all sh v (w.alloc o) := h.below ((Below.refl _ _).alloc (Nat.le_refl _) o)
theorem Holds.at {w w' : World} {s B : Nat} {m : List UInt8} (h : Holds w s m) (hb : Below B w w') (hs : s < B) : Holds w' s m := by
  obtain ⟨tl, h1, h2, h3⟩ := h
  exact ⟨tl, h1, h2, h3.below hb hs⟩
theorem Parts.append {w0 w w2 : World} {s : Nat} {all : List UInt8} {sh : List (List UInt8)} {v v' : Value} {p : List UInt8} (h : Parts w0 s all sh v w) (hb : Below (s + 1) w w2) (ho : Owns w2 (s + 1) 9 v' (sh.map strV ++ [strV p])) (hz : w.heap.size ≤ w2.heap.size) (hw : w0.heap.size ≤ s) (h2 : 2 ≤ s) : Parts w0 s all (sh ++ [p]) v' w2 :=
  ⟨h.1.trans (hb.mono (by omega)), ⟨h.2.1.1.below hb (by omega), h.2.1.2.below hb (by omega)⟩, h.2.2.1.at hb (by omega), by rw [List.map_append]; exact ho, Nat.le_trans h.2.2.2.2 hz⟩
theorem Parts.write {w0 w w2 : World} {s : Nat} {all all' : List UInt8} {sh : List (List UInt8)} {v : Value} (h : Parts w0 s all sh v w) (hh : Holds w2 s all') (hg : w.grownBy w2 (some s)) (hw : w0.heap.size ≤ s) (h2 : 2 ≤ s) : Parts w0 s all' sh v w2 :=
  ⟨below_grown_new h.1 hg hw, h.2.1.grown hg h2, hh, h.2.2.2.1.of_below (fun g hg' => hg.block g (h.2.2.2.1.lt g hg').1 (fun e => by injection e with e; have := (h.2.2.2.1.lt g hg').2; omega)), Nat.le_trans h.2.2.2.2 hg.size⟩

theorem mem_below2 {w w' : World} {g : Nat} {t : TypeId} {cs : List Value} (hb : Below w.heap.size w w') (h : Mem w g t cs) : Mem w' g t cs := h.below hb h.lt
theorem ld_dig (p : Value) : Instr.loadAt 23 p = ldRow 23 p := rfl
theorem ld_dig_at (w : World) (b : Nat) (l : List UInt8) (h : Mem w b 23 (l.map byteV)) (hl : l.length = 32) : (ldRow 23 (.pointer (some ⟨b, 0, none⟩))).run Tryd.prog w = .ok (.agg (l.map byteV).toArray) w := by
  have := ldRow_at (P := Tryd.prog) Tryd.underlying23 (by kernel_rfl) w b 0 (h.hasRow 0 32 (by simp [hl]))
  rw [this, h.row 0 32 (l.map byteV) ⟨[], by simp⟩ (by simp [hl])]
theorem keeps_rr {W w3 : World} {B B' : Nat} {t t' : TypeId} {cs cs' : List Value} (h : W.rangeAt B 0 cs ∧ Mem W B t cs ∧ W.rangeAt B' 0 cs' ∧ Mem W B' t' cs') (hb : Below W.heap.size W w3) : w3.rangeAt B 0 cs ∧ Mem w3 B t cs ∧ w3.rangeAt B' 0 cs' ∧ Mem w3 B' t' cs' :=
  ⟨(mem_below h.2.1 hb).range 0 _ ⟨[], by simp⟩, mem_below h.2.1 hb, (mem_below h.2.2.2 hb).range 0 _ ⟨[], by simp⟩, mem_below h.2.2.2 hb⟩
theorem owns_strs {w : World} {base : Nat} {v : Value} {sh : List (List UInt8)} (h : Owns w base 9 v (sh.map strV)) : StrSlice w v sh := by
  obtain ⟨a, cap, hv, hc⟩ := h.reads
  rw [List.length_map] at hv hc
  refine ⟨a, cap, hv, fun i hi => ?_⟩
  obtain ⟨b, off, ha, hcell⟩ := hc i hi
  refine ⟨b, off, ha, ?_⟩
  rw [hcell, List.getElem?_map, List.getElem?_eq_getElem hi, List.getD_eq_getElem?_getD, List.getElem?_eq_getElem hi]
  rfl

attribute [local go_sem ↓] ld_dig
set_option maxHeartbeats 2000000 in
set_option maxRecDepth 100000 in
theorem hashParts_walk (v0 v1 : Value) (ls : List (List UInt8)) (bs : List Bool) (w : World) (hc : Consts w) (h0 : StrSlice w v0 ls) (h1 : Reads w v1 (bs.map Value.bool)) (hl0 : ls.length ≤ 9223372036854775807) :
    Calls Tryd.prog 4 #[v0, v1] w fun e w' => e = .returned (.bool true) ∧ Below w.heap.size w w' := by
  obtain ⟨a0, cap0, rfl, hcell0⟩ := h0
  obtain ⟨a1, cap1, rfl, hcell1⟩ := h1
  have HV0 := Lib.hid (show StrSlice w (.slice a0 ls.length cap0) ls from ⟨a0, cap0, rfl, hcell0⟩)
  have HV1 := Lib.hid (show Reads w (.slice a1 (bs.map Value.bool).length cap1) (bs.map Value.bool) from ⟨a1, cap1, rfl, hcell1⟩)
  rw [List.length_map] at HV1 ⊢
  have HC := Lib.hid hc
  have hN : 2 ≤ w.heap.size := hc.2.lt
  clear hc hcell0 hcell1
  obtain ⟨ti, hti, htz, hts, htb⟩ : ∃ i, Tryd.prog.info? 9 = some i ∧ i.zero = some (.string (str [])) ∧ i.size = 1 ∧ i.bytes = 16 := info_of (by kernel_rfl)
  have HTI := Lib.hid hti
  clear hti
  go_enter Tryd.func4, Tryd.ntmps4
  go_wp2_with fail
  refine (awake1_any _ HC.out).mono ?_
  rintro e w0 ⟨rfl, hb0⟩
  have HC0 := Lib.hid (HC.out.below hb0)
  have hN0 : 2 ≤ w0.heap.size := Nat.le_trans hN hb0.size
  go_wp2_with fail
  refine (new_any _ HC0.out).mono ?_
  rintro e w1 ⟨rfl, hh1, hb1, hz1⟩
  obtain ⟨s, hs⟩ : ∃ s, s = w0.heap.size := ⟨_, rfl⟩
  have hsw : w.heap.size ≤ s := by rw [hs]; exact hb0.size
  rw [← hs] at hh1 hz1
  rw [← hs]
  have HP := Lib.hid (show Parts w s (cutTo ls 0).flatten (cutTo ls 0) (.slice (some ⟨s + 1, 0, none⟩) 0 0) (w1.alloc (.cells #[] 9)) from
    ⟨(below_then hb0 hb1).alloc (below_then hb0 hb1).size _, (HC0.out.below hb1).alloc _, hh1.alloc _, Owns.of_mem (Mem.newAt w1 9 [] hz1.symm) (by omega) 0 0 (Nat.le_refl _) rfl (by simp [maxLen]) rfl, by simp; omega⟩)
  have hs2 : 2 ≤ s := by omega
  clear hh1 hb1 HC0 hs
  go_wp2_with fail
  go_loopw [6, 7, 8] (fun al sh i wr => ∃ k : Nat, k ≤ ls.length ∧ k ≤ 10 ∧ i = .int .i64 k ∧ al = .string (str (cutTo ls k).flatten) ∧ Hid (Parts w s (cutTo ls k).flatten (cutTo ls k) sh wr)) (fun _ _ i _ => 10 - (intOf i).toNat)
  case atStart => exact ⟨0, by omega, by omega, rfl, rfl, HP⟩
  case round =>
    obtain ⟨k, hk, hk10, rfl, rfl, HR⟩ := hrel
    clear HP hz1
    by_cases hgo : k < ls.length ∧ k < 10
    · obtain ⟨hlt, hlt10⟩ := hgo
      obtain ⟨a', cap', he, hcell⟩ := HV0.out.below (w' := wr) (HR.out.1)
      obtain ⟨b', off, ha, hc⟩ := hcell k hlt
      injection he with he1 he2 he3
      subst he1
      subst ha
      obtain ⟨x, hx⟩ : ∃ x, x = ls.getD k [] := ⟨_, rfl⟩
      rw [← hx] at hc
      have HSUCC := Lib.hid (hx ▸ cutTo_succ ls k hlt)
      clear hx he2 he3 hcell
      have hfl := flatten_cutTo ls k
      have hcl := length_cutTo ls k
      obtain ⟨sh, hsh⟩ : ∃ sh, sh = cutTo ls k := ⟨_, rfl⟩
      rw [← hsh] at HR HSUCC hfl hcl
      rw [← hsh]
      clear hsh
      obtain ⟨fl, hfe⟩ : ∃ fl, fl = sh.flatten := ⟨_, rfl⟩
      rw [← hfe] at HR hfl
      rw [← hfe]
      have HFE := Lib.hid hfe
      clear hfe
      have hfl9 : fl.length ≤ 900 := by omega
      have hd : decide ((k : Int) < (ls.length : Int)) = true := by simp; omega
      have hd10 : decide ((k : Int) < 10) = true := by simp; omega
      have hkl : (k : Int) < (ls.length : Int) := by omega
      go_wp2_with fail
      refine (cut_int x _ (by decide) _).mono ?_
      rintro e w' ⟨rfl, rfl⟩
      obtain ⟨p, hp⟩ : ∃ p, p = x.take (90 : Int).toNat := ⟨_, rfl⟩
      have lp : p.length ≤ 90 := by rw [hp]; exact List.length_take_le _ _
      rw [← hp]
      rw [show x.take 90 = p from hp.symm] at HSUCC
      clear hp hc
      go_wp2_with (first
        | (at_builtin; refine wp_append_news (HR.out.alloc _).2.2.2.1 (s + 1) (Below.refl _ _) (Nat.le_refl _) [strV p] (.tmp 32) (.tmp 34) 30 ti (.string (str [])) rfl rfl Tryd.underlying30 HTI.out htz hts (by omega) rfl rfl rfl (fun j u hu => cell_news_one _ _ _ j u hu) (by intro u hu; simp at hu; subst hu; rfl) (by simp; omega) (HR.out.alloc _).2.2.2.2 ?_
           intro v' w2 hown' hb2 hz2 hg2 _)
        | fail)
      have P2 := Lib.hid ((HR.out.alloc _).append hb2 hown' hz2 hsw hs2)
      clear hown' hb2 hz2 hg2 HR
      refine (write_any _ s fl _ [p] (P2.out.alloc _).2.1 hs2 (P2.out.alloc _).2.2.1 (StrSlice.new [p] 1) (by simp) (by simp only [List.flatten_cons, List.flatten_nil, List.append_nil]; omega)).mono ?_
      rintro e w3 ⟨rfl, hh3, hg3⟩
      have P3 := Lib.hid ((P2.out.alloc _).write hh3 hg3 hsw hs2)
      clear hh3 hg3 P2
      rw [show fl ++ [p].flatten = fl ++ p by simp, ← HSUCC.out] at P3
      have HNX : Hid (fl ++ p = (cutTo ls (k + 1)).flatten) := Lib.hid (by rw [HSUCC.out, HFE.out]; simp)
      obtain ⟨al, hal⟩ : ∃ al, al = fl ++ p := ⟨_, rfl⟩
      have hall : al.length ≤ 990 := by rw [hal, List.length_append]; omega
      rw [← hal] at HNX P3
      rw [← hal]
      clear hal
      by_cases hask : k < bs.length
      · obtain ⟨a2, cap2, he, hcell⟩ := HV1.out.below (w' := w3) (P3.out.1)
        obtain ⟨b2, off2, ha, hc⟩ := hcell k (by rw [List.length_map]; exact hask)
        injection he with he1 he2 he3
        subst he1
        subst ha
        obtain ⟨bk, hbk⟩ : ∃ bk, bk = bs[k] := ⟨_, rfl⟩
        rw [List.getElem?_map, List.getElem?_eq_getElem hask, ← hbk] at hc
        have hc' : w3.cell? ⟨b2, off2 + k, none⟩ = some (.bool bk) := hc
        clear he2 he3 hcell hbk hc
        have hda : decide ((k : Int) < (bs.length : Int)) = true := by simp; omega
        have hka : (k : Int) < (bs.length : Int) := by omega
        cases bk
        · go_wp2
          go_roundw
          case rel => exact ⟨k + 1, by omega, by omega, by go_num, by rw [← HNX.out], HNX.out ▸ P3⟩
          case measure => simp [intOf]; omega
        · go_wp2_with fail
          refine (sum_any _ s al P3.out.2.1 P3.out.2.2.1 (by omega)).mono ?_
          rintro e w4 ⟨rfl, hb4⟩
          have P4 := Lib.hid (P3.out.below hb4)
          have HREF := Lib.hid (fun W => refOf_any al W (by omega))
          obtain ⟨d, hd'⟩ : ∃ d, d = sha al := ⟨_, rfl⟩
          rw [← hd'] at HREF
          rw [← hd']
          have hdl : d.length = 32 := by rw [hd']; rfl
          clear hd' hb4 P3 hc'
          have sz32 : (Tryd.prog.info? 23).map (·.size) = some (d.map byteV).length := by rw [List.length_map, hdl]; kernel_rfl
          have hz32 : (List.replicate 32 (byteV 0)).length = (d.map byteV).length := by rw [List.length_map, hdl]; rfl
          have HONE := Lib.hid (one_bytes d)
          have HDL := Lib.hid hdl
          clear hdl
          go_wp2_with (first
            | (refine wp_store_gen (B := w4.heap.size) (w0 := w4) ((Below.refl _ _).alloc (Nat.le_refl _) _) (Nat.le_refl _) (Mem.newAt w4 23 (List.replicate 32 (byteV 0)) rfl) (d.map byteV) 23 (.tmp 10) (.tmp 55) rfl rfl rfl rfl sz32 hz32 HONE.out ?_
               intro W5 hm5 hb5 hz5 hk5)
            | fail)
          have P5 := Lib.hid (P4.out.below hb5)
          clear sz32 hz32 hz5 hk5 hb5 P4
          have hcv3 : ∀ W', Mem W' w4.heap.size 23 (d.map byteV) → (convert 26 9 (.slice (some ⟨w4.heap.size, 0, none⟩) 32 32)).run Tryd.prog W' = .ok (.string (str d)) W' := fun W' h => bytes_string h Tryd.underlying26 Tryd.underlying5 Tryd.underlying9 HDL.out
          go_region_held3 (fun w' => Mem w' w4.heap.size 23 (d.map byteV))
            (first
              | (exact hm5)
              | (exact mem_below (by assumption) hbk))
            (first
              | (go_at_call 15; refine (HREF.out _).mono ?_; rintro e w6 ⟨rfl, hbk⟩))
          rename_i K hK hHe
          refine hK _ _ ?_
          have P6 := Lib.hid (P5.out.below (below_undrew hbk))
          clear hcv3 hHe hbk
          go_wp2
          go_roundw
          case rel => exact ⟨k + 1, by omega, by omega, by go_num, by rw [← HNX.out], HNX.out ▸ P6⟩
          case measure => simp [intOf]; omega
      · have hda : decide ((k : Int) < (bs.length : Int)) = false := by simp; omega
        go_wp2
        go_roundw
        case rel => exact ⟨k + 1, by omega, by omega, by go_num, by rw [← HNX.out], HNX.out ▸ P3⟩
        case measure => simp [intOf]; omega
    · have hcases : (k = 10 ∧ decide ((10 : Int) < (ls.length : Int)) = true) ∨ k = ls.length := by
        by_cases h : k < ls.length
        · left; simp; omega
        · right; omega
      clear hgo
      have hfl := flatten_cutTo ls k
      have hcl := length_cutTo ls k
      obtain ⟨sh, hsh⟩ : ∃ sh, sh = cutTo ls k := ⟨_, rfl⟩
      rw [← hsh] at HR hfl hcl
      rw [← hsh]
      clear hsh
      obtain ⟨al, hfe⟩ : ∃ al, al = sh.flatten := ⟨_, rfl⟩
      rw [← hfe] at HR hfl
      rw [← hfe]
      have HFE := Lib.hid hfe
      clear hfe
      have hfl9 : al.length ≤ 900 := by omega
      have HREF := Lib.hid (fun W => refOf_any al W (by omega))
      have HSUM := Lib.hid (fun W h1 h2 => sum_any W s al h1 h2 (by omega))
      have HOF := Lib.hid (fun W v h1 h2 => of_any W v sh h1 h2 (by omega) (by rw [← HFE.out]; omega))
      rw [← HFE.out] at HOF
      obtain ⟨d, hd'⟩ : ∃ d, d = sha al := ⟨_, rfl⟩
      rw [← hd'] at HREF HSUM HOF
      have hdl : d.length = 32 := by rw [hd']; rfl
      clear hd'
      have sz32 : (Tryd.prog.info? 23).map (·.size) = some (d.map byteV).length := by rw [List.length_map, hdl]; kernel_rfl
      have hz32 : (List.replicate 32 (byteV 0)).length = (d.map byteV).length := by rw [List.length_map, hdl]; rfl
      have HONE := Lib.hid (one_bytes d)
      have HDL := Lib.hid hdl
      have q1 : ∀ W, (binOp .eql 23 (.agg (d.map byteV).toArray) (.agg (d.map byteV).toArray)).run Tryd.prog W = .ok (.bool true) W := fun W => by
        rw [run_eql_bytes 23 5 32 Tryd.underlying23 Tryd.underlying5 (by kernel_rfl) _ _ hdl hdl W]; simp
      have hln : (d.map byteV).length = 32 := by rw [List.length_map, hdl]
      have hu := Tryd.underlying23
      clear hdl
      obtain ⟨We, hWe⟩ : ∃ We : World, We = wr := ⟨_, rfl⟩
      subst hWe
      rcases hcases with ⟨rfl, hd⟩ | rfl
      all_goals
        go_wp2_with fail
        refine (HSUM.out _ HR.out.2.1 HR.out.2.2.1).mono ?_
        rintro e w4 ⟨rfl, hb4⟩
        have P4 := Lib.hid (HR.out.below hb4)
        clear hb4
        go_wp2_with fail
        refine (HOF.out _ _ P4.out.2.1 (owns_strs P4.out.2.2.2.1)).mono ?_
        rintro e w5 ⟨rfl, hb5⟩
        have P5 := Lib.hid (P4.out.below hb5)
        clear hb5 P4
        go_wp2_with (first
          | (refine wp_store_gen (B := w5.heap.size) (w0 := w5) (((Below.refl _ _).alloc (Nat.le_refl _) _).alloc (by simp) _) (Nat.le_refl _) ((Mem.newAt w5 23 (List.replicate 32 (byteV 0)) rfl).alloc _) (d.map byteV) 23 (.tmp 11) (.tmp 62) rfl rfl rfl rfl sz32 hz32 HONE.out ?_
             intro W6 hm6 hb6 hz6 hk6
             have hm6b : Mem W6 (w5.heap.size + 1) 23 (List.replicate 32 (byteV 0)) := (hk6 _ (by omega)).trans (Mem.newAt (w5.alloc _) 23 _ (by simp))
             clear hz6 hk6)
          | (refine wp_store_gen (B := w5.heap.size) (w0 := w5) hb6 (by omega) hm6b (d.map byteV) 23 (.tmp 12) (.tmp 64) rfl rfl rfl rfl sz32 hz32 HONE.out ?_
             intro W7 hm7 hb7 hz7 hk7
             have hm7a : Mem W7 w5.heap.size 23 (d.map byteV) := (hk7 _ (by omega)).trans hm6
             clear hz7 hk7)
          | fail)
        have P7 := Lib.hid (P5.out.below hb7)
        have hcv3 : ∀ W', Mem W' w5.heap.size 23 (d.map byteV) → (convert 26 9 (.slice (some ⟨w5.heap.size, 0, none⟩) 32 32)).run Tryd.prog W' = .ok (.string (str d)) W' := fun W' h => bytes_string h Tryd.underlying26 Tryd.underlying5 Tryd.underlying9 HDL.out
        have r0 := hcv3 W7.drew hm7a
        have HCV := Lib.hid hcv3
        have HMA := Lib.hid hm7a
        have HMB := Lib.hid hm7
        clear hm6 hm6b hb6 hb7 hm7 hm7a P5 hz32 sz32 hcv3 hu
        go_wp2_with fail
        go_region_with (first
          | (go_at_call 15; refine (HREF.out _).mono ?_; rintro e w8 ⟨rfl, hbk⟩; have r1 := HCV.out w8 (mem_below2 hbk HMA.out); have l1 := ld_dig_at w8 w5.heap.size d (mem_below2 hbk HMA.out) HDL.out; have l2 := ld_dig_at w8 (w5.heap.size + 1) d (mem_below2 hbk HMB.out) HDL.out)
          | fail)
        all_goals
          rename_i K hK
          refine hK _ _ ?_
          go_wp2
          go_ret
          exact ⟨rfl, below_then P7.out.1 (below_undrew hbk)⟩
end Go.Proofs.YtkapngleimnegaaDoor

/-
  Package gear and its reference: a byte's number, tables, rolls.
-/
import Derived.Test.YtbjeiiofanpkdaaDoorGea1
import Derived.Test.YtbjeiiofanpkdaaDoorHash
import Derived.Test.YtbjeiiofanpkdaaDoorRef4
namespace Go.Proofs.YtbjeiiofanpkdaaDoor
open Go.RowKit Crv
attribute [local go_sem] ByteArray.mk_append_mk

theorem one_string (c : UInt8) (w : World) : (convert 26 9 (.slice (some ⟨w.heap.size, 0, none⟩) 1 1)).run Tryd.prog (w.alloc (.cells #[byteV c] 5)) = .ok (.string (str [c])) (w.alloc (.cells #[byteV c] 5)) :=
  Owns.string (P := Tryd.prog) (Owns.of_mem (Mem.newAt w 5 [byteV c] rfl) (Nat.zero_le _) 1 1 (Nat.le_refl _) rfl (by simp [maxLen]) (xs := [c].map byteV) rfl) Tryd.underlying26 Tryd.underlying5 Tryd.underlying9

set_option maxHeartbeats 400000 in
set_option maxRecDepth 100000 in
theorem refOne_any (s : List UInt8) (c : UInt8) (w : World) (hs : s.length ≤ 1000000) :
    Calls Tryd.prog 61 #[.string (str s), byteV c] w fun e w' => e = .returned (nV (gearNum s c.toNat)) ∧ Below w.heap.size w w' := by
  have HO := Lib.hid (fun W => one_string c W)
  have HG := Lib.hid (show gearNum s c.toNat = numB ((sha (gearMark ++ (s ++ [c]))).take 8) by unfold gearNum; rw [UInt8.ofNat_toNat])
  have hm : (gearMark ++ (s ++ [c])).length < 1099511627776 := by simp [gearMark]; omega
  have HR := Lib.hid (fun W => refOf_any (gearMark ++ (s ++ [c])) W hm)
  have HL := Lib.hid (show (sha (gearMark ++ (s ++ [c]))).length = 32 from rfl)
  obtain ⟨d, hd⟩ : ∃ d, d = sha (gearMark ++ (s ++ [c])) := ⟨_, rfl⟩
  rw [← hd] at HG HL
  simp only [← hd] at HR
  rw [show gearMark ++ (s ++ [c]) = 103 :: 101 :: 97 :: 114 :: (s ++ [c]) from rfl] at HR
  clear hd hm
  go_enter Tryd.func61, Tryd.ntmps61
  have ho := HO.out w
  go_wp2_with fail
  refine (HR.out _).mono ?_
  rintro e w1 ⟨rfl, hb⟩
  have HB := Lib.hid (belowThen (belowSelf w _) hb)
  have hsl : ∀ W, (Instr.slice 9 (.string (str d)) none (some (.int .i64 8)) none).run Tryd.prog W = .ok (.string (str (d.take 8))) W := fun W => slice_str_to (P := Tryd.prog) Tryd.underlying9 d .i64 8 (by rw [HL.out]; omega) W
  clear hb ho
  go_wp2_with fail
  refine (refNumber_any (d.take 8) _ (by rw [List.length_take]; omega)).mono ?_
  rintro e w2 ⟨rfl, rfl⟩
  go_wp2
  go_ret
  exact ⟨by rw [HG.out]; rfl, HB.out⟩

theorem StrSlice.mk3 {w : World} {t : TypeId} (ls : List (List UInt8)) (cap : Nat) : StrSlice (w.alloc (.cells (ls.map tx).toArray t)) (.slice (some ⟨w.heap.size, 0, none⟩) ls.length cap) ls := Txs.new ls cap
/-- What New has made so far. -/
def NewTb (w0 : World) (s : List UInt8) (k : Nat) (w : World) : Prop := Mem w w0.heap.size 89 (((gearTab s).take k ++ List.replicate (256 - k) 0).map nV) ∧ Below w0.heap.size w0 w ∧ Consts w
theorem tab_set (s : List UInt8) (k : Nat) (hk : k < 256) : ((gearTab s).take k ++ List.replicate (256 - k) 0).set k (gearNum s k) = (gearTab s).take (k + 1) ++ List.replicate (256 - (k + 1)) 0 := by
  have hl := length_gearTab s
  have hlt : k < (gearTab s).length := by omega
  have h1 : ((gearTab s).take k).length = k := by rw [List.length_take]; omega
  rw [List.set_append_right _ _ (by omega), h1, Nat.sub_self, show 256 - k = (256 - (k + 1)) + 1 by omega, List.replicate_succ, List.set_cons_zero, List.take_succ_eq_append_getElem hlt, List.append_assoc]
  have hg := get_gearTab s k hk
  rw [List.getElem?_eq_getElem hlt] at hg
  injection hg with hg
  rw [hg]
  rfl
theorem NewTb.step {w0 w : World} {s : List UInt8} {k : Nat} (h : NewTb w0 s k w) (hk : k < 256) (h2 : 2 ≤ w0.heap.size) : NewTb w0 s (k + 1) (w.setCell ⟨w0.heap.size, k, none⟩ (nV (gearNum s k))) := by
  have hg := grown_cell (grownRefl w (some w0.heap.size)) k (nV (gearNum s k))
  refine ⟨?_, belowNew h.2.1 hg (Nat.le_refl _), h.2.2.grown hg h2⟩
  have := h.1.set k (nV (gearNum s k))
  rw [← List.map_set, tab_set s k hk] at this
  exact this
theorem NewTb.below {w0 w w' : World} {s : List UInt8} {k : Nat} (h : NewTb w0 s k w) (hb : Below w.heap.size w w') : NewTb w0 s k w' := ⟨h.1.below hb h.1.lt, belowThen h.2.1 hb, h.2.2.below hb⟩
theorem NewTb.start {w : World} (s : List UInt8) (hc : Consts w) : NewTb w s 0 (w.alloc (.cells Tryd.zeroCells89 89)) := by
  refine ⟨?_, belowSelf w _, hc.below (belowSelf w _)⟩
  have e : Tryd.zeroCells89 = (((gearTab s).take 0 ++ List.replicate (256 - 0) 0).map nV).toArray := by
    rw [List.take_zero, List.nil_append]
    kernel_rfl
  rw [e]
  exact Mem.new w _ _
theorem NewTb.done {w0 w : World} {s : List UInt8} (h : NewTb w0 s 256 w) : Tb w w0.heap.size (gearTab s) := by
  refine ⟨?_, length_gearTab s, gearTab_lt s⟩
  have := h.1
  rw [Nat.sub_self, List.replicate_zero, List.append_nil, List.take_of_length_le (by rw [length_gearTab]; omega)] at this
  exact this
set_option maxHeartbeats 400000 in
set_option maxRecDepth 100000 in
theorem gearNew_any (s : List UInt8) (w : World) (hc : Consts w) (hs : s.length ≤ 1000000) :
    Calls Tryd.prog 26 #[.string (str s)] w fun e w' => e = .returned (.pointer (some ⟨w.heap.size, 0, none⟩)) ∧ Tb w' w.heap.size (gearTab s) ∧ Below w.heap.size w w' := by
  have h2 : 2 ≤ w.heap.size := hc.2.lt
  have HST := Lib.hid (NewTb.start s hc)
  clear hc
  go_enter Tryd.func26, Tryd.ntmps26
  go_wp2_with fail
  go_loopw [5] (fun i wr => ∃ k : Nat, k ≤ 256 ∧ i = .int .i64 k ∧ Hid (NewTb w s k wr)) (fun i _ => 256 - (intOf i).toNat)
  case atStart => exact ⟨0, by omega, rfl, HST⟩
  case round =>
    obtain ⟨k, hk, rfl, HR⟩ := hrel
    by_cases hlt : k < 256
    · have hd : decide ((k : Int) < 256) = true := by simp; omega
      have hw8 : IntKind.u8.wrap (k : Int) = ((UInt8.ofNat k).toNat : Int) := by
        rw [IntKind.wrap_u8', UInt8.toNat_ofNat']
        omega
      have ho := one_string (UInt8.ofNat k) wr
      obtain ⟨c, hc⟩ : ∃ c, c = UInt8.ofNat k := ⟨_, rfl⟩
      have HG := Lib.hid (show gearNum s k = numB ((sha (gearMark ++ (s ++ [c]))).take 8) by rw [hc]; rfl)
      rw [← hc] at hw8 ho
      have HB1 := Lib.hid (belowThen (belowSelf wr (.cells #[byteV c] 5)) (belowSelf (wr.alloc (.cells #[byteV c] 5)) (.cells ([gearMark, s, [c]].map tx).toArray 9)))
      have HO := Lib.hid (of_any _ _ [gearMark, s, [c]] (HR.out.2.2.below HB1.out) (StrSlice.mk3 (w := wr.alloc (.cells #[byteV c] 5)) (t := 9) [gearMark, s, [c]] 3) (by simp) (by simp [gearMark]; omega))
      rw [show [gearMark, s, [c]].flatten = gearMark ++ (s ++ [c]) by simp] at HO
      have HL := Lib.hid (show (sha (gearMark ++ (s ++ [c]))).length = 32 from rfl)
      obtain ⟨d, hdd⟩ : ∃ d, d = sha (gearMark ++ (s ++ [c])) := ⟨_, rfl⟩
      rw [← hdd] at HG HL HO
      have HR1 := Lib.hid (HR.out.below HB1.out)
      rw [show (wr.alloc (.cells #[byteV c] 5)).heap.size = wr.heap.size + 1 by simp] at HO
      clear hc hdd HB1
      go_wp2_with fail
      refine HO.out.mono ?_
      rintro e w1 ⟨rfl, hb⟩
      have HR2 := Lib.hid (HR1.out.below hb)
      clear hb HO HR1 ho
      go_wp2_with fail
      refine (number_any d _ HL.out).mono ?_
      rintro e w2 ⟨rfl, hb⟩
      rw [← HG.out]
      have HR3 := Lib.hid (HR2.out.below hb)
      have HR4 := Lib.hid (HR3.out.step hlt h2)
      have hcell : ∃ u, w2.cell? ⟨w.heap.size, k, none⟩ = some u := by
        rw [HR3.out.1.cell]
        exact ⟨_, List.getElem?_eq_getElem (by rw [List.length_map, List.length_append, List.length_take, length_gearTab, List.length_replicate]; omega)⟩
      obtain ⟨u, hu⟩ := hcell
      have hfr := HR3.out.1.frozen k
      clear hb HR2
      go_wp2
      refine ⟨⟨k + 1, by omega, by go_num, HR4⟩, ?_⟩
      simp [intOf]; omega
    · have e : k = 256 := by omega
      subst e
      have hd : decide ((256 : Int) < 256) = false := by simp
      go_wp2
      go_ret
      exact ⟨rfl, HR.out.done, HR.out.2.1⟩
end Go.Proofs.YtbjeiiofanpkdaaDoor

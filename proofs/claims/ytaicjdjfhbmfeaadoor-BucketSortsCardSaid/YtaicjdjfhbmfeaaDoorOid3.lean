/-
  Package oid: Compare (by bytes.Compare, by internal/bytealg.Compare, which the model answers in place).
-/
import Derived.Test.YtaicjdjfhbmfeaaDoorOid2
import Derived.Laws.Externs
namespace Go.Proofs.YtaicjdjfhbmfeaaDoor
open Go.RowKit Crv

theorem run_loadBytes {P : Program} {w : World} {g : Nat} {t : TypeId} {cs : List Value} (hm : Mem w g t cs) : ∀ (l : List UInt8) (off : Nat) (acc : List UInt8), l.map byteV <+: cs.drop off →
    (Extern.Bytes.loadBytes ⟨g, off, none⟩ l.length (str acc)).run P w = .ok (str (acc ++ l)) w
  | [], off, acc, _ => by simp [Extern.Bytes.loadBytes]
  | b :: l, off, acc, h => by
    have hr := hm.range off _ h
    have h0 := hr 0 (byteV b) rfl
    have hl : (load ⟨g, off, none⟩).run P w = .ok (byteV b) w := by
      have h1 : w.cell? ⟨g, off, none⟩ = some (byteV b) := h0
      simp [go_sem, h1]
    have hn : l.map byteV <+: cs.drop (off + 1) := by
      obtain ⟨r, hr'⟩ := h
      refine ⟨r, ?_⟩
      rw [← List.drop_drop, ← hr']
      rfl
    have ih := run_loadBytes (P := P) hm l (off + 1) (acc ++ [b]) hn
    have hp : (str acc).push ((b.toNat : Int).toNat.toUInt8) = str (acc ++ [b]) := by
      simp [str, ByteArray.push]
    simp only [List.length_cons, Extern.Bytes.loadBytes, Sem.run_bind, hl, Result.andThen_ok]
    rw [hp, Go.WideShapes.add_plain, ih, List.append_assoc]
    rfl

/-- What the model's Compare says of two names. -/
def cmpOf (x y : List UInt8) : Int := Extern.BytealgCompare.cmp (str x) (str y)
theorem run_compare {W : World} {g g' : Nat} {t t' : TypeId} {x y : List UInt8} (hx : Mem W g t (x.map byteV)) (hy : Mem W g' t' (y.map byteV)) (lx : x.length = 32) (ly : y.length = 32) :
    (callFunc 107 #[.slice (some ⟨g, 0, none⟩) 32 32, .slice (some ⟨g', 0, none⟩) 32 32]).run Tryd.prog W = .ok (.value (.int .i64 (cmpOf x y))) W := by
  rw [run_callFunc_extern (e := Extern.BytealgCompare.compare) Tryd.func107 (by kernel_rfl) (by kernel_rfl) (by kernel_rfl) (by kernel_rfl)]
  have h1 := run_loadBytes (P := Tryd.prog) hx x 0 [] ⟨[], by simp⟩
  have h2 := run_loadBytes (P := Tryd.prog) hy y 0 [] ⟨[], by simp⟩
  rw [lx] at h1
  rw [ly] at h2
  simp only [List.nil_append] at h1 h2
  have e0 : (ByteArray.empty) = str [] := rfl
  have h3 : (Extern.BytealgCompare.compare #[.slice (some ⟨g, 0, none⟩) 32 32, .slice (some ⟨g', 0, none⟩) 32 32]).run Tryd.prog W = .ok (.int .i64 (cmpOf x y)) W := by
    change Sem.run Tryd.prog (do
      let a ← Extern.Bytes.bytesOf (.slice (some ⟨g, 0, none⟩) 32 32)
      let b ← Extern.Bytes.bytesOf (.slice (some ⟨g', 0, none⟩) 32 32)
      pure (goInt (Extern.BytealgCompare.cmp a b))) W = _
    simp only [Extern.Bytes.bytesOf, Sem.run_bind, e0, h1, h2, Result.andThen_ok, Sem.run_pure]
    rfl
  rw [h3]
  rfl

set_option maxRecDepth 100000 in
theorem bytesCompare_any {W : World} {g g' : Nat} {t t' : TypeId} {x y : List UInt8} (hx : Mem W g t (x.map byteV)) (hy : Mem W g' t' (y.map byteV)) (lx : x.length = 32) (ly : y.length = 32) :
    Calls Tryd.prog 76 #[.slice (some ⟨g, 0, none⟩) 32 32, .slice (some ⟨g', 0, none⟩) 32 32] W fun e w' => e = .returned (.int .i64 (cmpOf x y)) ∧ W = w' := by
  have hcf := run_compare hx hy lx ly
  have HX := Lib.hid hx
  have HY := Lib.hid hy
  have LX := Lib.hid lx
  have LY := Lib.hid ly
  clear hx hy lx ly
  go_enter Tryd.func76, Tryd.ntmps76
  go_wp2
  go_ret
  exact ⟨rfl, rfl⟩

set_option maxRecDepth 100000 in
theorem compare_any (x y : List UInt8) (w : World) (hx : x.length = 32) (hy : y.length = 32) :
    Calls Tryd.prog 52 #[.agg (x.map byteV).toArray, .agg (y.map byteV).toArray] w fun e w' => e = .returned (.int .i64 (cmpOf x y)) ∧ Below w.heap.size w w' := by
  have HX := Lib.hid hx
  have HY := Lib.hid hy
  clear hx hy
  have hcm := fun W hW hW' => bytesCompare_any (W := W) (g := w.heap.size) (g' := w.heap.size + 1) (t := 36) (t' := 36) (x := x) (y := y) hW hW' HX.out HY.out
  have HCM := Lib.hid hcm
  have H0 := Lib.hid ((Mem.newAt w 36 (x.map byteV) rfl).alloc (.cells (y.map byteV).toArray 36))
  have H1 := Lib.hid (Mem.newAt (w.alloc (.cells (x.map byteV).toArray 36)) 36 (y.map byteV) (show w.heap.size + 1 = _ by simp))
  clear hcm
  go_enter Tryd.func52, Tryd.ntmps52
  go_wp2_with fail
  go_region_held3 (fun w' => Mem w' w.heap.size 36 (x.map byteV) ∧ Mem w' (w.heap.size + 1) 36 (y.map byteV))
    (first
      | (exact ⟨H0.out, H1.out⟩)
      | (assumption))
    (first
      | (go_at_call 76; refine (HCM.out _ ?_ ?_).mono ?_; (exact H0.out); (exact H1.out); rintro e w' ⟨rfl, rfl⟩))
  rename_i K hK hHe
  refine hK _ _ ?_
  go_wp2
  go_ret
  exact ⟨rfl, below_drewN (((Below.refl _ _).alloc (Nat.le_refl _) _).alloc (by simp) _) 1⟩
end Go.Proofs.YtaicjdjfhbmfeaaDoor

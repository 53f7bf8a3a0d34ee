/-
  Package sector: Sync, Clear, Arm; loosen.
-/
import Derived.Test.YtjmmbafpiahhiaaSec2
namespace Go.Proofs.Ytjmmbafpiahhiaa
open Go.RowKit Go.Maps Crv

section
variable {w w' : World} {fb cb mb db sz : Nat} {a : Bool} {k : Int} {bs : List UInt8} {n : Nat} {D : DataW Unit}
theorem Dk.map {n' : Nat} {D' : DataW Unit} (h : Dk w fb cb mb db sz a k bs n D) (hg : w.grownBy w' (some mb)) (hm : w'.ownsMap Try.prog TN secElem mb n' D') : Dk w' fb cb mb db sz a k bs n' D' :=
  ⟨h.d.grown hg (fun e => h.dm (by injection e)), h.f.grown hg (fun e => h.fm (by injection e)), h.c.grown hg (fun e => h.cm (by injection e)), hm, h.len, h.most, h.kin⟩
theorem Dk.bytes {bs' : List UInt8} (h : Dk w fb cb mb db sz a k bs n D) (hg : w.grownBy w' (some cb)) (hm : Mem w' cb TB (bs'.map byteV)) (hl : bs'.length = bs.length) : Dk w' fb cb mb db sz a k bs' n D :=
  ⟨h.d.grown hg (fun e => h.dc (by injection e)), h.f.grown hg (fun e => h.fc (by injection e)), hm, h.m.kept hg (fun e => h.cm (by injection e with e; exact e.symm)), hl.trans h.len, h.most, h.kin⟩

set_option maxRecDepth 100000 in
theorem sync_io (h : Dk w fb cb mb db sz a k bs n D) (ho : okS a k = false) :
    Calls Try.prog 24 #[ptr db] w fun e w' => e = .returned (.int .i64 13) ∧ Dk w' fb cb mb db sz a (leftS a k) bs n D ∧ Only [fb, cb, mb] w w' ∧ w'.heap.size = w.heap.size := by
  have HS := Lib.hid (spend_any h)
  have c0 : w.cell? ⟨db, 0, none⟩ = some (ptr fb) := h.d.cell 0
  rw [ho] at HS
  clear h ho
  go_enter Try.func24, Try.ntmps24
  go_wp2_with fail
  refine HS.out.mono ?_
  rintro e w1 ⟨rfl, hd, hon, hsz⟩
  go_wp2
  go_ret
  exact ⟨rfl, hd, hon, hsz⟩
set_option maxRecDepth 100000 in
theorem sync_ok (h : Dk w fb cb mb db sz a k bs n D) (ho : okS a k = true) :
    Calls Try.prog 24 #[ptr db] w fun e w' => e = .returned (.int .i64 0) ∧ Dk w' fb cb mb db sz a (leftS a k) bs 0 (.map []) ∧ Only [fb, cb, mb] w w' ∧ w'.heap.size = w.heap.size := by
  have HS := Lib.hid (spend_any h)
  have c0 : w.cell? ⟨db, 0, none⟩ = some (ptr fb) := h.d.cell 0
  rw [ho] at HS
  clear h ho
  go_enter Try.func24, Try.ntmps24
  go_wp2_with fail
  refine HS.out.mono ?_
  rintro e w1 ⟨rfl, hd, hon, hsz⟩
  have c2 : w1.cell? ⟨db, 2, none⟩ = some (.map (some mb)) := hd.d.cell 2
  obtain ⟨w2, hrun, hown, hg, hs2⟩ := run_clear_map hd.m Try.underlying39
  have HD := Lib.hid (hd.map hg hown)
  have HO := Lib.hid (hon.trans (Only.grown hg (by simp)))
  clear hd hon hown hg
  go_wp2
  go_ret
  exact ⟨rfl, HD.out, HO.out, hs2.trans hsz⟩

set_option maxRecDepth 100000 in
theorem clear_any (h : Dk w fb cb mb db sz a k bs n D) :
    Calls Try.prog 15 #[ptr fb] w fun e w' => e = .returned (.tuple #[]) ∧ Dk w' fb cb mb db sz false 0 bs n D ∧ Only [fb, cb, mb] w w' ∧ w'.heap.size = w.heap.size := by
  have f0 := h.f.frozen 0
  have f1 := h.f.frozen 1
  have c0 : w.cell? ⟨fb, 0, none⟩ = some (.bool a) := h.f.cell 0
  have c1 : w.cell? ⟨fb, 1, none⟩ = some (.int .i64 k) := h.f.cell 1
  have H := Lib.hid h
  clear h
  go_enter Try.func15, Try.ntmps15
  go_wp2
  go_end0
  have h := H.out
  exact ⟨rfl, ⟨(h.d.other h.df _).other h.df _, (h.f.set 0 _).set 1 _, (h.c.other h.fc.symm _).other h.fc.symm _, (h.m.setCell h.fm.symm _).setCell h.fm.symm _, h.len, h.most, by omega, by omega⟩,
    ⟨⟨rfl, rfl, rfl, by simp [World.setCell], fun i hi => by omega⟩, fun i _ hn => (Below.heap_setCell _ _ _ _ (fun e => hn (by rw [e]; simp))).trans (Below.heap_setCell _ _ _ _ (fun e => hn (by rw [e]; simp)))⟩, by simp [World.setCell]⟩
set_option maxRecDepth 100000 in
theorem arm_any (q : Nat) (hq : q ≤ 9223372036854775807) (h : Dk w fb cb mb db sz a k bs n D) :
    Calls Try.prog 25 #[ptr fb, .int .i64 (q : Int)] w fun e w' => e = .returned (.tuple #[]) ∧ Dk w' fb cb mb db sz true q bs n D ∧ Only [fb, cb, mb] w w' ∧ w'.heap.size = w.heap.size := by
  have f0 := h.f.frozen 0
  have f1 := h.f.frozen 1
  have c0 : w.cell? ⟨fb, 0, none⟩ = some (.bool a) := h.f.cell 0
  have c1 : w.cell? ⟨fb, 1, none⟩ = some (.int .i64 k) := h.f.cell 1
  have e0 : decide ((q : Int) < 0) = false := by simp
  have H := Lib.hid h
  clear h
  go_enter Try.func25, Try.ntmps25
  go_wp2
  go_end0
  have h := H.out
  exact ⟨rfl, ⟨(h.d.other h.df _).other h.df _, (h.f.set 0 _).set 1 _, (h.c.other h.fc.symm _).other h.fc.symm _, (h.m.setCell h.fm.symm _).setCell h.fm.symm _, h.len, h.most, by omega, by omega⟩,
    ⟨⟨rfl, rfl, rfl, by simp [World.setCell], fun i hi => by omega⟩, fun i _ hn => (Below.heap_setCell _ _ _ _ (fun e => hn (by rw [e]; simp))).trans (Below.heap_setCell _ _ _ _ (fun e => hn (by rw [e]; simp)))⟩, by simp [World.setCell]⟩
end
end Go.Proofs.Ytjmmbafpiahhiaa

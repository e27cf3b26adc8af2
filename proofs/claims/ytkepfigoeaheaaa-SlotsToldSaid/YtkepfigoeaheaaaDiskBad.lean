/-
  A disk's Write that isn't done; a disk as it is kept.
-/
import Derived.Test.YtkepfigoeaheaaaDiskWrite
namespace Go.Proofs.Ytkepfigoeaheaaa
open Go.RowKit
set_option linter.unusedVariables false
set_option linter.unusedSimpArgs false

theorem Disk.kept {w w' : World} {F : Nat → Prop} {k n : Nat} {S L : List (List UInt8)} {W : List WrF} {fu : Bool} {left : Int} (h : Disk w F k n S L W fu left) (hs : w.heap.size ≤ w'.heap.size) (hb : ∀ b, F b → w'.heap[b]? = w.heap[b]?) : Disk w' F k n S L W fu left := by
  obtain ⟨gs, gl, bm, vw, base, nm, D, hD, r⟩ := h
  exact ⟨gs, gl, bm, vw, base, nm, D, hD.kept hs hb, r⟩
theorem Disk.Flt {w : World} {F : Nat → Prop} {k n : Nat} {S L : List (List UInt8)} {W : List WrF} {fu : Bool} {left : Int} (h : Disk w F k n S L W fu left) : ∀ b, F b → b < w.heap.size := by
  obtain ⟨gs, gl, bm, vw, base, nm, D, hD, r⟩ := h
  exact hD.Flt
theorem Disk.below {w w' : World} {F : Nat → Prop} {k n : Nat} {S L : List (List UInt8)} {W : List WrF} {fu : Bool} {left : Int} (h : Disk w F k n S L W fu left) (hb : Below w.heap.size w w') : Disk w' F k n S L W fu left := h.kept hb.size (fun b hF => hb.block b (h.Flt b hF))
theorem Disk.more {w : World} {F F' : Nat → Prop} {k n : Nat} {S L : List (List UInt8)} {W : List WrF} {fu : Bool} {left : Int} (h : Disk w F k n S L W fu left) (h1 : ∀ b, F b → F' b) (h2 : ∀ b, F' b → b < w.heap.size) : Disk w F' k n S L W fu left := by
  obtain ⟨gs, gl, bm, vw, base, nm, D, hD, r⟩ := h
  exact ⟨gs, gl, bm, vw, base, nm, D, hD.more h1 h2, r⟩

set_option maxHeartbeats 8000000 in
set_option maxRecDepth 100000 in
theorem write_no (F : Nat → Prop) (k n : Nat) (a : Int) (S L : List (List UInt8)) (W : List WrF) (fu : Bool) (left : Int) (SL : List Value) (w : World) (h : Disk w F k n S L W fu left) (ha : a < 0 ∨ (n : Int) ≤ a) :
    Calls Try.prog 21 #[.pointer (some ⟨k, 0, none⟩), .int .i64 a, .agg SL.toArray] w fun e w' => e = .returned (.int .i64 2) ∧ Below w.heap.size w w' := by
  obtain ⟨gs, gl, bm, vw, base, nm, D, hD, hK, hnm, hgone⟩ := h
  have hn2 := hD.n2
  obtain ⟨w1, hw1⟩ : ∃ x, x = w.alloc (.cells SL.toArray 49) := ⟨_, rfl⟩
  have hb1 : Below w.heap.size w w1 := by rw [hw1]; exact (Below.refl _ _).alloc (Nat.le_refl _) _
  have hD1 := hD.kept hb1.size (fun b hF => hb1.block b (hD.Flt b hF))
  have HW1 := Lib.hid hw1
  clear hw1
  go_enter Try.func21, Try.ntmps21
  go_upto_region 1 with fail
  change Code.wp _ _ _ _ (w.alloc (.cells SL.toArray 49))
  rw [← HW1.out]
  clear HW1
  go_wp2_with fail
  refine Calls.mono (has_no k gs n a w1 hD1.c0 ha hn2) ?_
  rintro e wa ⟨rfl, rfl⟩
  go_wp2_with fail
  go_ret
  exact ⟨rfl, hb1⟩

set_option maxHeartbeats 8000000 in
set_option maxRecDepth 100000 in
theorem write_dead (F : Nat → Prop) (k n a : Nat) (S L : List (List UInt8)) (W : List WrF) (fu : Bool) (left : Int) (SL : List Value) (w : World) (h : Disk w F k n S L W fu left) (hdl : deadF fu left = true) (ha : a < n) :
    Calls Try.prog 21 #[.pointer (some ⟨k, 0, none⟩), .int .i64 (a : Nat), .agg SL.toArray] w fun e w' => e = .returned (.int .i64 0) ∧ Below w.heap.size w w' := by
  obtain ⟨gs, gl, bm, vw, base, nm, D, hD, hK, hnm, hgone⟩ := h
  have hn2 := hD.n2
  obtain ⟨w1, hw1⟩ : ∃ x, x = w.alloc (.cells SL.toArray 49) := ⟨_, rfl⟩
  have hb1 : Below w.heap.size w w1 := by rw [hw1]; exact (Below.refl _ _).alloc (Nat.le_refl _) _
  have hD1 := hD.kept hb1.size (fun b hF => hb1.block b (hD.Flt b hF))
  have HW1 := Lib.hid hw1
  clear hw1
  go_enter Try.func21, Try.ntmps21
  go_upto_region 1 with fail
  change Code.wp _ _ _ _ (w.alloc (.cells SL.toArray 49))
  rw [← HW1.out]
  clear HW1
  go_wp2_with fail
  refine Calls.mono (has_yes k gs n a w1 hD1.c0 ha hn2) ?_
  rintro e wa ⟨rfl, rfl⟩
  go_wp2_with fail
  refine Calls.mono (spend_dead k fu left wa hD1.c4 hD1.c5 hdl) ?_
  rintro e wb ⟨rfl, rfl⟩
  go_wp2_with fail
  go_ret
  exact ⟨rfl, hb1⟩

end Go.Proofs.Ytkepfigoeaheaaa

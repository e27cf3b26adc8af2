/-
  blob's Write of what can't be.
-/
import Derived.Test.YtongmiebojilfaaBlobWrite
namespace Go.Proofs.Ytongmiebojilfaa
open Go.RowKit
set_option linter.unusedVariables false
set_option linter.unusedSimpArgs false

theorem ref_zero : Try.prog.built 36 [] = some refZ.toArray := by kernel_rfl

set_option maxHeartbeats 8000000 in
set_option maxRecDepth 100000 in
theorem bwrite_big (k : Nat) (a : Int) (RL : List Value) (A : Option Addr) (m c : Nat) (w : World) (hm : 65536 < m) (hm2 : m ≤ 1000000) (hRL : RL = refZ) :
    Calls Try.prog 12 #[.pointer (some ⟨k, 0, none⟩), .int .i64 a, .slice A m c] w fun e w' => e = .returned (.tuple #[.agg RL.toArray, .int .i64 1]) ∧ Below w.heap.size w w' := by
  have hd1 : decide ((65536 : Int) < (m : Int)) = true := by simp; omega
  obtain ⟨W1, hW1⟩ : ∃ x, x = w.alloc (.cells RL.toArray 36) := ⟨_, rfl⟩
  have hR1 : Arr W1 w.heap.size 36 RL := by rw [hW1]; exact Arr.new w _ _
  have hb1 : Below w.heap.size w W1 := by rw [hW1]; exact (Below.refl _ w).alloc (Nat.le_refl _) _
  have H0 : Hid (W1.heap[w.heap.size]? = some (.cells RL.toArray 36 (0, 0))) := Lib.hid hR1
  have HB := Lib.hid (show Try.prog.built 36 [] = some RL.toArray by rw [hRL]; exact ref_zero)
  have HI := Lib.hid (show (Try.prog.info? 36).map (·.size) = some RL.toArray.size by rw [hRL]; exact refSize)
  have H1 := Lib.hid (show RL.toArray.all (·.oneCell') = true by rw [hRL]; exact all_oneCell_toArray (refC_cell _ _ _))
  have HW1 := Lib.hid hW1
  have HRL := Lib.hid hRL
  clear hW1
  go_enter Try.func12, Try.ntmps12
  go_upto_region 1 with fail
  change Code.wp _ _ _ _ (w.alloc (.cells refZ.toArray 36))
  rw [← HRL.out, ← HW1.out]
  clear HW1 hRL HRL
  go_wp2_with (first
    | (refine wpList_builtD rfl _ _ rfl [] rfl RL.toArray HB.out ?_)
    | (refine wpList_store_row rfl _ _ _ rfl w.heap.size RL.toArray rfl rfl 36 RL.toArray H0.out HI.out rfl H1.out ?_))
  have hset := hR1.setRow RL
  have hO9 := ((Only.refl (fun j => j = w.heap.size) W1).setRow (.inl rfl) RL.toArray).below (B := w.heap.size) hb1.size (by rintro i rfl; exact Nat.le_refl _)
  (try simp only [Exit.inBlock, Exit.then])
  obtain ⟨V, hV⟩ : ∃ V, V = Value.tuple #[.agg RL.toArray, .int .i64 1] := ⟨_, rfl⟩
  refine bodyPost_ret (v := V) ?hx1 ?h2 ?h3
  case hx1 => rw [hV]; exact results_cell2 (fn := Try.f12) (by rfl) _ _ w.heap.size 36 RL.toArray (0, 0) _ (by rfl) _ (by rfl) hset Try.underlying36 rfl HI.out
  case h2 => rfl
  case h3 => exact ⟨by rw [hV], hb1.trans hO9⟩

set_option maxHeartbeats 8000000 in
set_option maxRecDepth 100000 in
theorem bwrite_out (k gs n : Nat) (a : Int) (RL : List Value) (A : Option Addr) (m c : Nat) (w : World) (h : w.cell? ⟨k, 0, none⟩ = some (.slice (some ⟨gs, 0, none⟩) n n)) (hkl : k < w.heap.size) (hn : n ≤ 65536) (hm : m ≤ 65536) (ha : a ≤ 9223372036854775807) (hf : a < 0 ∨ (n : Int) < a + secsF m) (hRL : RL = refZ) :
    Calls Try.prog 12 #[.pointer (some ⟨k, 0, none⟩), .int .i64 a, .slice A m c] w fun e w' => e = .returned (.tuple #[.agg RL.toArray, .int .i64 2]) ∧ Below w.heap.size w w' := by
  have hd1 : decide ((65536 : Int) < (m : Int)) = false := by simp; omega
  obtain ⟨W1, hW1⟩ : ∃ x, x = w.alloc (.cells RL.toArray 36) := ⟨_, rfl⟩
  have hR1 : Arr W1 w.heap.size 36 RL := by rw [hW1]; exact Arr.new w _ _
  have hb1 : Below w.heap.size w W1 := by rw [hW1]; exact (Below.refl _ w).alloc (Nat.le_refl _) _
  have hk0 : W1.cell? ⟨k, 0, none⟩ = some (.slice (some ⟨gs, 0, none⟩) n n) := (hb1.cell (p := ⟨k, 0, none⟩) hkl).trans h
  have H0 : Hid (W1.heap[w.heap.size]? = some (.cells RL.toArray 36 (0, 0))) := Lib.hid hR1
  have HB := Lib.hid (show Try.prog.built 36 [] = some RL.toArray by rw [hRL]; exact ref_zero)
  have HI := Lib.hid (show (Try.prog.info? 36).map (·.size) = some RL.toArray.size by rw [hRL]; exact refSize)
  have H1 := Lib.hid (show RL.toArray.all (·.oneCell') = true by rw [hRL]; exact all_oneCell_toArray (refC_cell _ _ _))
  have HW1 := Lib.hid hW1
  have HRL := Lib.hid hRL
  clear hW1
  go_enter Try.func12, Try.ntmps12
  go_upto_region 1 with fail
  change Code.wp _ _ _ _ (w.alloc (.cells refZ.toArray 36))
  rw [← HRL.out, ← HW1.out]
  clear HW1 hRL HRL
  go_wp2_with fail
  refine Calls.mono (there_no k gs n m a W1 hk0 hn (by omega) ha hf) ?_
  rintro e wx ⟨rfl, rfl⟩
  go_wp2_with (first
    | (refine wpList_builtD rfl _ _ rfl [] rfl RL.toArray HB.out ?_)
    | (refine wpList_store_row rfl _ _ _ rfl w.heap.size RL.toArray rfl rfl 36 RL.toArray H0.out HI.out rfl H1.out ?_))
  have hset := hR1.setRow RL
  have hO9 := ((Only.refl (fun j => j = w.heap.size) wx).setRow (.inl rfl) RL.toArray).below (B := w.heap.size) hb1.size (by rintro i rfl; exact Nat.le_refl _)
  (try simp only [Exit.inBlock, Exit.then])
  obtain ⟨V, hV⟩ : ∃ V, V = Value.tuple #[.agg RL.toArray, .int .i64 2] := ⟨_, rfl⟩
  refine bodyPost_ret (v := V) ?hx1 ?h2 ?h3
  case hx1 => rw [hV]; exact results_cell2 (fn := Try.f12) (by rfl) _ _ w.heap.size 36 RL.toArray (0, 0) _ (by rfl) _ (by rfl) hset Try.underlying36 rfl HI.out
  case h2 => rfl
  case h3 => exact ⟨by rw [hV], hb1.trans hO9⟩

end Go.Proofs.Ytongmiebojilfaa

/-
  blob's Read.
-/
import Derived.Test.YtongmiebojilfaaBlobBad
namespace Go.Proofs.Ytongmiebojilfaa
open Go.RowKit
set_option linter.unusedVariables false
set_option linter.unusedSimpArgs false

theorem refC_at {d : List UInt8} (hd : d.length = 32) (a n : Int) : (refC d a n)[32]? = some (.int .i64 a) ∧ (refC d a n)[33]? = some (.int .i64 n) := by
  unfold refC
  constructor <;> rw [List.getElem?_append_right (by rw [Lib.byteCells_length, hd]; decide), Lib.byteCells_length, hd] <;> rfl

set_option maxHeartbeats 8000000 in
set_option maxRecDepth 100000 in
theorem bread_bad (k gs nd : Nat) (d : List UInt8) (a n : Int) (DL : List Value) (w : World) (h : w.cell? ⟨k, 0, none⟩ = some (.slice (some ⟨gs, 0, none⟩) nd nd)) (hkl : k < w.heap.size) (hn : nd ≤ 65536) (hd : d.length = 32)
    (ha : a ≤ 9223372036854775807) (hf : n < 0 ∨ 65536 < n ∨ ∃ m : Nat, n = (m : Int) ∧ m ≤ 65536 ∧ (a < 0 ∨ (nd : Int) < a + secsF m)) (hDL : DL = refC d a n) :
    Calls Try.prog 14 #[.pointer (some ⟨k, 0, none⟩), .agg DL.toArray] w fun e w' => e = .returned (.tuple #[.slice none 0 0, .int .i64 7]) ∧ Below w.heap.size w w' := by
  obtain ⟨W1, hW1⟩ : ∃ x, x = w.alloc (.cells DL.toArray 36) := ⟨_, rfl⟩
  have hR1 : Arr W1 w.heap.size 36 DL := by rw [hW1]; exact Arr.new w _ _
  have hb1 : Below w.heap.size w W1 := by rw [hW1]; exact (Below.refl _ w).alloc (Nat.le_refl _) _
  have hk0 : W1.cell? ⟨k, 0, none⟩ = some (.slice (some ⟨gs, 0, none⟩) nd nd) := (hb1.cell (p := ⟨k, 0, none⟩) hkl).trans h
  have h32 : W1.cell? ⟨w.heap.size, 32, none⟩ = some (.int .i64 a) := by rw [hR1.cell, hDL]; exact (refC_at hd a n).1
  have h33 : W1.cell? ⟨w.heap.size, 33, none⟩ = some (.int .i64 n) := by rw [hR1.cell, hDL]; exact (refC_at hd a n).2
  have HW1 := Lib.hid hW1
  clear hW1 hDL hR1
  rcases hf with hf | hf | ⟨m, rfl, hm, hf⟩
  · have hd1 : decide (n < (0 : Int)) = true := by simp; exact hf
    go_enter Try.func14, Try.ntmps14
    go_upto_region 1 with fail
    change Code.wp _ _ _ _ (w.alloc (.cells DL.toArray 36))
    rw [← HW1.out]
    clear HW1
    go_wp2_with fail
    exact bodyPost_ret (results_tmp2 (t := 4) (u := 5) (by rfl) _ _ _) rfl ⟨rfl, hb1⟩
  · have hd1 : decide (n < (0 : Int)) = false := by simp; omega
    have hd2 : decide ((65536 : Int) < n) = true := by simp; exact hf
    go_enter Try.func14, Try.ntmps14
    go_upto_region 1 with fail
    change Code.wp _ _ _ _ (w.alloc (.cells DL.toArray 36))
    rw [← HW1.out]
    clear HW1
    go_wp2_with fail
    exact bodyPost_ret (results_tmp2 (t := 4) (u := 5) (by rfl) _ _ _) rfl ⟨rfl, hb1⟩
  · have hd1 : decide ((m : Int) < (0 : Int)) = false := by simp
    have hd2 : decide ((65536 : Int) < (m : Int)) = false := by simp; omega
    go_enter Try.func14, Try.ntmps14
    go_upto_region 1 with fail
    change Code.wp _ _ _ _ (w.alloc (.cells DL.toArray 36))
    rw [← HW1.out]
    clear HW1
    go_wp2_with fail
    refine Calls.mono (there_no k gs nd m a W1 hk0 hn (by omega) ha hf) ?_
    rintro e wx ⟨rfl, rfl⟩
    go_wp2_with fail
    exact bodyPost_ret (results_tmp2 (t := 4) (u := 5) (by rfl) _ _ _) rfl ⟨rfl, hb1⟩

end Go.Proofs.Ytongmiebojilfaa

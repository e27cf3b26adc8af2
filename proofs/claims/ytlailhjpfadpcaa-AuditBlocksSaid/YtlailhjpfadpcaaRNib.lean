/-
  The document's own Nibble.
-/
import Derived.Test.YtlailhjpfadpcaaArr
import Derived.Test.YtlailhjpfadpcaaDig0
import Derived.Deep.DeepCutAuto
import Derived.Deep.CutBlock
import Derived.IntWalk
import Derived.StillTailTactics
namespace Go.Proofs.Ytlailhjpfadpcaa
open Go.RowKit
set_option linter.unusedVariables false
set_option linter.unusedSimpArgs false

set_option maxHeartbeats 4000000 in
set_option maxRecDepth 100000 in
theorem rnibble_run (k : List UInt8) (hk : k.length = 32) (VL : List Value) (hVL : VL = Lib.byteCells k) (i : Nat) (hi : i < 64) (x : Nat) (hx : (k.getD (i / 2) 0).toNat = x) (r : Nat) (hr : r = if i % 2 = 0 then x / 16 else x % 16) (w : World) :
    Calls Try.prog 25 #[.agg VL.toArray, .int .i64 (i : Nat)] w fun e w' => e = .returned (.int .u8 (r : Nat)) ∧ Below w.heap.size w w' := by
  obtain ⟨W1, hW1⟩ : ∃ W1, W1 = w.alloc (.cells VL.toArray 24) := ⟨_, rfl⟩
  have hR1 : Arr W1 w.heap.size 24 VL := by rw [hW1]; exact Arr.new w _ _
  have hb1 : Below w.heap.size w W1 := by rw [hW1]; exact (Below.refl _ w).alloc (Nat.le_refl _) _
  obtain ⟨q, hq⟩ : ∃ q, i / 2 = q := ⟨_, rfl⟩
  rw [hq] at hx
  have hq32 : q < 32 := by omega
  have hqI : (i : Int) / 2 = (q : Int) := by omega
  have hqT : (i : Int).tdiv 2 = (q : Int) := by rw [Int.tdiv_eq_ediv_of_nonneg (by omega)]; exact hqI
  have hce : W1.cell? ⟨w.heap.size, q, none⟩ = some (.int .u8 (x : Nat)) := by
    rw [hR1.cell, hVL, ← hx]
    exact byteCells_get (by omega)
  have hxB : x < 256 := by rw [← hx]; exact UInt8.toNat_lt _
  have hqI2 : (q : Int) < 32 := by omega
  have HW1 := Lib.hid hW1
  by_cases h0 : i % 2 = 0
  · rw [if_pos h0] at hr
    have hm : ((i : Int) % 2 == 0) = true := by rw [beq_iff_eq]; omega
    have hmT : ((i : Int).tmod 2 == 0) = true := by rw [beq_iff_eq, Int.tmod_eq_emod_of_nonneg (by omega)]; omega
    have Hr := Lib.hid hr
    clear hW1 hVL hx hq h0 hr
    go_enter Try.func25, Try.ntmps25
    go_upto_region 1 with fail
    change Code.wp _ _ _ _ (w.alloc (.cells VL.toArray 24))
    rw [← HW1.out]
    clear HW1
    go_wp2_with fail
    go_ret
    exact ⟨by rw [Hr.out]; first | rfl | (congr 2; omega), hb1⟩
  · rw [if_neg h0] at hr
    have hm : ((i : Int) % 2 == 0) = false := by rw [beq_eq_false_iff_ne]; omega
    have hmT : ((i : Int).tmod 2 == 0) = false := by rw [beq_eq_false_iff_ne, Int.tmod_eq_emod_of_nonneg (by omega)]; omega
    have Hr := Lib.hid hr
    clear hW1 hVL hx hq h0 hr
    go_enter Try.func25, Try.ntmps25
    go_upto_region 1 with fail
    change Code.wp _ _ _ _ (w.alloc (.cells VL.toArray 24))
    rw [← HW1.out]
    clear HW1
    go_wp2_with fail
    go_ret
    exact ⟨by rw [Hr.out]; first | rfl | (congr 2; omega), hb1⟩

end Go.Proofs.Ytlailhjpfadpcaa

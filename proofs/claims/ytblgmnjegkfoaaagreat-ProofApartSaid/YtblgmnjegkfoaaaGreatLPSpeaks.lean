/-
  The example of the law of proof.
-/
import Derived.Test.YtblgmnjegkfoaaaGreatLPCheck
namespace Go.Proofs.YtblgmnjegkfoaaaGreat
open Go.RowKit
set_option linter.unusedVariables false
set_option linter.unusedSimpArgs false

theorem none_ne : zeros ≠ shaF (tagF 5 []) := by decide +kernel
def oneD : List UInt8 := 1 :: List.replicate 31 0
theorem oneBuilt : Tryz.prog.built 24 [(0, .int .u8 1)] = some (Lib.byteCells oneD).toArray := by kernel_rfl
theorem zeroBuilt : Tryz.prog.built 24 [] = some (Lib.byteCells zeros).toArray := by kernel_rfl
theorem chk_none : chkF (shaF (tagF 5 [])) oneD [] 0 = some none := by unfold chkF; rw [if_pos ⟨rfl, rfl⟩]
theorem chk_zero : chkF zeros oneD [] 0 = none := by unfold chkF; rw [if_neg (fun h => none_ne h.2)]

set_option maxHeartbeats 8000000 in
set_option maxRecDepth 100000 in
theorem pspeaks_true (w : World) :
    Calls Tryz.prog 19 #[] w fun e w' => e = .returned (.bool true) ∧ Below w.heap.size w w' := by
  obtain ⟨SL, hSL⟩ : ∃ SL, SL = Lib.byteCells (shaF (tagF 5 [])) := ⟨_, rfl⟩
  obtain ⟨OL, hOL⟩ : ∃ OL, OL = Lib.byteCells oneD := ⟨_, rfl⟩
  obtain ⟨ZL, hZL⟩ : ∃ ZL, ZL = Lib.byteCells zeros := ⟨_, rfl⟩
  have HOb := Lib.hid (show Tryz.prog.built 24 [(0, .int .u8 1)] = some OL.toArray by rw [hOL]; exact oneBuilt)
  have HZb := Lib.hid (show Tryz.prog.built 24 [] = some ZL.toArray by rw [hZL]; exact zeroBuilt)
  have HSL := Lib.hid hSL
  have HOL := Lib.hid hOL
  have HZL := Lib.hid hZL
  clear hSL hOL hZL
  go_enter Tryz.func19, Tryz.ntmps19
  go_wp2_with fail
  refine Calls.mono (rtag_at 5 5 [] SL none 0 0 w rfl HSL.out rfl (by omega) (fun h => absurd h (by simp)) (by decide)) ?_
  rintro e w1 ⟨rfl, hb1⟩
  dsimp only
  go_wp2_with (refine wpList_builtP rfl _ _ rfl [(0, .int .u8 1)] rfl OL.toArray HOb.out ?_)
  refine Calls.mono (check_none (shaF (tagF 5 [])) oneD (shaF_length _) SL OL HSL.out none 0 w1) ?_
  rintro e w2 ⟨V, rfl, hsh, hb2⟩
  rw [chk_none] at hsh
  obtain rfl : V = .tuple #[.slice none 0 0, .bool false, .int .i64 0] := hsh
  dsimp only
  go_wp2_with (first
    | (refine wpList_builtP rfl _ _ rfl [] rfl ZL.toArray HZb.out ?_)
    | (refine wpList_builtP rfl _ _ rfl [(0, .int .u8 1)] rfl OL.toArray HOb.out ?_))
  refine Calls.mono (check_none zeros oneD (by simp [zeros]) ZL OL HZL.out none 0 w2) ?_
  rintro e w3 ⟨V, rfl, hsh3, hb3⟩
  rw [chk_zero] at hsh3
  obtain rfl : V = .tuple #[.slice none 0 0, .bool false, .int .i64 3] := hsh3
  dsimp only
  go_wp2_with fail
  go_ret
  exact ⟨rfl, (hb1.trans (hb2.mono hb1.size)).trans (hb3.mono (Nat.le_trans hb1.size hb2.size))⟩

end Go.Proofs.YtblgmnjegkfoaaaGreat

/-
  The law's example of the cell.
-/
import Derived.Test.YtggefcelcjhgeacCellNew
namespace Go.Proofs.Ytggefcelcjhgeac
open Go.RowKit
set_option linter.unusedVariables false

set_option maxHeartbeats 4000000 in
set_option maxRecDepth 100000 in
theorem cellSpeaks_true (w : World) : Calls Try.prog 17 #[] w fun e w' => e = .returned (.bool true) ∧ Below w.heap.size w w' := by
  obtain ⟨Z, hZ⟩ : ∃ Z, Z = (Lib.byteCells zeros).toArray := ⟨_, rfl⟩
  have HZb := Lib.hid (show Try.prog.built 44 [] = some Z by rw [hZ]; exact zeros_built)
  have HZd := Lib.hid (show Value.agg Z = digV zeros by rw [hZ]; rfl)
  clear hZ
  go_enter Try.func17, Try.ntmps17
  go_wp2_with (first
    | (refine wpList_built rfl _ _ rfl [] rfl Z HZb.out ?_)
    | (go_at_call 18; rw [HZd.out]; refine Calls.mono (new_any mostN zeros w rfl) ?_; rintro e w1 ⟨g, rfl, hg, hA, hb⟩; rw [← HZd.out])
    | (go_at_call 23; rw [HZd.out]; refine Calls.mono (advance_any g mostN zeros zeros w1 (by decide) rfl rfl hA) ?_; rintro e w2 ⟨rfl, hA2, ho⟩; rw [if_pos rfl]; rw [← HZd.out]))
  exact bodyPost_ret (v := .bool true) (by simp [results, Try.f17]) rfl ⟨rfl, hb.trans (ho.below hb.size (by rintro k rfl; exact hg))⟩

end Go.Proofs.Ytggefcelcjhgeac

/-
  In.Wrong.
-/
import Derived.Test.YtlfddijmanlneaaInCalls
namespace Go.Proofs.Ytlfddijmanlneaa
open Go.RowKit
set_option linter.unusedVariables false
variable {lo : Nat}

set_option maxHeartbeats 1000000 in
theorem wrong_in (p : Nat) (l : List UInt8) (wr : Bool) (w : World) (h : PInL lo w p l wr) :
    Calls Try.prog 67 #[.pointer (some ⟨p, 0, none⟩)] w fun e w' => e = .returned (.bool wr) ∧ w = w' := by
  obtain ⟨A, c, hg, h1, h2, h3, h4⟩ := h
  obtain ⟨c0, c1, f0, f1⟩ := PInL.cells hg
  go_enter Try.func67, Try.ntmps67
  go_wp2
  go_ret
  exact ⟨rfl, rfl⟩

end Go.Proofs.Ytlfddijmanlneaa

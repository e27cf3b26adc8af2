/-
  In.Wrong.
-/
import Derived.Test.YtfelacpaaialfaaDoorInCalls
namespace Go.Proofs.YtfelacpaaialfaaDoor
open Go.RowKit
set_option linter.unusedVariables false
variable {lo : Nat}

set_option maxHeartbeats 1000000 in
theorem wrong_in (p : Nat) (l : List UInt8) (wr : Bool) (w : World) (h : PInL lo w p l wr) :
    Calls Tryd.prog 19 #[.pointer (some ⟨p, 0, none⟩)] w fun e w' => e = .returned (.bool wr) ∧ w = w' := by
  obtain ⟨A, c, hg, h1, h2, h3, h4⟩ := h
  obtain ⟨c0, c1, f0, f1⟩ := PInL.cells hg
  go_enter Tryd.func19, Tryd.ntmps19
  go_wp2
  go_ret
  exact ⟨rfl, rfl⟩

end Go.Proofs.YtfelacpaaialfaaDoor

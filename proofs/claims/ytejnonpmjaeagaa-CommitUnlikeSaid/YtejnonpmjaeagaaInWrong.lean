/-
  In.Wrong.
-/
import Derived.Test.YtejnonpmjaeagaaInCalls
namespace Go.Proofs.Ytejnonpmjaeagaa
open Go.RowKit
set_option linter.unusedVariables false

set_option maxHeartbeats 1000000 in
theorem wrong_in (p : Nat) (l : List UInt8) (wr : Bool) (w : World) (h : PIn w p l wr) :
    Calls Try.prog 57 #[.pointer (some ⟨p, 0, none⟩)] w fun e w' => e = .returned (.bool wr) ∧ w = w' := by
  obtain ⟨A, c, hg, h1, h2, h3, h4⟩ := h
  obtain ⟨c0, c1, f0, f1⟩ := PIn.cells hg
  go_enter Try.func57, Try.ntmps57
  go_wp2
  go_ret
  exact ⟨rfl, rfl⟩

end Go.Proofs.Ytejnonpmjaeagaa

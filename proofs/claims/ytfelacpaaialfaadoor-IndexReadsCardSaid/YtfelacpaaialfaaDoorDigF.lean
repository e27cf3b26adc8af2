/-
  The digest that is next in bytes. No program.
-/
import Derived.Test.YtfelacpaaialfaaDoorIn
import Derived.Test.YtfelacpaaialfaaDoorPackMath
namespace Go.Proofs.YtfelacpaaialfaaDoor
open Go.RowKit
set_option linter.unusedVariables false

/-- The digest that is next: 32 bytes, or zeros. -/
def digF (l : List UInt8) : List UInt8 := if l.length < 32 then List.replicate 32 0 else l.take 32

theorem digF_length (l : List UInt8) : (digF l).length = 32 := by
  unfold digF
  split
  · simp
  · rw [List.length_take]; omega

theorem numF_rest (most : Nat) (l : List UInt8) : (numF most l).2.1.length ≤ l.length := by
  unfold numF
  split
  · simp
  · simp

theorem numF_le (most : Nat) (l : List UInt8) : (numF most l).1 ≤ most := by
  unfold numF
  split
  · exact Nat.zero_le _
  · rename_i h
    simp only
    omega

end Go.Proofs.YtfelacpaaialfaaDoor

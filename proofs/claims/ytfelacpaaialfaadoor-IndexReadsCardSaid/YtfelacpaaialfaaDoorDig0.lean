/-
  Arrays of 32 bytes, as values. No walk.
-/
import Derived.Test.YtfelacpaaialfaaDoorRows
import Derived.Test.YtfelacpaaialfaaDoorArr
namespace Go.Proofs.YtfelacpaaialfaaDoor
open Go.RowKit

/-- An array of bytes, as a value. -/
def digV (d : List UInt8) : Value := .agg (Lib.byteCells d).toArray
def zeros : List UInt8 := List.replicate 32 0
theorem zl : (Lib.byteCells zeros).length = 32 := by simp [Lib.byteCells, zeros]
theorem digInfo : (Tryd.prog.info? 39).map (·.size) = some 32 := by kernel_rfl

end Go.Proofs.YtfelacpaaialfaaDoor

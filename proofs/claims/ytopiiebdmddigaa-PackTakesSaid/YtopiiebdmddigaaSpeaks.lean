/-
  The document's example of layer 1 holds: the number 300 is 172, 2.
-/
import Derived.Test.YtopiiebdmddigaaNum
import Derived.Test.YtopiiebdmddigaaSame
import Derived.Test.YtopiiebdmddigaaUv
namespace Go.Proofs.Ytopiiebdmddigaa
open Go.RowKit
set_option linter.unusedVariables false

set_option maxHeartbeats 1000000 in
theorem speaks_true (w : World) :
    Calls Try.prog 9 #[] w fun e w' => e = .returned (.bool true) ∧ Below w.heap.size w w' := by
  go_enter Try.func9, Try.ntmps9
  go_wp2_with fail
  refine (number_nil 300 (by omega) (by omega) _).mono ?_
  rintro e w1 ⟨A, c, rfl, hown, hb⟩
  have hu : Lib.uvarint (300 : Int).toNat = [172, 2] := uv300
  rw [hu] at hown ⊢
  clear hu
  go_wp2_with fail
  have hlt := hown.lt
  have hs1 := (hown.bs).2.alloc (Nat.le_refl _) (.cells #[.int .u8 172, .int .u8 2] 5)
  have hs2 := Bs.new w1 [172, 2] 5 #[.int .u8 172, .int .u8 2] rfl
  refine (same_any _ _ A _ c 2 [172, 2] [172, 2] _ hs1 hs2 (by decide) (by decide)).mono ?_
  rintro e w2 ⟨rfl, n, rfl⟩
  go_wp2_with fail
  go_ret
  exact ⟨rfl, Below.dN (hb.alloc hb.size _) _⟩

end Go.Proofs.Ytopiiebdmddigaa

/-
  What pack.In gives, in the words of what is left.
-/
import Derived.Test.YtcajhndhjlfmaaaVrMath
import Derived.Test.YtcajhndhjlfmaaaDig
namespace Go.Proofs.Ytcajhndhjlfmaaa
open Go.RowKit
set_option linter.unusedVariables false
set_option linter.unusedSimpArgs false

variable {lo : Nat}
/-! ### taking, whatever went wrong ahead -/
variable {lo : Nat}
theorem number_fl (p most : Nat) (s : St) (w : World) (h : PInL lo w p s.1 s.2) (hm : most < 18446744073709551616) :
    Calls Try.prog 30 #[.pointer (some ⟨p, 0, none⟩), .int .u64 most] w fun e w' => e = .returned (.int .u64 (numS most s).1) ∧ PInL lo w' p (numS most s).2.1 (numS most s).2.2 ∧ Turn p w w' := number_in p most s.1 s.2 w h hm
theorem digest_fl (p : Nat) (s : St) (w : World) (h : PInL lo w p s.1 s.2) :
    Calls Try.prog 66 #[.pointer (some ⟨p, 0, none⟩)] w fun e w' => e = .returned (.agg (Lib.byteCells (digS s).1).toArray) ∧ PInL lo w' p (digS s).2.1 (digS s).2.2 ∧ Turn p w w' := digest_in p s.1 s.2 w h

end Go.Proofs.Ytcajhndhjlfmaaa

/-
  The index of any bytes is told exactly, or that there is none: the card. Conditions: none but what the card ties: the package-level variable index.nowhere begins as the program's text lays it.
-/
import Derived.Test.YtfelacpaaialfaaDoorIndexReadsProof
import Derived.Test.YtfelacpaaialfaaDoorCards
import Derived.Test.YtfelacpaaialfaaDoorTie
import Derived.SevenTiedAt
namespace Go.Proofs.YtfelacpaaialfaaDoor
open Go

theorem proved : Rows.IndexReadsCardSaid :=
  Claim7.holds_tied_plain_at .later [] [.data] true (true, "c0adc861954bf9a0738d449582f9818bfe79561264fa3291cadf821668f80138") false
    indexReads.row_holds (fun _ h => by cases h) (by kernel_rfl) (fun _ h => by cases h) indexReads_row_tie rfl ⟨rfl, rfl⟩ (by kernel_rfl) rfl
    (fun f fn hf hfn => by
      obtain rfl : f = 3 := Option.some.inj ((show Tryd.prog.funcNamed "sporran/sporranlaw11.IndexReads" = some 3 by kernel_rfl).symm.trans hf) |>.symm
      obtain rfl : fn = Tryd.f3 := (Option.some.inj (Tryd.func3.symm.trans hfn)).symm
      exact ⟨by kernel_rfl, fun j t ht => by
        rw [Tryd.params3] at ht
        have hm : t ∈ [22] := by simpa using Array.mem_of_getElem? ht
        have hall : ([22].all fun u => !Tryd.prog.wantsStandIn u) = true := by kernel_rfl
        exact (show Tryd.prog.wantsStandIn t = false by simpa using List.all_eq_true.1 hall t hm)⟩)
    (by kernel_rfl)
#print axioms proved
end Go.Proofs.YtfelacpaaialfaaDoor

/-
  The document's own In.Bytes.
-/
import Derived.Test.YtlfddijmanlneaaRefRest
namespace Go.Proofs.Ytlfddijmanlneaa
open Go.RowKit
set_option linter.unusedVariables false

set_option maxHeartbeats 4000000 in
set_option maxRecDepth 100000 in
theorem rbytes_in (q : Nat) (most : Int) (L : List UInt8) (A : Option Addr) (c o : Nat) (wr : Bool) (w : World) (h : RIn w q L A c o wr) (hf : RFix w q L A c) (ho : o ≤ L.length) (hlo : -9223372036854775808 ≤ most) (hhi : most ≤ 9223372036854775807) :
    Calls Try.prog 53 #[.pointer (some ⟨q, 0, none⟩), .int .i64 most] w (RBytesPost q most L A c o wr w) := by
  have hq := h.lt
  by_cases hneg : most < 0
  · have hr : rbF most L o wr = ([], o, true) := by unfold rbF; rw [if_pos hneg]
    have Hr := Lib.hid hr
    have Hbad := Lib.hid h.bad
    obtain ⟨c0, c1, c2, f0, f1, f2⟩ := h.cells
    clear hr
    go_enter Try.func53, Try.ntmps53
    go_wp2_with fail
    go_ret
    have hs : (w.setCell ⟨q, 2, none⟩ (.bool true)).heap.size = w.heap.size := by simp [World.setCell]
    refine ⟨_, rfl, ?_, by rw [Hr.out]; exact Hbad.out.alloc _, by exact (Turn.set q 2 w _).alloc _⟩
    rw [Hr.out]
    have := owns_empty (w.setCell ⟨q, 2, none⟩ (.bool true)) w.heap.size (by omega)
    rwa [hs] at this
  · have h0 : 0 ≤ most := by omega
    have Hm := Lib.hid (Int.toNat_of_nonneg h0)
    have hr : rbF most L o wr = takeF (rnF most.toNat L o wr).1 L (rnF most.toNat L o wr).2.1 (rnF most.toNat L o wr).2.2 := by unfold rbF; rw [if_neg hneg]
    have hbnd := rnF_bounds most.toNat L o wr ho
    go_enter Try.func53, Try.ntmps53
    go_wp2_with fail
    rw [← Hm.out]
    refine (rnumber_in q most.toNat L A c o wr w h hf ho (by omega)).mono ?_
    rintro e w1 ⟨rfl, hR1, ht1⟩
    rw [Hm.out]
    have hq1 : w.heap.size ≤ w1.heap.size := ht1.size
    obtain ⟨x, hx⟩ : ∃ x, rnF most.toNat L o wr = x := ⟨_, rfl⟩
    rw [hx] at hr hbnd hR1 ⊢
    have Hr := Lib.hid hr
    clear hx hr
    obtain ⟨v, o1, wr1⟩ := x
    obtain ⟨hv, ho1⟩ := hbnd
    simp only at hv ho1
    have hv2 : v < 9223372036854775808 := by omega
    go_wp2_with fail
    refine (take_in q v L A c o1 wr1 w1 hR1 (hf.turn ht1 hq) ho1 hv2).mono ?_
    rintro e w2 ⟨u, rfl, hown, hR2, ht2⟩
    go_wp2_with fail
    go_ret
    exact ⟨u, rfl, by rw [Hr.out]; exact hown.base hq1, by rw [Hr.out]; exact hR2, ht1.trans ht2⟩

end Go.Proofs.Ytlfddijmanlneaa

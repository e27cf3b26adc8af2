/-
  The laws' example.
-/
import Derived.Test.YtcajhndhjlfmaaaGreatVolCalls
namespace Go.Proofs.YtcajhndhjlfmaaaGreat
open Go.RowKit
set_option linter.unusedVariables false
set_option linter.unusedSimpArgs false

set_option maxHeartbeats 4000000 in
set_option maxRecDepth 100000 in
theorem speaks12_any (w : World) : Calls Tryz.prog 4 #[] w fun e w' => e = .returned (.bool true) ∧ Below w.heap.size w w' := by
  obtain ⟨FL, hFL⟩ : ∃ z, z = Lib.byteCells one32 := ⟨_, rfl⟩
  obtain ⟨ZL, hZL⟩ : ∃ z, z = Lib.byteCells zeros := ⟨_, rfl⟩
  have HFb := Lib.hid (show Tryz.prog.built 29 [(0, .int .u8 1)] = some FL.toArray by rw [hFL]; exact one32_built)
  have HZI := Lib.hid (show (Tryz.prog.info? 29).map (·.size) = some ZL.toArray.size ∧ (Lib.byteCells zeros).toArray.size = ZL.toArray.size by rw [hZL]; exact ⟨by simpa [Lib.byteCells, zeros] using digInfo, rfl⟩)
  have HZ1 := Lib.hid (show ZL.toArray.all (·.oneCell') = true by rw [hZL]; exact dig_one _)
  have HFL := Lib.hid hFL
  have HZL := Lib.hid hZL
  clear hFL hZL
  go_enter Tryz.func4, Tryz.ntmps4
  go_wp2_with fail
  refine Calls.mono (vnew_any w) ?_
  rintro e w1 ⟨s, rfl, hs1, hS1, hb1⟩
  have hF1 : ∀ b, newF (fun _ => False) w w1 b → w.heap.size ≤ b := fun b h => h.elim (fun h => h.elim) fun h => h.1
  obtain ⟨F1, hFe⟩ : ∃ z, z = newF (fun _ => False) w w1 := ⟨_, rfl⟩
  rw [← hFe] at hF1 hS1
  clear hFe
  go_wp2_with fail
  refine Calls.mono (show Calls Tryz.prog 18 #[_, .string nameA, _] w1 _ from create_any s nameA (by decide) 1 w1 F1 [] hS1 (by simp) _ _ ex_create) ?_
  rintro e w2 ⟨rfl, hS2, hO2⟩
  have hb2 : Below w.heap.size w w2 := hb1.trans (hO2.below hb1.size hF1)
  have hF2 : ∀ b, newF F1 w1 w2 b → w.heap.size ≤ b := fun b h => h.elim (hF1 b) fun h => by have := hb1.size; omega
  obtain ⟨F2, hFe⟩ : ∃ z, z = newF F1 w1 w2 := ⟨_, rfl⟩
  rw [← hFe] at hF2 hS2
  clear hFe hS1 hO2 hF1
  go_wp2_with (refine wpList_builtV rfl _ _ rfl _ rfl FL.toArray HFb.out ?_)
  refine Calls.mono (show Calls Tryz.prog 19 #[_, .string nameA, _, _] w2 _ from put_any s nameA (by decide) 0 w2 F2 _ hS2 one32 rfl FL HFL.out _ _ _ _ ex_put0 ZL HZL.out) ?_
  rintro e w3 ⟨rfl, hS3, hO3⟩
  have hb3 : Below w.heap.size w w3 := hb2.trans (hO3.below hb2.size hF2)
  have hF3 : ∀ b, newF F2 w2 w3 b → w.heap.size ≤ b := fun b h => h.elim (hF2 b) fun h => by have := hb2.size; omega
  obtain ⟨F3, hFe⟩ : ∃ z, z = newF F2 w2 w3 := ⟨_, rfl⟩
  rw [← hFe] at hF3 hS3
  clear hFe hS2 hO3 hF2
  go_upto_region 4 with (first | (change wpList _ _ _ _ _ (w3.alloc (.cells (Lib.byteCells zeros).toArray 29)); refine wpList_store_row rfl _ _ _ rfl w3.heap.size ZL.toArray rfl rfl 29 (Lib.byteCells zeros).toArray (heap_alloc_new w3 _) HZI.out.1 HZI.out.2 HZ1.out ?_; obtain ⟨w4, hw4⟩ : ∃ x, x = (w3.alloc (.cells (Lib.byteCells zeros).toArray 29)).setRow w3.heap.size ZL.toArray := ⟨_, rfl⟩; rw [← hw4]; obtain ⟨hP4, hb4⟩ := alloc_row w3 29 (Lib.byteCells zeros).toArray ZL; rw [← hw4] at hP4 hb4; clear hw4))
  have hS4 := hS3.below hb4
  have hb4w : Below w.heap.size w w4 := hb3.trans (hb4.mono hb3.size)
  clear hS3 hP4
  go_wp2_with (refine wpList_builtV rfl _ _ rfl _ rfl FL.toArray HFb.out ?_)
  refine Calls.mono (show Calls Tryz.prog 19 #[_, .string nameA, _, _] w4 _ from put_any s nameA (by decide) 1 w4 F3 _ hS4 one32 rfl FL HFL.out _ _ _ _ ex_put1 ZL HZL.out) ?_
  rintro e w5 ⟨rfl, hS5, hO5⟩
  have hb5 : Below w.heap.size w w5 := hb4w.trans (hO5.below hb4w.size hF3)
  clear hS4 hS5 hO5 hF3
  go_wp2_with (first | (change wpList _ _ _ _ _ (w5.alloc (.cells (Lib.byteCells zeros).toArray 29)); refine wpList_store_row rfl _ _ _ rfl w5.heap.size ZL.toArray rfl rfl 29 (Lib.byteCells zeros).toArray (heap_alloc_new w5 _) HZI.out.1 HZI.out.2 HZ1.out ?_; obtain ⟨w6, hw6⟩ : ∃ x, x = (w5.alloc (.cells (Lib.byteCells zeros).toArray 29)).setRow w5.heap.size ZL.toArray := ⟨_, rfl⟩; rw [← hw6]; obtain ⟨hP6, hb6⟩ := alloc_row w5 29 (Lib.byteCells zeros).toArray ZL; rw [← hw6] at hP6 hb6; clear hw6))
  go_ret
  exact ⟨rfl, hb5.trans (hb6.mono hb5.size)⟩

end Go.Proofs.YtcajhndhjlfmaaaGreat

/-
  The example of the document's chapter 2.
-/
import Derived.Test.YtkpgbgiamekhaabSum
import Derived.Lib.SlBytesConst
namespace Go.Proofs.Ytkpgbgiamekhaab
open Go.RowKit
set_option linter.unusedVariables false

/-- Bytes that stand in a new block, whatever is marked there. -/
theorem Bs.newF (w : World) (l : List UInt8) (T : TypeId) (cs : Array Value) (fr : Nat × Nat) (h : cs = (Lib.byteCells l).toArray) : Bs (w.alloc (.cells cs T fr)) (w.heap.size + 1) (some ⟨w.heap.size, 0, none⟩) l := fun _ => by
  refine ⟨w.heap.size, 0, rfl, by omega, fun j hj => ?_⟩
  rw [cell_of_row (w.alloc (.cells cs T fr)) w.heap.size (0 + j) cs T fr (heap_alloc_new w _), h]
  simpa using byteCells_get hj

theorem abc_two : ((shaF [97, 98, 99]).getD 0 0).toNat = 186 ∧ ((shaF [97, 98, 99]).getD 1 0).toNat = 120 := ⟨by kernel_rfl, by kernel_rfl⟩

set_option maxHeartbeats 8000000 in
set_option maxRecDepth 100000 in
theorem shaSpeaks_true (w : World) : Calls Try.prog 9 #[] w fun e w' => e = .returned (.bool true) ∧ Below w.heap.size w w' := by
  have hb0 : Bs (w.alloc (.cells #[.int .u8 97, .int .u8 98, .int .u8 99] 5 (3, 4))) (w.heap.size + 1) (some ⟨w.heap.size, 0, none⟩) [97, 98, 99] := Bs.newF w [97, 98, 99] 5 _ (3, 4) rfl
  obtain ⟨W1, hW1⟩ : ∃ W1, W1 = w.alloc (.cells #[.int .u8 97, .int .u8 98, .int .u8 99] 5 (3, 4)) := ⟨_, rfl⟩
  have hW1b : Below w.heap.size w W1 := by rw [hW1]; exact (Below.refl _ w).alloc (Nat.le_refl _) _
  have hW1s : w.heap.size + 1 ≤ W1.heap.size := by rw [hW1]; simp
  rw [← hW1] at hb0
  have HW1 := Lib.hid hW1
  have hl := shaF_length [97, 98, 99]
  obtain ⟨h0, h1⟩ := abc_two
  obtain ⟨D, hD⟩ : ∃ D, shaF [97, 98, 99] = D := ⟨_, rfl⟩
  rw [hD] at hl h0 h1
  obtain ⟨DV, hDV⟩ : ∃ DV, DV = (Lib.byteCells D).toArray := ⟨_, rfl⟩
  have hDs : DV.size = 32 := by rw [hDV]; simp [Lib.byteCells, hl]
  have HDi := Lib.hid (show (Try.prog.info? 26).map (·.size) = some DV.size by rw [hDs]; exact digInfo)
  have HD1 := Lib.hid (show DV.all (·.oneCell') = true by rw [hDV]; simpa using byteCells_one D)
  have Hzs := Lib.hid (show (Lib.byteCells zeros).toArray.size = DV.size by rw [hDs]; simp [Lib.byteCells, zeros])
  have HDV := Lib.hid hDV
  have HD := Lib.hid hD
  have H0 := Lib.hid h0
  have H1 := Lib.hid h1
  have Hl := Lib.hid hl
  clear hW1 hl h0 h1 hD hDV hDs
  have kc := fun (w : World) (C : Array Value) (n c : Nat) => Lib.run_convert_bytes_const (P := Try.prog) w 24 5 C n c Try.underlying24 Try.underlying5
  go_enter Try.func9, Try.ntmps9
  go_wp2_with fail
  change Calls _ _ _ (w.alloc (.cells #[.int .u8 97, .int .u8 98, .int .u8 99] 5 (3, 4))) _
  rw [← HW1.out]
  refine Calls.mono (sum_any [97, 98, 99] (some ⟨w.heap.size, 0, none⟩) 3 3 W1 rfl (hb0.more hW1s) (Nat.le_refl _) (by unfold maxLen; omega) (by omega)) ?_
  rintro e w2 ⟨rfl, hb2⟩
  rw [HD.out]
  unfold digV
  rw [← HDV.out]
  have n1 : Hid ((w2.alloc (.cells (Lib.byteCells zeros).toArray 26)).heap[w2.heap.size]? = some (.cells (Lib.byteCells zeros).toArray 26 (0, 0))) := heap_alloc_new w2 _
  have hA : Arr ((w2.alloc (.cells (Lib.byteCells zeros).toArray 26)).setRow w2.heap.size DV) w2.heap.size 26 (Lib.byteCells D) := by
    unfold Arr; rw [← HDV.out]; exact setRow_heap _ _ _ _ _ _ n1.out
  have c0 : ((w2.alloc (.cells (Lib.byteCells zeros).toArray 26)).setRow w2.heap.size DV).cell? ⟨w2.heap.size, 0, none⟩ = some (.int .u8 186) := by
    rw [hA.cell, byteCells_get (by rw [Hl.out]; omega), H0.out]; rfl
  have c1 : ((w2.alloc (.cells (Lib.byteCells zeros).toArray 26)).setRow w2.heap.size DV).cell? ⟨w2.heap.size, 1, none⟩ = some (.int .u8 120) := by
    rw [hA.cell, byteCells_get (by rw [Hl.out]; omega), H1.out]; rfl
  have hbf : Below w.heap.size w ((w2.alloc (.cells (Lib.byteCells zeros).toArray 26)).setRow w2.heap.size DV) := by
    have hs := hb2.size
    have h1 : Only (fun k => w2.heap.size ≤ k) w2 _ := ((Only.refl (fun k => w2.heap.size ≤ k) w2).alloc (.cells (Lib.byteCells zeros).toArray 26)).setRow (g := w2.heap.size) (.inl (Nat.le_refl _)) DV
    exact (hW1b.trans (hb2.mono (by omega))).trans (h1.below (by omega) (fun k hk => by omega))
  obtain ⟨W3, hW3⟩ : ∃ W3, W3 = (w2.alloc (.cells (Lib.byteCells zeros).toArray 26)).setRow w2.heap.size DV := ⟨_, rfl⟩
  rw [← hW3] at c0 c1 hbf
  have HW3 := Lib.hid hW3
  clear hA hW3
  go_wp2_with (refine wpList_store_row rfl _ _ _ rfl w2.heap.size DV rfl rfl 26 _ n1.out HDi.out Hzs.out HD1.out ?_
               change wpList _ _ _ _ _ ((w2.alloc (.cells (Lib.byteCells zeros).toArray 26)).setRow w2.heap.size DV)
               rw [← HW3.out])
  go_ret
  exact ⟨rfl, hbf⟩

end Go.Proofs.Ytkpgbgiamekhaab

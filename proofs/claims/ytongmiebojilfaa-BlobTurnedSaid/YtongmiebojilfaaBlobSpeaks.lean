/-
  The document's example of blob.
-/
import Derived.Test.YtongmiebojilfaaBlobGot
import Derived.Test.YtongmiebojilfaaDskBase
import Derived.Lib.SlBytesConst
namespace Go.Proofs.Ytongmiebojilfaa
open Go.RowKit
set_option linter.unusedVariables false
set_option linter.unusedSimpArgs false

theorem Only.upB {F : Nat → Prop} {B : Nat} {w0 w w' : World} (h : Below B w0 w) (hO : Only F w w') (hF : ∀ b, F b → B ≤ b) (hB : B ≤ w0.heap.size) : Below B w0 w' := h.trans (hO.below (Nat.le_trans hB h.size) hF)
theorem Bs.newB (w : World) (l : List UInt8) (T : TypeId) (cs : Array Value) (fr : Nat × Nat) (h : cs = (Lib.byteCells l).toArray) : Bs (w.alloc (.cells cs T fr)) (w.heap.size + 1) (some ⟨w.heap.size, 0, none⟩) l := fun _ => by
  refine ⟨w.heap.size, 0, rfl, by omega, fun j hj => ?_⟩
  rw [cell_of_row (w.alloc (.cells cs T fr)) w.heap.size (0 + j) cs T fr (heap_alloc_new w _), h]
  simpa using byteCells_get hj
theorem Arr.bs1 {w : World} {g : Nat} {T : TypeId} {x : UInt8} {n : Nat} (hn : ((x.toNat : Nat) : Int) = (n : Int)) (h : Arr w g T [.int .u8 (n : Nat)]) : Bs w w.heap.size (some ⟨g, 0, none⟩) [x] := Arr.bsB (T := T) (by
  unfold Arr at h ⊢
  rw [h]
  simp [Lib.byteCells, ← hn])
def sp9 : List (List UInt8) := List.replicate 9 zero64
theorem sp9_64 : ∀ s ∈ sp9, s.length = 64 := fun s hs => by rw [List.eq_of_mem_replicate hs]; rfl
theorem sp9_len : sp9.length = 9 := rfl

set_option maxHeartbeats 16000000 in
set_option maxRecDepth 100000 in
theorem bspeaks_true (w : World) : Calls Try.prog 8 #[] w fun e w' => e = .returned (.bool true) ∧ Below w.heap.size w w' := by
  obtain ⟨DL, hDL⟩ : ∃ l, l = refC (blobDig [120]) (2 : Nat) (1 : Nat) := ⟨_, rfl⟩
  have HDi := Lib.hid (show (Try.prog.info? 36).map (·.size) = some DL.toArray.size by rw [List.size_toArray, hDL, refC_length (blobDig_length _)]; exact refSize)
  have HDs := Lib.hid (show refZ.toArray.size = DL.toArray.size by rw [List.size_toArray, List.size_toArray, hDL, refC_length (blobDig_length _)]; rfl)
  have HD1 := Lib.hid (show DL.toArray.all (·.oneCell') = true by rw [hDL]; exact all_oneCell_toArray (refC_cell _ _ _))
  have HDL := Lib.hid hDL
  clear hDL
  have kc := fun (w : World) (C : Array Value) (n c : Nat) => Lib.run_convert_bytes_const (P := Try.prog) w 22 5 C n c Try.underlying22 Try.underlying5
  go_enter Try.func8, Try.ntmps8
  go_wp2_with fail
  refine Calls.mono (show Calls Try.prog 9 #[.int .i64 9] w (NewPost 9 w) from new_yes 9 w (by omega) (by omega)) ?_
  rintro e w1 ⟨k, rfl, hD1, hB1⟩
  obtain ⟨F1, hF1⟩ : ∃ F, F = newF (fun _ => False) w w1 := ⟨_, rfl⟩
  have hF1b : ∀ b, F1 b → w.heap.size ≤ b := fun b h => by rw [hF1] at h; exact h.elim (fun h => h.elim) (fun h => h.1)
  rw [← hF1] at hD1
  clear hF1
  go_wp2_with fail
  change Calls _ _ _ (w1.alloc (.cells #[.int .u8 120] 5 (1, 2))) _
  obtain ⟨w5, hw5⟩ : ∃ x, x = w1.alloc (.cells #[.int .u8 120] 5 (1, 2)) := ⟨_, rfl⟩
  have hb5 : Below w1.heap.size w1 w5 := by rw [hw5]; exact (Below.refl _ _).alloc (Nat.le_refl _) _
  have hg5 : Bs w5 w5.heap.size (some ⟨w1.heap.size, 0, none⟩) [120] := by rw [hw5]; exact (Bs.newB w1 [120] 5 _ (1, 2) rfl).more (Nat.le_of_eq (by simp))
  rw [← hw5]
  clear hw5
  have hA : ∀ p : Addr, some (⟨w1.heap.size, 0, none⟩ : Addr) = some p → ¬ F1 p.block := fun p e h => by
    injection e with e
    subst e
    exact Nat.lt_irrefl _ (hD1.Flt _ h)
  have hD5 := hD1.below hb5
  have hB5 := hB1.trans (hb5.mono hB1.size)
  refine Calls.mono (show Calls Try.prog 12 #[.pointer (some ⟨k, 0, none⟩), .int .i64 2, .slice (some ⟨w1.heap.size, 0, none⟩) 1 1] w5 _ from bwrite_yes F1 k 9 2 sp9 sp9 [] [120] DL (some ⟨w1.heap.size, 0, none⟩) 1 1 w5 hD5 rfl (by omega) (by omega) (by unfold maxLen; omega) hg5 (fun _ => hA) (by decide) (by decide) HDL.out) ?_
  rintro e w6 ⟨rfl, F2, hD6, hF2, hO6⟩
  have hF2b : ∀ b, F2 b → w.heap.size ≤ b := fun b h => by rcases hF2 b h with h1 | h1; exact hF1b b h1; exact Nat.le_trans hB5.size h1
  have hB6 := Only.upB hB5 hO6 hF1b (Nat.le_refl _)
  clear hD5 hA hg5 hD1 hb5 hO6 hB5
  go_wp2_with (first
    | (change wpList _ _ _ _ _ (w6.alloc (.cells refZ.toArray 36)); refine wpList_store_row rfl _ _ _ rfl w6.heap.size DL.toArray rfl rfl 36 refZ.toArray (heap_alloc_new w6 _) HDi.out HDs.out HD1.out ?_; obtain ⟨w7, hw7⟩ : ∃ x, x = (w6.alloc (.cells refZ.toArray 36)).setRow w6.heap.size DL.toArray := ⟨_, rfl⟩; rw [← hw7]; obtain ⟨hP7, hb7⟩ := alloc_rowD w6 36 refZ.toArray DL; rw [← hw7] at hP7 hb7; clear hw7)
    | (refine wpList_load_row rfl _ _ rfl w6.heap.size rfl 36 DL.toArray (0, 0) _ hP7 Try.underlying36 rfl HDi.out ?_))
  have hD7 := hD6.below hb7
  have hB7 := hB6.trans (hb7.mono hB6.size)
  have hgf : gotF (putF sp9 2 [120] (secsF 1)) 2 1 (secsF 1) = [120] := by
    have h := put_get (S := sp9) (a := 2) [120] (by decide)
    rw [← gotF_all (putF_64 [120] sp9_64) (by rw [putF_length]; decide)] at h
    exact h
  have hok : decide (blobDig (gotF (putF sp9 2 [120] (secsF 1)) 2 1 (secsF 1)) = blobDig [120]) = true := by rw [hgf]; simp
  refine Calls.mono (bread_got F2 k 9 2 _ _ _ (blobDig [120]) DL 1 w7 hD7 true (blobDig_length _) (by omega) (by decide) HDL.out hok) ?_
  rintro e w8 ⟨h8, _, hb8⟩
  obtain ⟨g, rfl, hA8, hg8⟩ := h8 rfl
  rw [hgf] at hA8
  have hst : (convert 22 9 (.slice (some ⟨g, 0, none⟩) 1 1)).run Try.prog w8 = .ok (.string ⟨#[120]⟩) w8 := str_of_bs 1 (Arr.bsB hA8) rfl 22 9 5 Try.underlying22 Try.underlying5 Try.underlying9
  have hlast : Below w.heap.size w w8 := hB7.trans (hb8.mono hB7.size)
  clear hD6 hD7 hB6 hB7 hb7 hb8 hgf hok hA8 h8 hP7
  go_wp2_with fail
  go_ret
  exact ⟨rfl, hlast⟩

end Go.Proofs.Ytongmiebojilfaa

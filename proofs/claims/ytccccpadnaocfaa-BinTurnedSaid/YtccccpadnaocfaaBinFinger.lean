/-
  Fingerprints.
-/
import Derived.Test.YtccccpadnaocfaaBinMath
namespace Go.Proofs.Ytccccpadnaocfaa
open Go.RowKit
set_option linter.unusedVariables false
set_option linter.unusedSimpArgs false

/-- A row of one row of bytes, new. -/
theorem rows_oneN {w : World} {B : Nat} {A : Option Addr} {l : List UInt8} {n c : Nat} (T : TypeId) (hn : l.length = n) (hc : n ≤ c) (hm : c ≤ maxLen) (h : Bs w B A l) (hB : B ≤ w.heap.size) :
    RowsAt (w.alloc (.cells #[.slice A n c] T)) (w.heap.size + 1) (some ⟨w.heap.size, 0, none⟩) [l] := fun _ => by
  subst hn
  have ha := Arr.new w T [.slice A l.length c]
  have hb : Below w.heap.size w (w.alloc (.cells #[.slice A l.length c] T)) := (Below.refl _ w).alloc (Nat.le_refl _) _
  refine ⟨w.heap.size, 0, rfl, by omega, fun i hi => ?_⟩
  have hi2 : i = 0 := by simp at hi; omega
  subst hi2
  exact ⟨A, c, ha.cell 0, hc, hm, (h.below hb hB).more (by omega)⟩

set_option maxHeartbeats 8000000 in
set_option maxRecDepth 100000 in
theorem finger_at (b : List UInt8) (hb : b.length = 48) (BL SL : List Value) (hBL : BL = Lib.byteCells b) (hSL : SL = Lib.byteCells (fingF b)) (w : World) :
    Calls Try.prog 13 #[.agg BL.toArray] w fun e w' => e = .returned (.agg SL.toArray) ∧ Below w.heap.size w w' := by
  obtain ⟨W, hW⟩ : ∃ W, W = (w.alloc (.cells BL.toArray 40)).alloc (.cells (Lib.byteCells zeros).toArray 29) := ⟨_, rfl⟩
  have hX : Arr W w.heap.size 40 (Lib.byteCells b) := by rw [hW, ← hBL]; exact (Arr.new w _ BL).alloc _
  have hR : Arr W (w.heap.size + 1) 29 (Lib.byteCells zeros) := by
    have h1 := Arr.new (w.alloc (.cells BL.toArray 40)) 29 (Lib.byteCells zeros)
    rw [show (w.alloc (.cells BL.toArray 40)).heap.size = w.heap.size + 1 from by simp] at h1
    rw [hW]; exact h1
  have hWs : W.heap.size = w.heap.size + 2 := by rw [hW]; simp
  have hB : Below w.heap.size w W := by rw [hW]; exact ((Below.refl _ w).alloc (Nat.le_refl _) _).alloc (by simp) _
  obtain ⟨g, hg⟩ : ∃ g, g = w.heap.size + 1 := ⟨_, rfl⟩
  have hgw : w.heap.size ≤ g := by omega
  obtain ⟨V, hV⟩ : ∃ V, V = W.alloc (.cells #[.slice (some ⟨w.heap.size, 0, none⟩) 48 48] 49) := ⟨_, rfl⟩
  have hbV : Below W.heap.size W V := by rw [hV]; exact (Below.refl _ W).alloc (Nat.le_refl _) _
  have hrow : RowsAt V V.heap.size (some ⟨W.heap.size, 0, none⟩) [b] := by
    have h1 := rows_oneN (w := W) 49 hb (Nat.le_refl 48) (by unfold maxLen; omega) hX.bs (Nat.le_refl _)
    rw [hV]; exact h1.more (Nat.le_of_eq (by simp))
  have hbl : BL.length = 48 := by rw [hBL, Lib.byteCells_length, hb]
  have hsl : SL.length = 32 := by rw [hSL, Lib.byteCells_length, fingF_length]
  have hi32 : (Try.prog.info? 29).map (·.size) = some SL.length := by rw [hsl]; exact digInfo
  have HI := Lib.hid (show (Try.prog.info? 29).map (·.size) = some SL.toArray.size by rw [List.size_toArray]; exact hi32)
  have HS := Lib.hid (show (Lib.byteCells zeros).toArray.size = SL.toArray.size by rw [List.size_toArray, List.size_toArray, hsl]; rfl)
  have H1 := Lib.hid (show SL.toArray.all (·.oneCell') = true by rw [hSL]; exact dig_one _)
  have hlim := fing_lim hb
  rw [← hg] at hR
  have HW := Lib.hid hW
  have HV := Lib.hid hV
  have HSL := Lib.hid hSL
  have HWs := Lib.hid hWs
  have Hg := Lib.hid hg
  clear hW hV hSL hBL hWs hg hX
  go_enter Try.func13, Try.ntmps13
  go_wp2_with fail
  go_at_call 34
  change Calls _ _ #[_, .slice (some ⟨w.heap.size + 2, 0, none⟩) 1 1] (((w.alloc (.cells BL.toArray 40)).alloc (.cells (Lib.byteCells zeros).toArray 29)).alloc (.cells #[.slice (some ⟨w.heap.size, 0, none⟩) 48 48] 49)) _
  rw [← HWs.out, ← HW.out, ← HV.out]
  refine Calls.mono (tagged_at 6 6 [b] SL (some ⟨W.heap.size, 0, none⟩) 1 1 V rfl HSL.out rfl (by omega) hrow hlim) ?_
  rintro e w5 ⟨rfl, hb5⟩
  have hR5 : Arr w5 g 29 (Lib.byteCells zeros) := (hR.below hbV hR.lt).below hb5 (by have := hR.lt; have := hbV.size; omega)
  have h5 : Below w.heap.size w w5 := (hB.trans (hbV.mono hB.size)).trans (hb5.mono (Nat.le_trans hB.size hbV.size))
  have H0 : Hid (w5.heap[g]? = some (.cells (Lib.byteCells zeros).toArray 29 (0, 0))) := Lib.hid hR5
  have hfin : Below w.heap.size w (w5.setRow g SL.toArray) := h5.trans (((Only.refl (fun k => k = g) w5).setRow (.inl rfl) SL.toArray).below h5.size (by rintro k rfl; exact hgw))
  have hset : Arr (w5.setRow g SL.toArray) g 29 SL := hR5.setRow SL
  rw [← Hg.out]
  clear hR hB hbV hrow hlim hb5 hR5 h5 Hg
  go_wp2_with (first
    | (refine wpList_store_row rfl _ _ _ rfl g SL.toArray rfl rfl 29 (Lib.byteCells zeros).toArray H0.out HI.out HS.out H1.out ?_))
  exact bodyPost_ret (v := .agg SL.toArray) (results_cell_row (by rfl) _ _ g 29 SL.toArray (0, 0) _ (by rfl) hset Try.underlying29 rfl HI.out) rfl ⟨rfl, hfin⟩


end Go.Proofs.Ytccccpadnaocfaa

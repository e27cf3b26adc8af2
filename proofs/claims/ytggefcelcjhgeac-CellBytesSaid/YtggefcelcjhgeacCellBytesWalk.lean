/-
  The walk of CellBytes.
-/
import Derived.Test.YtggefcelcjhgeacCellLoad
import Derived.Test.YtggefcelcjhgeacCellSpeaks
import Derived.Test.YtggefcelcjhgeacArrArg
namespace Go.Proofs.Ytggefcelcjhgeac
open Go.RowKit
set_option linter.unusedVariables false

theorem eqv_true {T : TypeId} {n : Nat} (hT : Try.prog.underlying T = some (.array n 5)) (X : List UInt8) (hX : X.length = n) (w : World) : (Op.equalIn 10000 T (.agg (Lib.byteCells X).toArray) (.agg (Lib.byteCells X).toArray)).run Try.prog w = .ok true w := by
  have hi : Try.prog.info? 5 = some ((Try.prog.info? 5).get (by kernel_rfl)) := (Option.some_get _).symm
  have h1 := run_equalIn_array (P := Try.prog) (w := w) 9999 (Lib.byteCells X).toArray (Lib.byteCells X).toArray hT hi
  have hc : Try.prog.cellsOf 5 = 1 := by kernel_rfl
  rw [hc, eqItems_bytes 9998 X X w (List.range n) (fun i hi => by have := List.mem_range.1 hi; omega), all_getD hX hX, decide_eq_true rfl] at h1
  exact h1

set_option maxHeartbeats 8000000 in
set_option maxRecDepth 100000 in
theorem cellBytes_walk (l : List UInt8) (w : World) (hl : l.length = 40) :
    Calls Try.prog 6 #[digV l] w fun e w' => e = .returned (.bool true) ∧ Below w.heap.size w w' := by
  have hv0 : digV l = .agg (Lib.byteCells l).toArray := rfl
  have heq0 := eqv_true Try.underlying51 l hl
  have hgt : Try.prog.eqGuardType Try.prog.depth 51 = false := by kernel_rfl
  have hbk := cellF_back hl
  have hun := un8_lt 8 (l.take 8) (by rw [List.length_take]; omega)
  have hdl : (l.drop 8).length = 32 := by rw [List.length_drop]; omega
  obtain ⟨n, hn⟩ : ∃ n, un8 (l.take 8) = n := ⟨_, rfl⟩
  obtain ⟨d, hd⟩ : ∃ d, l.drop 8 = d := ⟨_, rfl⟩
  rw [hn] at hbk hun
  rw [hd] at hbk hdl
  obtain ⟨VL, hVL⟩ : ∃ V, V = Lib.byteCells l := ⟨_, rfl⟩
  obtain ⟨DL, hDL⟩ : ∃ V, V = Lib.byteCells d := ⟨_, rfl⟩
  rw [← hVL] at heq0 hv0
  rw [hv0]
  have Hv0 := Lib.hid hv0
  have Hd := Lib.hid hd
  have Hn := Lib.hid hn
  have Hbk := Lib.hid hbk
  have HVL := Lib.hid hVL
  have HDL := Lib.hid hDL
  have Hvd := Lib.hid (show digV d = .agg DL.toArray by rw [hDL]; rfl)
  have HDi := Lib.hid (show (Try.prog.info? 44).map (·.size) = some DL.toArray.size by rw [hDL, dig_size hdl]; exact digInfo)
  have HDs := Lib.hid (show (Lib.byteCells zeros).toArray.size = DL.toArray.size by rw [hDL, dig_size hdl]; rfl)
  have HD1 := Lib.hid (show DL.toArray.all (·.oneCell') = true by rw [hDL]; exact dig_one d)
  have HVi := Lib.hid (show (Try.prog.info? 51).map (·.size) = some VL.toArray.size by rw [hVL, dig_size hl]; exact fortyInfo)
  have H0 := Lib.hid (heap_alloc_new w (.cells VL.toArray 51))
  have hba : Below w.heap.size w (w.alloc (.cells VL.toArray 51)) := (Below.refl _ w).alloc (Nat.le_refl _) _
  have hsa : (w.alloc (.cells VL.toArray 51)).heap.size = w.heap.size + 1 := by simp
  clear hv0 hd hn hbk hVL hDL
  go_enter Try.func6, Try.ntmps6
  go_wp2_with (first
    | (go_at_call 17; refine Calls.mono (cellSpeaks_true _) ?_; rintro e w1 ⟨rfl, hb1⟩; have hA1 := Lib.hid ((hb1.block w.heap.size (by rw [hsa]; omega)).trans H0.out))
    | (refine wpList_load_row rfl _ _ rfl w.heap.size rfl 51 VL.toArray (0, 0) _ hA1.out Try.underlying51 rfl HVi.out ?_)
    | (go_at_call 20; rw [← Hv0.out]; refine Calls.mono (load_any l w1 hl) ?_; rintro e w2 ⟨g, rfl, hg, hAg, hb2⟩; rw [Hv0.out]; rw [Hn.out, Hd.out] at hAg)
    | (go_at_call 19; refine Calls.mono (get_any g n d w2 hdl hAg) ?_; rintro e w3 ⟨rfl, hb3⟩; rw [Hvd.out])
    | (change wpList _ _ _ _ _ (w3.alloc (.cells (Lib.byteCells zeros).toArray 44))
       refine wpList_store_row rfl _ _ _ rfl w3.heap.size DL.toArray rfl rfl 44 (Lib.byteCells zeros).toArray (heap_alloc_new w3 _) HDi.out HDs.out HD1.out ?_
       obtain ⟨w4, hw4⟩ : ∃ x, x = (w3.alloc (.cells (Lib.byteCells zeros).toArray 44)).setRow w3.heap.size DL.toArray := ⟨_, rfl⟩
       rw [← hw4]))
  have hR4 : Arr w4 w3.heap.size 44 DL := by rw [hw4]; exact (Arr.new w3 _ _).setRow DL
  have hb4 : Below w3.heap.size w3 w4 := by
    have h1 : Below w3.heap.size w3 (w3.alloc (.cells (Lib.byteCells zeros).toArray 44)) := (Below.refl _ w3).alloc (Nat.le_refl _) _
    rw [hw4]
    exact h1.trans (((Only.refl (fun k => k = w3.heap.size) _).setRow (.inl rfl) _).below h1.size (by rintro k rfl; omega))
  have hz1 := hb1.size
  have hz2 := hb2.size
  have hz3 := hb3.size
  have hz4 := hb4.size
  rw [hsa] at hz1
  have hA1' : Arr w1 w.heap.size 51 VL := hA1.out
  have hA4 : Arr w4 w.heap.size 51 VL := ((hA1'.below hb2 (by omega)).below hb3 (by omega)).below hb4 (by omega)
  have hG4 : Arr w4 g 73 (cellC n d) := (hAg.below hb3 (by have := hAg.lt; omega)).below hb4 (by have := hAg.lt; omega)
  have hB4 : Below w.heap.size w w4 := (((hba.trans (hb1.mono (by omega))).trans (hb2.mono (by omega))).trans (hb3.mono (by omega))).trans (hb4.mono (by omega))
  clear hw4 hA1 hA1' hAg hb1 hb2 hb3 hb4 hba hsa H0
  obtain ⟨b, hb⟩ : ∃ b, b = w.heap.size := ⟨_, rfl⟩
  obtain ⟨r, hr⟩ : ∃ r, r = w3.heap.size := ⟨_, rfl⟩
  rw [← hb] at hA4 ⊢
  rw [← hr] at hR4 ⊢
  have hr1 := hA4.range
  have hr2 := hR4.range
  have hu := Try.underlying51
  have hu2 := Try.underlying44
  have hi40 : (Try.prog.info? 51).map (·.size) = some VL.length := HVi.out
  have hi32 : (Try.prog.info? 44).map (·.size) = some DL.length := HDi.out
  have HG4 := Lib.hid hG4
  have HBl := Lib.hid hB4
  have Hret := Lib.hid (show digV (cellF n d) = .agg VL.toArray by rw [Hbk.out]; exact Hv0.out)
  clear hG4 hB4 hb hr Hv0 Hd Hn Hbk
  refine wp_region_held_drew (S := fun w' => w'.rangeAt b 0 VL ∧ w'.rangeAt r 0 DL) (by kernel_rfl) ⟨hr1, hr2⟩ (fun hHeld => ?_)
  refine wpAnyH_take (i := 0) (v := .pointer (some ⟨g, 0, none⟩)) rfl (by kernel_rfl) (by kernel_rfl) (by kernel_rfl) (fun _ _ _ h => h) (Or.inl ⟨by rfl, fun _ _ => by rfl⟩) (by assumption) ?_
  refine wpAnyH_take (i := 2) rfl (by kernel_rfl) (by kernel_rfl) (by kernel_rfl) (fun _ _ _ h => h) (yieldsIf_load_mid (by rfl) 51 (.tmp 1) rfl b 0 rfl VL _ (fun _ h => h.1) hu rfl hi40) (by assumption) ?_
  refine wpAnyH_ready (rs := [1]) (by kernel_rfl) (by simp) ?_
  refine AllReadyH.cons rfl (fun K hK => ?_) AllReadyH.nil
  go_simp
  go_at_call 21
  refine Calls.mono (cbytes_any g n d w4.drew hun hdl HG4.out) ?_
  rintro e w5 ⟨rfl, hb5⟩
  rw [Hret.out]
  go_wp2_with fail
  refine hK.out _ _ ⟨((hA4.drewN 1).below hb5 (hA4.drewN 1).lt).range, ((hR4.drewN 1).below hb5 (hR4.drewN 1).lt).range⟩ (fun hHeld => ?_)
  clear hK K
  have hA5 := (hA4.drewN 1).below hb5 (hA4.drewN 1).lt
  have hR5 := (hR4.drewN 1).below hb5 (hR4.drewN 1).lt
  refine wpAnyH_take (i := 3) (v := .bool true) rfl (by kernel_rfl) (by kernel_rfl) (by kernel_rfl) (fun _ _ _ h => h) (Or.inl ⟨by rfl, fun _ _ => by go_simp⟩) (by assumption) ?_
  refine wpAnyH_take (i := 4) (v := .bool true) rfl (by kernel_rfl) (by kernel_rfl) (by kernel_rfl) (fun _ _ _ h => h) (Or.inl ⟨by rfl, fun _ _ => by rfl⟩) (by assumption) ?_
  refine wpAnyH_take (i := 5) (v := .int .u64 (n : Nat)) rfl (by kernel_rfl) (by kernel_rfl) (by kernel_rfl) (fun _ _ _ h => h) (Or.inl ⟨by rfl, fun _ _ => by rfl⟩) (by assumption) ?_
  refine wpAnyH_take (i := 6) rfl (by kernel_rfl) (by kernel_rfl) (by kernel_rfl) (fun _ _ _ h => h) (yieldsIf_load_mid (by rfl) 44 (.tmp 5) rfl r 0 rfl DL _ (fun _ h => h.2) hu2 rfl hi32) (by assumption) ?_
  refine wpAnyH_take (i := 9) rfl (by kernel_rfl) (by kernel_rfl) (by kernel_rfl) (fun _ _ _ h => h) (yieldsIf_load_mid (by rfl) 51 (.tmp 1) rfl b 0 rfl VL _ (fun _ h => h.1) hu rfl hi40) (by assumption) ?_
  refine wpAnyH_ready (rs := [7]) (by kernel_rfl) (by simp) ?_
  refine AllReadyH.cons rfl (fun K hK => ?_) AllReadyH.nil
  go_simp
  go_at_call 18
  rw [← Hvd.out]
  refine Calls.mono (new_any n d w5 hdl) ?_
  rintro e w6 ⟨g2, rfl, hg2, hAg2, hb6⟩
  go_wp2_with fail
  refine hK.out _ _ ⟨(hA5.below hb6 hA5.lt).range, (hR5.below hb6 hR5.lt).range⟩ (fun hHeld => ?_)
  clear hK K
  have hA6 := hA5.below hb6 hA5.lt
  have hR6 := hR5.below hb6 hR5.lt
  refine wpAnyH_ready (rs := [8]) (by kernel_rfl) (by simp) ?_
  refine AllReadyH.cons rfl (fun K hK => ?_) AllReadyH.nil
  go_simp
  go_at_call 21
  refine Calls.mono (cbytes_any g2 n d w6 hun hdl hAg2) ?_
  rintro e w7 ⟨rfl, hb7⟩
  rw [Hret.out]
  go_wp2_with fail
  refine hK.out _ _ ⟨(hA6.below hb7 hA6.lt).range, (hR6.below hb7 hR6.lt).range⟩ (fun hHeld => ?_)
  clear hK K
  refine wpAnyH_take (i := 10) (v := .bool true) rfl (by kernel_rfl) (by kernel_rfl) (by kernel_rfl) (fun _ _ _ h => h) (Or.inl ⟨by rfl, fun _ _ => by go_simp⟩) (by assumption) ?_
  refine wpAnyH_take (i := 11) (v := .bool true) rfl (by kernel_rfl) (by kernel_rfl) (by kernel_rfl) (fun _ _ _ h => h) (Or.inl ⟨by rfl, fun _ _ => by rfl⟩) (by assumption) ?_
  refine wpAnyH_take (i := 12) (v := .bool true) rfl (by kernel_rfl) (by kernel_rfl) (by kernel_rfl) (fun _ _ _ h => h) (Or.inl ⟨by rfl, fun _ _ => by rfl⟩) (by assumption) ?_
  refine wpAnyH_done (by kernel_rfl) ?_ _
  go_wp2_with fail
  have hz5 := hb5.size
  have hz6 := hb6.size
  have hz0 := HBl.out.size
  have hbd : Below w.heap.size w w4.drew := ⟨HBl.out.os, HBl.out.tape, HBl.out.output, HBl.out.size, HBl.out.block⟩
  have hz7 := hbd.size
  exact bodyPost_ret (v := .bool true) (by simp [results, Try.f6, Act.put]) rfl ⟨rfl, ((hbd.trans (hb5.mono hz7)).trans (hb6.mono (by omega))).trans (hb7.mono (by omega))⟩

end Go.Proofs.Ytggefcelcjhgeac

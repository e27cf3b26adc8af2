/-
  The walk of CellApart.
-/
import Derived.Test.YtggefcelcjhgeacCellAt
namespace Go.Proofs.Ytggefcelcjhgeac
open Go.RowKit
set_option linter.unusedVariables false
set_option linter.unusedSimpArgs false

set_option maxHeartbeats 40000000 in
set_option maxRecDepth 100000 in
theorem cellApart_walk (a : Nat) (ha : a < 18446744073709551616) (b : Nat) (hb : b < 18446744073709551616) (x y : List UInt8) (w : World) (hx : x.length = 32) (hy : y.length = 32) :
    Calls Try.prog 7 #[.int .u64 (a : Nat), .int .u64 (b : Nat), digV x, digV y] w fun e w' => e = .returned (.bool true) ∧ Below w.heap.size w w' := by
  unfold digV
  obtain ⟨XL, hXL⟩ : ∃ V, V = Lib.byteCells x := ⟨_, rfl⟩
  obtain ⟨YL, hYL⟩ : ∃ V, V = Lib.byteCells y := ⟨_, rfl⟩
  obtain ⟨CL, hCL⟩ : ∃ V, V = Lib.byteCells (cellF a x) := ⟨_, rfl⟩
  obtain ⟨DL, hDL⟩ : ∃ V, V = Lib.byteCells (cellF b y) := ⟨_, rfl⟩
  obtain ⟨EL, hEL⟩ : ∃ V, V = Lib.byteCells (cellF (a + 1) y) := ⟨_, rfl⟩
  have hcx := cellF_length (n := a) hx
  have hcy := cellF_length (n := b) hy
  have hce := cellF_length (n := a + 1) hy
  have hu := Try.underlying51
  have hu2 := Try.underlying44
  have heqCD := fun w => eqv_at hu (cellF a x) (cellF b y) hcx hcy CL DL hCL hDL w
  have heqCC := fun w => eqv_at hu (cellF a x) (cellF a x) hcx hcx CL CL hCL hCL w
  have heqEC := fun w => eqv_at hu (cellF (a + 1) y) (cellF a x) hce hcx EL CL hEL hCL w
  have heqXY := fun w => eqv_at hu2 x y hx hy XL YL hXL hYL w
  rw [decide_eq_true rfl] at heqCC
  have hgt := gt40
  have hgt2 := gt32
  have hi40 : (Try.prog.info? 51).map (·.size) = some CL.length := by rw [hCL, Lib.byteCells_length, hcx]; exact fortyInfo
  have hi32 : (Try.prog.info? 44).map (·.size) = some XL.length := by rw [hXL, Lib.byteCells_length, hx]; exact digInfo
  have hi32y : (Try.prog.info? 44).map (·.size) = some YL.length := by rw [hYL, Lib.byteCells_length, hy]; exact digInfo
  have HCs := Lib.hid (show (Lib.byteCells zeros40).toArray.size = CL.toArray.size by rw [hCL, dig_size hcx]; rfl)
  have HC1 := Lib.hid (show CL.toArray.all (·.oneCell') = true by rw [hCL]; exact dig_one _)
  have HX0 : Arr ((w.alloc (.cells XL.toArray 44)).alloc (.cells YL.toArray 44)) w.heap.size 44 XL := (Arr.new w _ XL).alloc _
  have HY0 : Arr ((w.alloc (.cells XL.toArray 44)).alloc (.cells YL.toArray 44)) (w.heap.size + 1) 44 YL := by
    have h1 := Arr.new (w.alloc (.cells XL.toArray 44)) 44 YL
    rwa [show (w.alloc (.cells XL.toArray 44)).heap.size = w.heap.size + 1 from by simp] at h1
  have hba : Below w.heap.size w ((w.alloc (.cells XL.toArray 44)).alloc (.cells YL.toArray 44)) := ((Below.refl _ w).alloc (Nat.le_refl _) _).alloc (by simp) _
  rw [← hXL, ← hYL]
  have HXL := Lib.hid hXL
  have HYL := Lib.hid hYL
  have HCL := Lib.hid hCL
  have HDL := Lib.hid hDL
  have HEL := Lib.hid hEL
  clear hXL hYL hCL hDL hEL hcx hcy hce
  obtain ⟨g6, hg6⟩ : ∃ g, g = w.heap.size := ⟨_, rfl⟩
  have Hg6 := Lib.hid hg6
  go_enter Try.func7, Try.ntmps7
  go_wp2_with (first
    | (go_at_call 17; refine Calls.mono (cellSpeaks_true _) ?_; rintro e w1 ⟨rfl, hb1⟩; have hX1 := HX0.up hb1; have hY1 := HY0.up hb1; have hB1 := hba.trans (hb1.mono hba.size)))
  clear HX0 HY0 hba hb1 hg6
  obtain ⟨g7, hg7⟩ : ∃ g, g = w.heap.size + 1 := ⟨_, rfl⟩
  rw [← hg7] at hY1 ⊢
  rw [← Hg6.out] at hX1 ⊢
  have h67 : g6 < g7 := by rw [hg7, Hg6.out]; omega
  clear hg7
  refine wp_region_held_drew (S := fun w' => w'.rangeAt g6 0 XL ∧ w'.rangeAt g7 0 YL) (by kernel_rfl) ⟨hX1.range, hY1.range⟩ (fun hHeld => ?_)
  refine anyH_take (i := 0) (v := .int .u64 (a : Nat)) (some 15) rfl rfl (by kernel_rfl) (by kernel_rfl) (by kernel_rfl) (fun _ _ _ h => h) (Or.inl ⟨by rfl, fun _ _ => by rfl⟩) (by assumption) ?_
  simp only [Act.put, List.setIfInBounds_toArray, List.set_cons_zero, List.set_cons_succ]
  refine anyH_take (i := 1) (some 16) rfl rfl (by kernel_rfl) (by kernel_rfl) (by kernel_rfl) (fun _ _ _ h => h) (yieldsIf_load_mid (by rfl) 44 (.tmp 6) rfl g6 0 rfl XL _ (fun _ h => h.1) hu2 rfl hi32) (by assumption) ?_
  simp only [Act.put, List.setIfInBounds_toArray, List.set_cons_zero, List.set_cons_succ]
  refine anyH_take (i := 3) (v := .int .u64 (b : Nat)) (some 18) rfl rfl (by kernel_rfl) (by kernel_rfl) (by kernel_rfl) (fun _ _ _ h => h) (Or.inl ⟨by rfl, fun _ _ => by rfl⟩) (by assumption) ?_
  simp only [Act.put, List.setIfInBounds_toArray, List.set_cons_zero, List.set_cons_succ]
  refine anyH_take (i := 4) (some 19) rfl rfl (by kernel_rfl) (by kernel_rfl) (by kernel_rfl) (fun _ _ _ h => h) (yieldsIf_load_mid (by rfl) 44 (.tmp 7) rfl g7 0 rfl YL _ (fun _ h => h.2) hu2 rfl hi32y) (by assumption) ?_
  simp only [Act.put, List.setIfInBounds_toArray, List.set_cons_zero, List.set_cons_succ]
  refine wpAnyH_ready (rs := [2]) (by kernel_rfl) (by simp) ?_
  refine AllReadyH.cons rfl (fun K hK => ?_) AllReadyH.nil
  go_simp
  go_at_call 18
  refine Calls.mono (new_at a x XL w1.drew hx HXL.out) ?_
  rintro e w2 ⟨gc, rfl, hgc, hC2, hb2⟩
  have hX2 := (hX1.drewN 1).up hb2
  have hY2 := (hY1.drewN 1).up hb2
  have hz2 := hb2.size
  go_wp2_with fail
  refine hK.out _ _ ⟨hX2.range, hY2.range⟩ (fun hHeld => ?_)
  clear hK K
  try simp only [Act.put, List.setIfInBounds_toArray, List.set_cons_zero, List.set_cons_succ]
  refine wpAnyH_ready (rs := [5]) (by kernel_rfl) (by simp) ?_
  refine AllReadyH.cons rfl (fun K hK => ?_) AllReadyH.nil
  go_simp
  go_at_call 18
  refine Calls.mono (new_at b y YL w2 hy HYL.out) ?_
  rintro e w3 ⟨gd, rfl, hgd, hD3, hb3⟩
  have hX3 := hX2.up hb3
  have hY3 := hY2.up hb3
  have hC3 := hC2.up hb3
  go_wp2_with fail
  refine hK.out _ _ ⟨hX3.range, hY3.range⟩ (fun hHeld => ?_)
  clear hK K
  try simp only [Act.put, List.setIfInBounds_toArray, List.set_cons_zero, List.set_cons_succ]
  refine anyH_take (i := 6) (v := .pointer (some ⟨gc, 0, none⟩)) (some 9) rfl rfl (by kernel_rfl) (by kernel_rfl) (by kernel_rfl) (fun _ _ _ h => h) (Or.inl ⟨by rfl, fun _ _ => by rfl⟩) (by assumption) ?_
  simp only [Act.put, List.setIfInBounds_toArray, List.set_cons_zero, List.set_cons_succ]
  refine anyH_take (i := 7) (v := .pointer (some ⟨gd, 0, none⟩)) (some 10) rfl rfl (by kernel_rfl) (by kernel_rfl) (by kernel_rfl) (fun _ _ _ h => h) (Or.inl ⟨by rfl, fun _ _ => by rfl⟩) (by assumption) ?_
  simp only [Act.put, List.setIfInBounds_toArray, List.set_cons_zero, List.set_cons_succ]
  refine wpAnyH_done (by kernel_rfl) ?_ _
  have hB3 : Below w.heap.size w w3 := by
    have h1 : Below w.heap.size w w1.drew := ⟨hB1.os, hB1.tape, hB1.output, hB1.size, hB1.block⟩
    have h2 := h1.trans (hb2.mono h1.size)
    exact h2.trans (hb3.mono h2.size)
  have hgc1 : g7 < gc := Nat.lt_of_lt_of_le hY1.lt hgc
  have hgd1 : gc < gd := Nat.lt_of_lt_of_le hC2.lt hgd
  clear hX1 hY1 hX2 hY2 hC2 hb2 hb3 hz2 hB1 hgc hgd hHeld
  clear hHeld
  go_wp2_with fail
  by_cases hab : a = b
  · subst hab
    obtain ⟨q, hq⟩ : ∃ q, decide (x = y) = q := ⟨_, rfl⟩
    rw [hq] at heqXY
    rw [show decide (cellF a x = cellF a y) = q from by rw [← hq]; exact decide_eq_decide.2 ⟨fun e => ((cellF_inj ha ha).1 e).2, fun e => by rw [e]⟩] at heqCD
    clear hq
    refine wp_region_held_drew (S := fun w' => w'.rangeAt g6 0 XL ∧ w'.rangeAt g7 0 YL) (by kernel_rfl) ⟨hX3.range, hY3.range⟩ (fun hHeld => ?_)
    refine anyH_take (i := 0) (v := .pointer (some ⟨gc, 0, none⟩)) (some 21) rfl rfl (by kernel_rfl) (by kernel_rfl) (by kernel_rfl) (fun _ _ _ h => h) (Or.inl ⟨by rfl, fun _ _ => by rfl⟩) (by assumption) ?_
    simp only [Act.put, List.setIfInBounds_toArray, List.set_cons_zero, List.set_cons_succ]
    refine anyH_take (i := 2) (v := .pointer (some ⟨gd, 0, none⟩)) (some 23) rfl rfl (by kernel_rfl) (by kernel_rfl) (by kernel_rfl) (fun _ _ _ h => h) (Or.inl ⟨by rfl, fun _ _ => by rfl⟩) (by assumption) ?_
    simp only [Act.put, List.setIfInBounds_toArray, List.set_cons_zero, List.set_cons_succ]
    refine anyH_take (i := 5) (v := .int .u64 (a : Nat)) (some 26) rfl rfl (by kernel_rfl) (by kernel_rfl) (by kernel_rfl) (fun _ _ _ h => h) (Or.inl ⟨by rfl, fun _ _ => by rfl⟩) (by assumption) ?_
    simp only [Act.put, List.setIfInBounds_toArray, List.set_cons_zero, List.set_cons_succ]
    refine anyH_take (i := 6) (v := .int .u64 (a : Nat)) (some 27) rfl rfl (by kernel_rfl) (by kernel_rfl) (by kernel_rfl) (fun _ _ _ h => h) (Or.inl ⟨by rfl, fun _ _ => by rfl⟩) (by assumption) ?_
    simp only [Act.put, List.setIfInBounds_toArray, List.set_cons_zero, List.set_cons_succ]
    refine anyH_take (i := 7) (v := .bool true) (some 28) rfl rfl (by kernel_rfl) (by kernel_rfl) (by kernel_rfl) (fun _ _ _ h => h) (Or.inl ⟨by rfl, fun _ _ => by go_simp⟩) (by assumption) ?_
    simp only [Act.put, List.setIfInBounds_toArray, List.set_cons_zero, List.set_cons_succ]
    refine wpAnyH_ready (rs := [1]) (by kernel_rfl) (by simp) ?_
    refine AllReadyH.cons rfl (fun K hK => ?_) AllReadyH.nil
    go_simp
    go_at_call 21
    refine Calls.mono (cbytes_at gc a x CL w3.drew ha hx HCL.out (hC3.drewN 1)) ?_
    rintro e w4 ⟨rfl, hb4⟩
    have hX4 := (hX3.drewN 1).up hb4
    have hY4 := (hY3.drewN 1).up hb4
    have hC4 := (hC3.drewN 1).up hb4
    have hD4 := (hD3.drewN 1).up hb4
    go_wp2_with fail
    refine hK.out _ _ ⟨hX4.range, hY4.range⟩ (fun hHeld => ?_)
    clear hK K
    try simp only [Act.put, List.setIfInBounds_toArray, List.set_cons_zero, List.set_cons_succ]
    refine wpAnyH_ready (rs := [3]) (by kernel_rfl) (by simp) ?_
    refine AllReadyH.cons rfl (fun K hK => ?_) AllReadyH.nil
    go_simp
    go_at_call 21
    refine Calls.mono (cbytes_at gd a y DL w4 ha hy HDL.out hD4) ?_
    rintro e w5 ⟨rfl, hb5⟩
    have hX5 := hX4.up hb5
    have hY5 := hY4.up hb5
    have hC5 := hC4.up hb5
    have hD5 := hD4.up hb5
    go_wp2_with fail
    refine hK.out _ _ ⟨hX5.range, hY5.range⟩ (fun hHeld => ?_)
    clear hK K
    try simp only [Act.put, List.setIfInBounds_toArray, List.set_cons_zero, List.set_cons_succ]
    refine anyH_take (i := 4) (v := .bool q) (some 25) rfl rfl (by kernel_rfl) (by kernel_rfl) (by kernel_rfl) (fun _ _ _ h => h) (Or.inl ⟨by rfl, fun _ _ => by go_simp⟩) (by assumption) ?_
    simp only [Act.put, List.setIfInBounds_toArray, List.set_cons_zero, List.set_cons_succ]
    refine anyH_take (i := 8) (v := .bool true) (some 29) rfl rfl (by kernel_rfl) (by kernel_rfl) (by kernel_rfl) (fun _ _ _ h => h) (Or.inl ⟨by rfl, fun _ _ => by rfl⟩) (by assumption) ?_
    simp only [Act.put, List.setIfInBounds_toArray, List.set_cons_zero, List.set_cons_succ]
    refine anyH_take (i := 9) (some 30) rfl rfl (by kernel_rfl) (by kernel_rfl) (by kernel_rfl) (fun _ _ _ h => h) (yieldsIf_load_mid (by rfl) 44 (.tmp 6) rfl g6 0 rfl XL _ (fun _ h => h.1) hu2 rfl hi32) (by assumption) ?_
    simp only [Act.put, List.setIfInBounds_toArray, List.set_cons_zero, List.set_cons_succ]
    refine anyH_take (i := 10) (some 31) rfl rfl (by kernel_rfl) (by kernel_rfl) (by kernel_rfl) (fun _ _ _ h => h) (yieldsIf_load_mid (by rfl) 44 (.tmp 7) rfl g7 0 rfl YL _ (fun _ h => h.2) hu2 rfl hi32y) (by assumption) ?_
    simp only [Act.put, List.setIfInBounds_toArray, List.set_cons_zero, List.set_cons_succ]
    refine anyH_take (i := 11) (v := .bool q) (some 32) rfl rfl (by kernel_rfl) (by kernel_rfl) (by kernel_rfl) (fun _ _ _ h => h) (Or.inl ⟨by rfl, fun _ _ => by go_simp⟩) (by assumption) ?_
    simp only [Act.put, List.setIfInBounds_toArray, List.set_cons_zero, List.set_cons_succ]
    refine anyH_take (i := 12) (v := .bool q) (some 33) rfl rfl (by kernel_rfl) (by kernel_rfl) (by kernel_rfl) (fun _ _ _ h => h) (Or.inl ⟨by rfl, fun _ _ => by rfl⟩) (by assumption) ?_
    simp only [Act.put, List.setIfInBounds_toArray, List.set_cons_zero, List.set_cons_succ]
    refine anyH_take (i := 13) (v := .bool false) (some 34) rfl rfl (by kernel_rfl) (by kernel_rfl) (by kernel_rfl) (fun _ _ _ h => h) (Or.inl ⟨by rfl, fun _ _ => by go_simp⟩) (by assumption) ?_
    simp only [Act.put, List.setIfInBounds_toArray, List.set_cons_zero, List.set_cons_succ]
    refine wpAnyH_done (by kernel_rfl) ?_ _
    have hB5 : Below w.heap.size w w5 := by
      have h1 : Below w.heap.size w w3.drew := ⟨hB3.os, hB3.tape, hB3.output, hB3.size, hB3.block⟩
      have h2 := h1.trans (hb4.mono h1.size)
      exact h2.trans (hb5.mono h2.size)
    clear hX3 hY3 hC3 hD3 hX4 hY4 hC4 hD4 hb4 hb5 hB3
    go_wp2_with fail
    go_at_call 21
    refine Calls.mono (cbytes_at gc a x CL w5 ha hx HCL.out hC5) ?_
    rintro e w6 ⟨rfl, hb6⟩
    have hC6 := hC5.up hb6
    go_wp2_with fail
    go_at_call 20
    refine Calls.mono (load_at a x CL w6 ha hx HCL.out) ?_
    rintro e w7 ⟨ge, rfl, hge, hE7, hb7⟩
    have hC7 := hC6.up hb7
    go_wp2_with fail
    go_at_call 21
    refine Calls.mono (cbytes_at gc a x CL w7 ha hx HCL.out hC7) ?_
    rintro e w8 ⟨rfl, hb8⟩
    go_wp2_with (first
      | (change wpList _ _ _ _ _ (w8.alloc (.cells (Lib.byteCells zeros40).toArray 51)); refine wpList_store_row rfl _ _ _ rfl w8.heap.size CL.toArray rfl rfl 51 (Lib.byteCells zeros40).toArray (heap_alloc_new w8 _) hi40 HCs.out HC1.out ?_; obtain ⟨w9, hw9⟩ : ∃ x, x = (w8.alloc (.cells (Lib.byteCells zeros40).toArray 51)).setRow w8.heap.size CL.toArray := ⟨_, rfl⟩; rw [← hw9]; obtain ⟨hF9, hb9⟩ := alloc_row w8 51 (Lib.byteCells zeros40).toArray CL; rw [← hw9] at hF9 hb9; clear hw9; have hY9 := (((hY5.up hb6).up hb7).up hb8).up hb9; have hE9 := (hE7.up hb8).up hb9)
      | (refine wpList_load_row rfl _ _ rfl g7 rfl 44 YL.toArray (0, 0) _ hY9 hu2 rfl hi32y ?_))
    go_at_call 23
    refine Calls.mono (advance_at ge a x y YL w9 ha hx hy HYL.out hE9) ?_
    rintro e w10 ⟨rfl, hE10q, ho10⟩
    obtain ⟨v9, hv9⟩ : ∃ v : Int, v = (if a = mostN then 9 else 0) := ⟨_, rfl⟩
    rw [← hv9]
    clear hv9
    have HE10 := Lib.hid hE10q
    clear hE10q
    have hge6 := hC6.lt
    have hX10 := (((((hX5.up hb6).up hb7).up hb8).up hb9).only ho10 (show ¬ g6 = ge by omega))
    have hgd6 := (hD5.up hb6).lt
    have hD10 := (((((hD5.up hb6).up hb7).up hb8).up hb9).only ho10 (show ¬ gd = ge by omega))
    go_wp2_with (refine wpList_load_row rfl _ _ rfl g6 rfl 44 XL.toArray (0, 0) _ hX10 hu2 rfl hi32 ?_)
    go_at_call 23
    refine Calls.mono (advance_at gd a y x XL w10 ha hy hx HXL.out hD10) ?_
    rintro e w11 ⟨rfl, hD11, ho11⟩
    obtain ⟨v8, hv8⟩ : ∃ v : Int, v = (if a = mostN then 9 else 0) := ⟨_, rfl⟩
    rw [← hv8]
    clear hv8 hD11
    go_wp2_with fail
    by_cases ham : a = mostN
    · have hgd5 := (hD5.up hb6).lt
      have hgeE := hE7.lt
      have hz8 := hb8.size
      have hz6 := hb6.size
      have hwz := hB5.size
      have hC11 : Arr w11 gc 73 (cellC a x) := ((((hC7.up hb8).up hb9).only ho10 (show ¬ gc = ge by omega)).only ho11 (show ¬ gc = gd by omega))
      have hE11 := HE10.out.only ho11 (show ¬ ge = gd by omega)
      have hF11 := (hF9.only ho10 (show ¬ w8.heap.size = ge by omega)).only ho11 (show ¬ w8.heap.size = gd by have := (hD5.up hb6).up hb7; have := (this.up hb8).lt; omega)
      have hwg : w.heap.size ≤ g6 := Nat.le_of_eq Hg6.out.symm
      have hB11 : Below w.heap.size w w11 := by
        have h6 := hB5.trans (hb6.mono hB5.size)
        have h7 := h6.trans (hb7.mono h6.size)
        have h8 := h7.trans (hb8.mono h7.size)
        have h9 := h8.trans (hb9.mono h8.size)
        have h10 := h9.trans (ho10.below h9.size (by rintro k rfl; omega))
        exact h10.trans (ho11.below h10.size (by rintro k rfl; omega))
      obtain ⟨gB, hgB⟩ : ∃ g, g = w8.heap.size := ⟨_, rfl⟩
      rw [← hgB] at hF11 ⊢
      clear hX5 hY5 hC5 hD5 hC6 hC7 hE7 hF9 hY9 hE9 HE10 hX10 hD10 ho10 ho11 hb6 hb7 hb8 hb9 hgB hB5
      have hmb : Below w.heap.size w w11.drew := ⟨hB11.os, hB11.tape, hB11.output, hB11.size, hB11.block⟩
      have hmo : ((a : Int) == 18446744073709551615) = true := by rw [ham]; rfl
      clear ham
      refine wp_region_held_drew (S := fun w' => w'.rangeAt gB 0 CL) (by kernel_rfl) hF11.range (fun hHeld => ?_)
      refine anyH_take (i := 0) (v := .pointer (some ⟨gc, 0, none⟩)) (some 46) rfl rfl (by kernel_rfl) (by kernel_rfl) (by kernel_rfl) (fun _ _ _ h => h) (Or.inl ⟨by rfl, fun _ _ => by rfl⟩) (by assumption) ?_
      simp only [Act.put, List.setIfInBounds_toArray, List.set_cons_zero, List.set_cons_succ]
      refine anyH_take (i := 2) (some 48) rfl rfl (by kernel_rfl) (by kernel_rfl) (by kernel_rfl) (fun _ _ _ h => h) (yieldsIf_load_mid (by rfl) 51 (.tmp 12) rfl gB 0 rfl CL _ (fun _ h => h) hu rfl hi40) (by assumption) ?_
      simp only [Act.put, List.setIfInBounds_toArray, List.set_cons_zero, List.set_cons_succ]
      refine wpAnyH_ready (rs := [1]) (by kernel_rfl) (by simp) ?_
      refine AllReadyH.cons rfl (fun K hK => ?_) AllReadyH.nil
      go_simp
      go_at_call 21
      refine Calls.mono (cbytes_at gc a x CL w11.drew ha hx HCL.out (hC11.drewN 1)) ?_
      rintro e w12 ⟨rfl, hb12⟩
      have hF12 := (hF11.drewN 1).up hb12
      have hE12 := (hE11.drewN 1).up hb12
      go_wp2_with fail
      refine hK.out _ _ hF12.range (fun hHeld => ?_)
      clear hK K
      try simp only [Act.put, List.setIfInBounds_toArray, List.set_cons_zero, List.set_cons_succ]
      refine anyH_take (i := 3) (v := .bool true) (some 49) rfl rfl (by kernel_rfl) (by kernel_rfl) (by kernel_rfl) (fun _ _ _ h => h) (Or.inl ⟨by rfl, fun _ _ => by go_simp⟩) (by assumption) ?_
      simp only [Act.put, List.setIfInBounds_toArray, List.set_cons_zero, List.set_cons_succ]
      refine anyH_take (i := 4) (v := .bool true) (some 50) rfl rfl (by kernel_rfl) (by kernel_rfl) (by kernel_rfl) (fun _ _ _ h => h) (Or.inl ⟨by rfl, fun _ _ => by rfl⟩) (by assumption) ?_
      simp only [Act.put, List.setIfInBounds_toArray, List.set_cons_zero, List.set_cons_succ]
      refine anyH_take (i := 5) (v := .int .u64 (a : Nat)) (some 51) rfl rfl (by kernel_rfl) (by kernel_rfl) (by kernel_rfl) (fun _ _ _ h => h) (Or.inl ⟨by rfl, fun _ _ => by rfl⟩) (by assumption) ?_
      simp only [Act.put, List.setIfInBounds_toArray, List.set_cons_zero, List.set_cons_succ]
      refine anyH_take (i := 6) (v := .bool true) (some 52) rfl rfl (by kernel_rfl) (by kernel_rfl) (by kernel_rfl) (fun _ _ _ h => h) (Or.inl ⟨by rfl, fun _ _ => by go_simp⟩) (by assumption) ?_
      simp only [Act.put, List.setIfInBounds_toArray, List.set_cons_zero, List.set_cons_succ]
      refine anyH_take (i := 7) (v := .bool true) (some 53) rfl rfl (by kernel_rfl) (by kernel_rfl) (by kernel_rfl) (fun _ _ _ h => h) (Or.inl ⟨by rfl, fun _ _ => by rfl⟩) (by assumption) ?_
      simp only [Act.put, List.setIfInBounds_toArray, List.set_cons_zero, List.set_cons_succ]
      refine anyH_take (i := 8) (v := undef) (some 54) rfl rfl (by kernel_rfl) (by kernel_rfl) (by kernel_rfl) (fun _ _ _ h => h) (Or.inr ⟨by rfl, rfl⟩) (by assumption) ?_
      simp only [Act.put, List.setIfInBounds_toArray, List.set_cons_zero, List.set_cons_succ]
      refine anyH_take (i := 9) (v := undef) (some 55) rfl rfl (by kernel_rfl) (by kernel_rfl) (by kernel_rfl) (fun _ _ _ h => h) (Or.inr ⟨by rfl, rfl⟩) (by assumption) ?_
      simp only [Act.put, List.setIfInBounds_toArray, List.set_cons_zero, List.set_cons_succ]
      refine anyH_take (i := 10) (v := undef) (some 56) rfl rfl (by kernel_rfl) (by kernel_rfl) (by kernel_rfl) (fun _ _ _ h => h) (Or.inr ⟨by rfl, rfl⟩) (by assumption) ?_
      simp only [Act.put, List.setIfInBounds_toArray, List.set_cons_zero, List.set_cons_succ]
      refine anyH_take (i := 11) (v := undef) (some 57) rfl rfl (by kernel_rfl) (by kernel_rfl) (by kernel_rfl) (fun _ _ _ h => h) (Or.inr ⟨by rfl, rfl⟩) (by assumption) ?_
      simp only [Act.put, List.setIfInBounds_toArray, List.set_cons_zero, List.set_cons_succ]
      refine anyH_take (i := 12) (v := .bool true) (some 58) rfl rfl (by kernel_rfl) (by kernel_rfl) (by kernel_rfl) (fun _ _ _ h => h) (Or.inl ⟨by rfl, fun _ _ => by rfl⟩) (by assumption) ?_
      simp only [Act.put, List.setIfInBounds_toArray, List.set_cons_zero, List.set_cons_succ]
      refine anyH_take (i := 13) (v := .bool true) (some 59) rfl rfl (by kernel_rfl) (by kernel_rfl) (by kernel_rfl) (fun _ _ _ h => h) (Or.inl ⟨by rfl, fun _ _ => by rfl⟩) (by assumption) ?_
      simp only [Act.put, List.setIfInBounds_toArray, List.set_cons_zero, List.set_cons_succ]
      refine anyH_take (i := 14) (v := .bool true) (some 8) rfl rfl (by kernel_rfl) (by kernel_rfl) (by kernel_rfl) (fun _ _ _ h => h) (Or.inl ⟨by rfl, fun _ _ => by rfl⟩) (by assumption) ?_
      simp only [Act.put, List.setIfInBounds_toArray, List.set_cons_zero, List.set_cons_succ]
      refine wpAnyH_done (by kernel_rfl) ?_ _
      go_wp2_with fail
      have h12 := hmb.trans (hb12.mono hmb.size)
      exact bodyPost_ret (v := .bool true) (by simp [results, Try.f7]) rfl ⟨rfl, h12⟩
    · have hgd5 := (hD5.up hb6).lt
      have hgeE := hE7.lt
      have hz8 := hb8.size
      have hz6 := hb6.size
      have hwz := hB5.size
      have hC11 : Arr w11 gc 73 (cellC a x) := ((((hC7.up hb8).up hb9).only ho10 (show ¬ gc = ge by omega)).only ho11 (show ¬ gc = gd by omega))
      have hE11 := HE10.out.only ho11 (show ¬ ge = gd by omega)
      have hF11 := (hF9.only ho10 (show ¬ w8.heap.size = ge by omega)).only ho11 (show ¬ w8.heap.size = gd by have := (hD5.up hb6).up hb7; have := (this.up hb8).lt; omega)
      have hwg : w.heap.size ≤ g6 := Nat.le_of_eq Hg6.out.symm
      have hB11 : Below w.heap.size w w11 := by
        have h6 := hB5.trans (hb6.mono hB5.size)
        have h7 := h6.trans (hb7.mono h6.size)
        have h8 := h7.trans (hb8.mono h7.size)
        have h9 := h8.trans (hb9.mono h8.size)
        have h10 := h9.trans (ho10.below h9.size (by rintro k rfl; omega))
        exact h10.trans (ho11.below h10.size (by rintro k rfl; omega))
      obtain ⟨gB, hgB⟩ : ∃ g, g = w8.heap.size := ⟨_, rfl⟩
      rw [← hgB] at hF11 ⊢
      clear hX5 hY5 hC5 hD5 hC6 hC7 hE7 hF9 hY9 hE9 HE10 hX10 hD10 ho10 ho11 hb6 hb7 hb8 hb9 hgB hB5
      have hmb : Below w.heap.size w w11.drew := ⟨hB11.os, hB11.tape, hB11.output, hB11.size, hB11.block⟩
      have hmo : ((a : Int) == 18446744073709551615) = false := by unfold mostN at ham; rw [beq_eq_false_iff_ne]; omega
      have ha1 : a + 1 < 18446744073709551616 := by unfold mostN at ham; omega
      rw [if_neg ham] at hE11
      rw [decide_eq_false (fun e => by have := (cellF_inj ha1 ha).1 e; omega)] at heqEC
      refine wp_region_held_drew (S := fun w' => w'.rangeAt gB 0 CL) (by kernel_rfl) hF11.range (fun hHeld => ?_)
      refine anyH_take (i := 0) (v := .pointer (some ⟨gc, 0, none⟩)) (some 46) rfl rfl (by kernel_rfl) (by kernel_rfl) (by kernel_rfl) (fun _ _ _ h => h) (Or.inl ⟨by rfl, fun _ _ => by rfl⟩) (by assumption) ?_
      simp only [Act.put, List.setIfInBounds_toArray, List.set_cons_zero, List.set_cons_succ]
      refine anyH_take (i := 2) (some 48) rfl rfl (by kernel_rfl) (by kernel_rfl) (by kernel_rfl) (fun _ _ _ h => h) (yieldsIf_load_mid (by rfl) 51 (.tmp 12) rfl gB 0 rfl CL _ (fun _ h => h) hu rfl hi40) (by assumption) ?_
      simp only [Act.put, List.setIfInBounds_toArray, List.set_cons_zero, List.set_cons_succ]
      refine wpAnyH_ready (rs := [1]) (by kernel_rfl) (by simp) ?_
      refine AllReadyH.cons rfl (fun K hK => ?_) AllReadyH.nil
      go_simp
      go_at_call 21
      refine Calls.mono (cbytes_at gc a x CL w11.drew ha hx HCL.out (hC11.drewN 1)) ?_
      rintro e w12 ⟨rfl, hb12⟩
      have hF12 := (hF11.drewN 1).up hb12
      have hE12 := (hE11.drewN 1).up hb12
      go_wp2_with fail
      refine hK.out _ _ hF12.range (fun hHeld => ?_)
      clear hK K
      try simp only [Act.put, List.setIfInBounds_toArray, List.set_cons_zero, List.set_cons_succ]
      refine anyH_take (i := 3) (v := .bool true) (some 49) rfl rfl (by kernel_rfl) (by kernel_rfl) (by kernel_rfl) (fun _ _ _ h => h) (Or.inl ⟨by rfl, fun _ _ => by go_simp⟩) (by assumption) ?_
      simp only [Act.put, List.setIfInBounds_toArray, List.set_cons_zero, List.set_cons_succ]
      refine anyH_take (i := 4) (v := .bool true) (some 50) rfl rfl (by kernel_rfl) (by kernel_rfl) (by kernel_rfl) (fun _ _ _ h => h) (Or.inl ⟨by rfl, fun _ _ => by rfl⟩) (by assumption) ?_
      simp only [Act.put, List.setIfInBounds_toArray, List.set_cons_zero, List.set_cons_succ]
      refine anyH_take (i := 5) (v := .int .u64 (a : Nat)) (some 51) rfl rfl (by kernel_rfl) (by kernel_rfl) (by kernel_rfl) (fun _ _ _ h => h) (Or.inl ⟨by rfl, fun _ _ => by rfl⟩) (by assumption) ?_
      simp only [Act.put, List.setIfInBounds_toArray, List.set_cons_zero, List.set_cons_succ]
      refine anyH_take (i := 6) (v := .bool false) (some 52) rfl rfl (by kernel_rfl) (by kernel_rfl) (by kernel_rfl) (fun _ _ _ h => h) (Or.inl ⟨by rfl, fun _ _ => by go_simp⟩) (by assumption) ?_
      simp only [Act.put, List.setIfInBounds_toArray, List.set_cons_zero, List.set_cons_succ]
      refine anyH_take (i := 7) (v := .bool false) (some 53) rfl rfl (by kernel_rfl) (by kernel_rfl) (by kernel_rfl) (fun _ _ _ h => h) (Or.inl ⟨by rfl, fun _ _ => by rfl⟩) (by assumption) ?_
      simp only [Act.put, List.setIfInBounds_toArray, List.set_cons_zero, List.set_cons_succ]
      refine anyH_take (i := 8) (v := .pointer (some ⟨ge, 0, none⟩)) (some 54) rfl rfl (by kernel_rfl) (by kernel_rfl) (by kernel_rfl) (fun _ _ _ h => h) (Or.inl ⟨by rfl, fun _ _ => by rfl⟩) (by assumption) ?_
      simp only [Act.put, List.setIfInBounds_toArray, List.set_cons_zero, List.set_cons_succ]
      refine anyH_take (i := 10) (some 56) rfl rfl (by kernel_rfl) (by kernel_rfl) (by kernel_rfl) (fun _ _ _ h => h) (yieldsIf_load_mid (by rfl) 51 (.tmp 12) rfl gB 0 rfl CL _ (fun _ h => h) hu rfl hi40) (by assumption) ?_
      simp only [Act.put, List.setIfInBounds_toArray, List.set_cons_zero, List.set_cons_succ]
      refine wpAnyH_ready (rs := [9]) (by kernel_rfl) (by simp) ?_
      refine AllReadyH.cons rfl (fun K hK => ?_) AllReadyH.nil
      go_simp
      go_at_call 21
      refine Calls.mono (cbytes_at ge (a + 1) y EL w12 ha1 hy HEL.out hE12) ?_
      rintro e w13 ⟨rfl, hb13⟩
      have hF13 := hF12.up hb13
      go_wp2_with fail
      refine hK.out _ _ hF13.range (fun hHeld => ?_)
      clear hK K
      try simp only [Act.put, List.setIfInBounds_toArray, List.set_cons_zero, List.set_cons_succ]
      refine anyH_take (i := 11) (v := .bool true) (some 57) rfl rfl (by kernel_rfl) (by kernel_rfl) (by kernel_rfl) (fun _ _ _ h => h) (Or.inl ⟨by rfl, fun _ _ => by go_simp⟩) (by assumption) ?_
      simp only [Act.put, List.setIfInBounds_toArray, List.set_cons_zero, List.set_cons_succ]
      refine anyH_take (i := 12) (v := .bool true) (some 58) rfl rfl (by kernel_rfl) (by kernel_rfl) (by kernel_rfl) (fun _ _ _ h => h) (Or.inl ⟨by rfl, fun _ _ => by rfl⟩) (by assumption) ?_
      simp only [Act.put, List.setIfInBounds_toArray, List.set_cons_zero, List.set_cons_succ]
      refine anyH_take (i := 13) (v := .bool true) (some 59) rfl rfl (by kernel_rfl) (by kernel_rfl) (by kernel_rfl) (fun _ _ _ h => h) (Or.inl ⟨by rfl, fun _ _ => by rfl⟩) (by assumption) ?_
      simp only [Act.put, List.setIfInBounds_toArray, List.set_cons_zero, List.set_cons_succ]
      refine anyH_take (i := 14) (v := .bool true) (some 8) rfl rfl (by kernel_rfl) (by kernel_rfl) (by kernel_rfl) (fun _ _ _ h => h) (Or.inl ⟨by rfl, fun _ _ => by rfl⟩) (by assumption) ?_
      simp only [Act.put, List.setIfInBounds_toArray, List.set_cons_zero, List.set_cons_succ]
      refine wpAnyH_done (by kernel_rfl) ?_ _
      go_wp2_with fail
      have h12 := hmb.trans (hb12.mono hmb.size)
      exact bodyPost_ret (v := .bool true) (by simp [results, Try.f7]) rfl ⟨rfl, h12.trans (hb13.mono h12.size)⟩
  · have hne : ((a : Int) == (b : Int)) = false := by rw [beq_eq_false_iff_ne]; omega
    obtain ⟨q, hq⟩ : ∃ q, q = false := ⟨_, rfl⟩
    rw [show decide (cellF a x = cellF b y) = q from by rw [hq]; exact decide_eq_false (fun e => hab ((cellF_inj ha hb).1 e).1)] at heqCD
    subst hq
    refine wp_region_held_drew (S := fun w' => w'.rangeAt g6 0 XL ∧ w'.rangeAt g7 0 YL) (by kernel_rfl) ⟨hX3.range, hY3.range⟩ (fun hHeld => ?_)
    refine anyH_take (i := 0) (v := .pointer (some ⟨gc, 0, none⟩)) (some 21) rfl rfl (by kernel_rfl) (by kernel_rfl) (by kernel_rfl) (fun _ _ _ h => h) (Or.inl ⟨by rfl, fun _ _ => by rfl⟩) (by assumption) ?_
    simp only [Act.put, List.setIfInBounds_toArray, List.set_cons_zero, List.set_cons_succ]
    refine anyH_take (i := 2) (v := .pointer (some ⟨gd, 0, none⟩)) (some 23) rfl rfl (by kernel_rfl) (by kernel_rfl) (by kernel_rfl) (fun _ _ _ h => h) (Or.inl ⟨by rfl, fun _ _ => by rfl⟩) (by assumption) ?_
    simp only [Act.put, List.setIfInBounds_toArray, List.set_cons_zero, List.set_cons_succ]
    refine anyH_take (i := 5) (v := .int .u64 (a : Nat)) (some 26) rfl rfl (by kernel_rfl) (by kernel_rfl) (by kernel_rfl) (fun _ _ _ h => h) (Or.inl ⟨by rfl, fun _ _ => by rfl⟩) (by assumption) ?_
    simp only [Act.put, List.setIfInBounds_toArray, List.set_cons_zero, List.set_cons_succ]
    refine anyH_take (i := 6) (v := .int .u64 (b : Nat)) (some 27) rfl rfl (by kernel_rfl) (by kernel_rfl) (by kernel_rfl) (fun _ _ _ h => h) (Or.inl ⟨by rfl, fun _ _ => by rfl⟩) (by assumption) ?_
    simp only [Act.put, List.setIfInBounds_toArray, List.set_cons_zero, List.set_cons_succ]
    refine anyH_take (i := 7) (v := .bool false) (some 28) rfl rfl (by kernel_rfl) (by kernel_rfl) (by kernel_rfl) (fun _ _ _ h => h) (Or.inl ⟨by rfl, fun _ _ => by go_simp⟩) (by assumption) ?_
    simp only [Act.put, List.setIfInBounds_toArray, List.set_cons_zero, List.set_cons_succ]
    refine wpAnyH_ready (rs := [1]) (by kernel_rfl) (by simp) ?_
    refine AllReadyH.cons rfl (fun K hK => ?_) AllReadyH.nil
    go_simp
    go_at_call 21
    refine Calls.mono (cbytes_at gc a x CL w3.drew ha hx HCL.out (hC3.drewN 1)) ?_
    rintro e w4 ⟨rfl, hb4⟩
    have hX4 := (hX3.drewN 1).up hb4
    have hY4 := (hY3.drewN 1).up hb4
    have hC4 := (hC3.drewN 1).up hb4
    have hD4 := (hD3.drewN 1).up hb4
    go_wp2_with fail
    refine hK.out _ _ ⟨hX4.range, hY4.range⟩ (fun hHeld => ?_)
    clear hK K
    try simp only [Act.put, List.setIfInBounds_toArray, List.set_cons_zero, List.set_cons_succ]
    refine wpAnyH_ready (rs := [3]) (by kernel_rfl) (by simp) ?_
    refine AllReadyH.cons rfl (fun K hK => ?_) AllReadyH.nil
    go_simp
    go_at_call 21
    refine Calls.mono (cbytes_at gd b y DL w4 hb hy HDL.out hD4) ?_
    rintro e w5 ⟨rfl, hb5⟩
    have hX5 := hX4.up hb5
    have hY5 := hY4.up hb5
    have hC5 := hC4.up hb5
    have hD5 := hD4.up hb5
    go_wp2_with fail
    refine hK.out _ _ ⟨hX5.range, hY5.range⟩ (fun hHeld => ?_)
    clear hK K
    try simp only [Act.put, List.setIfInBounds_toArray, List.set_cons_zero, List.set_cons_succ]
    refine anyH_take (i := 4) (v := .bool false) (some 25) rfl rfl (by kernel_rfl) (by kernel_rfl) (by kernel_rfl) (fun _ _ _ h => h) (Or.inl ⟨by rfl, fun _ _ => by go_simp⟩) (by assumption) ?_
    simp only [Act.put, List.setIfInBounds_toArray, List.set_cons_zero, List.set_cons_succ]
    refine anyH_take (i := 8) (v := .bool false) (some 29) rfl rfl (by kernel_rfl) (by kernel_rfl) (by kernel_rfl) (fun _ _ _ h => h) (Or.inl ⟨by rfl, fun _ _ => by rfl⟩) (by assumption) ?_
    simp only [Act.put, List.setIfInBounds_toArray, List.set_cons_zero, List.set_cons_succ]
    refine anyH_take (i := 9) (v := undef) (some 30) rfl rfl (by kernel_rfl) (by kernel_rfl) (by kernel_rfl) (fun _ _ _ h => h) (Or.inr ⟨by rfl, rfl⟩) (by assumption) ?_
    simp only [Act.put, List.setIfInBounds_toArray, List.set_cons_zero, List.set_cons_succ]
    refine anyH_take (i := 10) (v := undef) (some 31) rfl rfl (by kernel_rfl) (by kernel_rfl) (by kernel_rfl) (fun _ _ _ h => h) (Or.inr ⟨by rfl, rfl⟩) (by assumption) ?_
    simp only [Act.put, List.setIfInBounds_toArray, List.set_cons_zero, List.set_cons_succ]
    refine anyH_take (i := 11) (v := undef) (some 32) rfl rfl (by kernel_rfl) (by kernel_rfl) (by kernel_rfl) (fun _ _ _ h => h) (Or.inr ⟨by rfl, rfl⟩) (by assumption) ?_
    simp only [Act.put, List.setIfInBounds_toArray, List.set_cons_zero, List.set_cons_succ]
    refine anyH_take (i := 12) (v := .bool false) (some 33) rfl rfl (by kernel_rfl) (by kernel_rfl) (by kernel_rfl) (fun _ _ _ h => h) (Or.inl ⟨by rfl, fun _ _ => by rfl⟩) (by assumption) ?_
    simp only [Act.put, List.setIfInBounds_toArray, List.set_cons_zero, List.set_cons_succ]
    refine anyH_take (i := 13) (v := .bool false) (some 34) rfl rfl (by kernel_rfl) (by kernel_rfl) (by kernel_rfl) (fun _ _ _ h => h) (Or.inl ⟨by rfl, fun _ _ => by go_simp⟩) (by assumption) ?_
    simp only [Act.put, List.setIfInBounds_toArray, List.set_cons_zero, List.set_cons_succ]
    refine wpAnyH_done (by kernel_rfl) ?_ _
    have hB5 : Below w.heap.size w w5 := by
      have h1 : Below w.heap.size w w3.drew := ⟨hB3.os, hB3.tape, hB3.output, hB3.size, hB3.block⟩
      have h2 := h1.trans (hb4.mono h1.size)
      exact h2.trans (hb5.mono h2.size)
    clear hX3 hY3 hC3 hD3 hX4 hY4 hC4 hD4 hb4 hb5 hB3
    go_wp2_with fail
    go_at_call 21
    refine Calls.mono (cbytes_at gc a x CL w5 ha hx HCL.out hC5) ?_
    rintro e w6 ⟨rfl, hb6⟩
    have hC6 := hC5.up hb6
    go_wp2_with fail
    go_at_call 20
    refine Calls.mono (load_at a x CL w6 ha hx HCL.out) ?_
    rintro e w7 ⟨ge, rfl, hge, hE7, hb7⟩
    have hC7 := hC6.up hb7
    go_wp2_with fail
    go_at_call 21
    refine Calls.mono (cbytes_at gc a x CL w7 ha hx HCL.out hC7) ?_
    rintro e w8 ⟨rfl, hb8⟩
    go_wp2_with (first
      | (change wpList _ _ _ _ _ (w8.alloc (.cells (Lib.byteCells zeros40).toArray 51)); refine wpList_store_row rfl _ _ _ rfl w8.heap.size CL.toArray rfl rfl 51 (Lib.byteCells zeros40).toArray (heap_alloc_new w8 _) hi40 HCs.out HC1.out ?_; obtain ⟨w9, hw9⟩ : ∃ x, x = (w8.alloc (.cells (Lib.byteCells zeros40).toArray 51)).setRow w8.heap.size CL.toArray := ⟨_, rfl⟩; rw [← hw9]; obtain ⟨hF9, hb9⟩ := alloc_row w8 51 (Lib.byteCells zeros40).toArray CL; rw [← hw9] at hF9 hb9; clear hw9; have hY9 := (((hY5.up hb6).up hb7).up hb8).up hb9; have hE9 := (hE7.up hb8).up hb9)
      | (refine wpList_load_row rfl _ _ rfl g7 rfl 44 YL.toArray (0, 0) _ hY9 hu2 rfl hi32y ?_))
    go_at_call 23
    refine Calls.mono (advance_at ge a x y YL w9 ha hx hy HYL.out hE9) ?_
    rintro e w10 ⟨rfl, hE10q, ho10⟩
    obtain ⟨v9, hv9⟩ : ∃ v : Int, v = (if a = mostN then 9 else 0) := ⟨_, rfl⟩
    rw [← hv9]
    clear hv9
    have HE10 := Lib.hid hE10q
    clear hE10q
    have hge6 := hC6.lt
    have hX10 := (((((hX5.up hb6).up hb7).up hb8).up hb9).only ho10 (show ¬ g6 = ge by omega))
    have hgd6 := (hD5.up hb6).lt
    have hD10 := (((((hD5.up hb6).up hb7).up hb8).up hb9).only ho10 (show ¬ gd = ge by omega))
    go_wp2_with (refine wpList_load_row rfl _ _ rfl g6 rfl 44 XL.toArray (0, 0) _ hX10 hu2 rfl hi32 ?_)
    go_at_call 23
    refine Calls.mono (advance_at gd b y x XL w10 hb hy hx HXL.out hD10) ?_
    rintro e w11 ⟨rfl, hD11, ho11⟩
    obtain ⟨v8, hv8⟩ : ∃ v : Int, v = (if b = mostN then 9 else 0) := ⟨_, rfl⟩
    rw [← hv8]
    clear hv8 hD11
    go_wp2_with fail
    by_cases ham : a = mostN
    · have hgd5 := (hD5.up hb6).lt
      have hgeE := hE7.lt
      have hz8 := hb8.size
      have hz6 := hb6.size
      have hwz := hB5.size
      have hC11 : Arr w11 gc 73 (cellC a x) := ((((hC7.up hb8).up hb9).only ho10 (show ¬ gc = ge by omega)).only ho11 (show ¬ gc = gd by omega))
      have hE11 := HE10.out.only ho11 (show ¬ ge = gd by omega)
      have hF11 := (hF9.only ho10 (show ¬ w8.heap.size = ge by omega)).only ho11 (show ¬ w8.heap.size = gd by have := (hD5.up hb6).up hb7; have := (this.up hb8).lt; omega)
      have hwg : w.heap.size ≤ g6 := Nat.le_of_eq Hg6.out.symm
      have hB11 : Below w.heap.size w w11 := by
        have h6 := hB5.trans (hb6.mono hB5.size)
        have h7 := h6.trans (hb7.mono h6.size)
        have h8 := h7.trans (hb8.mono h7.size)
        have h9 := h8.trans (hb9.mono h8.size)
        have h10 := h9.trans (ho10.below h9.size (by rintro k rfl; omega))
        exact h10.trans (ho11.below h10.size (by rintro k rfl; omega))
      obtain ⟨gB, hgB⟩ : ∃ g, g = w8.heap.size := ⟨_, rfl⟩
      rw [← hgB] at hF11 ⊢
      clear hX5 hY5 hC5 hD5 hC6 hC7 hE7 hF9 hY9 hE9 HE10 hX10 hD10 ho10 ho11 hb6 hb7 hb8 hb9 hgB hB5
      have hmb : Below w.heap.size w w11.drew := ⟨hB11.os, hB11.tape, hB11.output, hB11.size, hB11.block⟩
      have hmo : ((a : Int) == 18446744073709551615) = true := by rw [ham]; rfl
      clear ham
      refine wp_region_held_drew (S := fun w' => w'.rangeAt gB 0 CL) (by kernel_rfl) hF11.range (fun hHeld => ?_)
      refine anyH_take (i := 0) (v := .pointer (some ⟨gc, 0, none⟩)) (some 46) rfl rfl (by kernel_rfl) (by kernel_rfl) (by kernel_rfl) (fun _ _ _ h => h) (Or.inl ⟨by rfl, fun _ _ => by rfl⟩) (by assumption) ?_
      simp only [Act.put, List.setIfInBounds_toArray, List.set_cons_zero, List.set_cons_succ]
      refine anyH_take (i := 2) (some 48) rfl rfl (by kernel_rfl) (by kernel_rfl) (by kernel_rfl) (fun _ _ _ h => h) (yieldsIf_load_mid (by rfl) 51 (.tmp 12) rfl gB 0 rfl CL _ (fun _ h => h) hu rfl hi40) (by assumption) ?_
      simp only [Act.put, List.setIfInBounds_toArray, List.set_cons_zero, List.set_cons_succ]
      refine wpAnyH_ready (rs := [1]) (by kernel_rfl) (by simp) ?_
      refine AllReadyH.cons rfl (fun K hK => ?_) AllReadyH.nil
      go_simp
      go_at_call 21
      refine Calls.mono (cbytes_at gc a x CL w11.drew ha hx HCL.out (hC11.drewN 1)) ?_
      rintro e w12 ⟨rfl, hb12⟩
      have hF12 := (hF11.drewN 1).up hb12
      have hE12 := (hE11.drewN 1).up hb12
      go_wp2_with fail
      refine hK.out _ _ hF12.range (fun hHeld => ?_)
      clear hK K
      try simp only [Act.put, List.setIfInBounds_toArray, List.set_cons_zero, List.set_cons_succ]
      refine anyH_take (i := 3) (v := .bool true) (some 49) rfl rfl (by kernel_rfl) (by kernel_rfl) (by kernel_rfl) (fun _ _ _ h => h) (Or.inl ⟨by rfl, fun _ _ => by go_simp⟩) (by assumption) ?_
      simp only [Act.put, List.setIfInBounds_toArray, List.set_cons_zero, List.set_cons_succ]
      refine anyH_take (i := 4) (v := .bool true) (some 50) rfl rfl (by kernel_rfl) (by kernel_rfl) (by kernel_rfl) (fun _ _ _ h => h) (Or.inl ⟨by rfl, fun _ _ => by rfl⟩) (by assumption) ?_
      simp only [Act.put, List.setIfInBounds_toArray, List.set_cons_zero, List.set_cons_succ]
      refine anyH_take (i := 5) (v := .int .u64 (a : Nat)) (some 51) rfl rfl (by kernel_rfl) (by kernel_rfl) (by kernel_rfl) (fun _ _ _ h => h) (Or.inl ⟨by rfl, fun _ _ => by rfl⟩) (by assumption) ?_
      simp only [Act.put, List.setIfInBounds_toArray, List.set_cons_zero, List.set_cons_succ]
      refine anyH_take (i := 6) (v := .bool true) (some 52) rfl rfl (by kernel_rfl) (by kernel_rfl) (by kernel_rfl) (fun _ _ _ h => h) (Or.inl ⟨by rfl, fun _ _ => by go_simp⟩) (by assumption) ?_
      simp only [Act.put, List.setIfInBounds_toArray, List.set_cons_zero, List.set_cons_succ]
      refine anyH_take (i := 7) (v := .bool true) (some 53) rfl rfl (by kernel_rfl) (by kernel_rfl) (by kernel_rfl) (fun _ _ _ h => h) (Or.inl ⟨by rfl, fun _ _ => by rfl⟩) (by assumption) ?_
      simp only [Act.put, List.setIfInBounds_toArray, List.set_cons_zero, List.set_cons_succ]
      refine anyH_take (i := 8) (v := undef) (some 54) rfl rfl (by kernel_rfl) (by kernel_rfl) (by kernel_rfl) (fun _ _ _ h => h) (Or.inr ⟨by rfl, rfl⟩) (by assumption) ?_
      simp only [Act.put, List.setIfInBounds_toArray, List.set_cons_zero, List.set_cons_succ]
      refine anyH_take (i := 9) (v := undef) (some 55) rfl rfl (by kernel_rfl) (by kernel_rfl) (by kernel_rfl) (fun _ _ _ h => h) (Or.inr ⟨by rfl, rfl⟩) (by assumption) ?_
      simp only [Act.put, List.setIfInBounds_toArray, List.set_cons_zero, List.set_cons_succ]
      refine anyH_take (i := 10) (v := undef) (some 56) rfl rfl (by kernel_rfl) (by kernel_rfl) (by kernel_rfl) (fun _ _ _ h => h) (Or.inr ⟨by rfl, rfl⟩) (by assumption) ?_
      simp only [Act.put, List.setIfInBounds_toArray, List.set_cons_zero, List.set_cons_succ]
      refine anyH_take (i := 11) (v := undef) (some 57) rfl rfl (by kernel_rfl) (by kernel_rfl) (by kernel_rfl) (fun _ _ _ h => h) (Or.inr ⟨by rfl, rfl⟩) (by assumption) ?_
      simp only [Act.put, List.setIfInBounds_toArray, List.set_cons_zero, List.set_cons_succ]
      refine anyH_take (i := 12) (v := .bool true) (some 58) rfl rfl (by kernel_rfl) (by kernel_rfl) (by kernel_rfl) (fun _ _ _ h => h) (Or.inl ⟨by rfl, fun _ _ => by rfl⟩) (by assumption) ?_
      simp only [Act.put, List.setIfInBounds_toArray, List.set_cons_zero, List.set_cons_succ]
      refine anyH_take (i := 13) (v := .bool true) (some 59) rfl rfl (by kernel_rfl) (by kernel_rfl) (by kernel_rfl) (fun _ _ _ h => h) (Or.inl ⟨by rfl, fun _ _ => by rfl⟩) (by assumption) ?_
      simp only [Act.put, List.setIfInBounds_toArray, List.set_cons_zero, List.set_cons_succ]
      refine anyH_take (i := 14) (v := .bool true) (some 8) rfl rfl (by kernel_rfl) (by kernel_rfl) (by kernel_rfl) (fun _ _ _ h => h) (Or.inl ⟨by rfl, fun _ _ => by rfl⟩) (by assumption) ?_
      simp only [Act.put, List.setIfInBounds_toArray, List.set_cons_zero, List.set_cons_succ]
      refine wpAnyH_done (by kernel_rfl) ?_ _
      go_wp2_with fail
      have h12 := hmb.trans (hb12.mono hmb.size)
      exact bodyPost_ret (v := .bool true) (by simp [results, Try.f7]) rfl ⟨rfl, h12⟩
    · have hgd5 := (hD5.up hb6).lt
      have hgeE := hE7.lt
      have hz8 := hb8.size
      have hz6 := hb6.size
      have hwz := hB5.size
      have hC11 : Arr w11 gc 73 (cellC a x) := ((((hC7.up hb8).up hb9).only ho10 (show ¬ gc = ge by omega)).only ho11 (show ¬ gc = gd by omega))
      have hE11 := HE10.out.only ho11 (show ¬ ge = gd by omega)
      have hF11 := (hF9.only ho10 (show ¬ w8.heap.size = ge by omega)).only ho11 (show ¬ w8.heap.size = gd by have := (hD5.up hb6).up hb7; have := (this.up hb8).lt; omega)
      have hwg : w.heap.size ≤ g6 := Nat.le_of_eq Hg6.out.symm
      have hB11 : Below w.heap.size w w11 := by
        have h6 := hB5.trans (hb6.mono hB5.size)
        have h7 := h6.trans (hb7.mono h6.size)
        have h8 := h7.trans (hb8.mono h7.size)
        have h9 := h8.trans (hb9.mono h8.size)
        have h10 := h9.trans (ho10.below h9.size (by rintro k rfl; omega))
        exact h10.trans (ho11.below h10.size (by rintro k rfl; omega))
      obtain ⟨gB, hgB⟩ : ∃ g, g = w8.heap.size := ⟨_, rfl⟩
      rw [← hgB] at hF11 ⊢
      clear hX5 hY5 hC5 hD5 hC6 hC7 hE7 hF9 hY9 hE9 HE10 hX10 hD10 ho10 ho11 hb6 hb7 hb8 hb9 hgB hB5
      have hmb : Below w.heap.size w w11.drew := ⟨hB11.os, hB11.tape, hB11.output, hB11.size, hB11.block⟩
      have hmo : ((a : Int) == 18446744073709551615) = false := by unfold mostN at ham; rw [beq_eq_false_iff_ne]; omega
      have ha1 : a + 1 < 18446744073709551616 := by unfold mostN at ham; omega
      rw [if_neg ham] at hE11
      rw [decide_eq_false (fun e => by have := (cellF_inj ha1 ha).1 e; omega)] at heqEC
      refine wp_region_held_drew (S := fun w' => w'.rangeAt gB 0 CL) (by kernel_rfl) hF11.range (fun hHeld => ?_)
      refine anyH_take (i := 0) (v := .pointer (some ⟨gc, 0, none⟩)) (some 46) rfl rfl (by kernel_rfl) (by kernel_rfl) (by kernel_rfl) (fun _ _ _ h => h) (Or.inl ⟨by rfl, fun _ _ => by rfl⟩) (by assumption) ?_
      simp only [Act.put, List.setIfInBounds_toArray, List.set_cons_zero, List.set_cons_succ]
      refine anyH_take (i := 2) (some 48) rfl rfl (by kernel_rfl) (by kernel_rfl) (by kernel_rfl) (fun _ _ _ h => h) (yieldsIf_load_mid (by rfl) 51 (.tmp 12) rfl gB 0 rfl CL _ (fun _ h => h) hu rfl hi40) (by assumption) ?_
      simp only [Act.put, List.setIfInBounds_toArray, List.set_cons_zero, List.set_cons_succ]
      refine wpAnyH_ready (rs := [1]) (by kernel_rfl) (by simp) ?_
      refine AllReadyH.cons rfl (fun K hK => ?_) AllReadyH.nil
      go_simp
      go_at_call 21
      refine Calls.mono (cbytes_at gc a x CL w11.drew ha hx HCL.out (hC11.drewN 1)) ?_
      rintro e w12 ⟨rfl, hb12⟩
      have hF12 := (hF11.drewN 1).up hb12
      have hE12 := (hE11.drewN 1).up hb12
      go_wp2_with fail
      refine hK.out _ _ hF12.range (fun hHeld => ?_)
      clear hK K
      try simp only [Act.put, List.setIfInBounds_toArray, List.set_cons_zero, List.set_cons_succ]
      refine anyH_take (i := 3) (v := .bool true) (some 49) rfl rfl (by kernel_rfl) (by kernel_rfl) (by kernel_rfl) (fun _ _ _ h => h) (Or.inl ⟨by rfl, fun _ _ => by go_simp⟩) (by assumption) ?_
      simp only [Act.put, List.setIfInBounds_toArray, List.set_cons_zero, List.set_cons_succ]
      refine anyH_take (i := 4) (v := .bool true) (some 50) rfl rfl (by kernel_rfl) (by kernel_rfl) (by kernel_rfl) (fun _ _ _ h => h) (Or.inl ⟨by rfl, fun _ _ => by rfl⟩) (by assumption) ?_
      simp only [Act.put, List.setIfInBounds_toArray, List.set_cons_zero, List.set_cons_succ]
      refine anyH_take (i := 5) (v := .int .u64 (a : Nat)) (some 51) rfl rfl (by kernel_rfl) (by kernel_rfl) (by kernel_rfl) (fun _ _ _ h => h) (Or.inl ⟨by rfl, fun _ _ => by rfl⟩) (by assumption) ?_
      simp only [Act.put, List.setIfInBounds_toArray, List.set_cons_zero, List.set_cons_succ]
      refine anyH_take (i := 6) (v := .bool false) (some 52) rfl rfl (by kernel_rfl) (by kernel_rfl) (by kernel_rfl) (fun _ _ _ h => h) (Or.inl ⟨by rfl, fun _ _ => by go_simp⟩) (by assumption) ?_
      simp only [Act.put, List.setIfInBounds_toArray, List.set_cons_zero, List.set_cons_succ]
      refine anyH_take (i := 7) (v := .bool false) (some 53) rfl rfl (by kernel_rfl) (by kernel_rfl) (by kernel_rfl) (fun _ _ _ h => h) (Or.inl ⟨by rfl, fun _ _ => by rfl⟩) (by assumption) ?_
      simp only [Act.put, List.setIfInBounds_toArray, List.set_cons_zero, List.set_cons_succ]
      refine anyH_take (i := 8) (v := .pointer (some ⟨ge, 0, none⟩)) (some 54) rfl rfl (by kernel_rfl) (by kernel_rfl) (by kernel_rfl) (fun _ _ _ h => h) (Or.inl ⟨by rfl, fun _ _ => by rfl⟩) (by assumption) ?_
      simp only [Act.put, List.setIfInBounds_toArray, List.set_cons_zero, List.set_cons_succ]
      refine anyH_take (i := 10) (some 56) rfl rfl (by kernel_rfl) (by kernel_rfl) (by kernel_rfl) (fun _ _ _ h => h) (yieldsIf_load_mid (by rfl) 51 (.tmp 12) rfl gB 0 rfl CL _ (fun _ h => h) hu rfl hi40) (by assumption) ?_
      simp only [Act.put, List.setIfInBounds_toArray, List.set_cons_zero, List.set_cons_succ]
      refine wpAnyH_ready (rs := [9]) (by kernel_rfl) (by simp) ?_
      refine AllReadyH.cons rfl (fun K hK => ?_) AllReadyH.nil
      go_simp
      go_at_call 21
      refine Calls.mono (cbytes_at ge (a + 1) y EL w12 ha1 hy HEL.out hE12) ?_
      rintro e w13 ⟨rfl, hb13⟩
      have hF13 := hF12.up hb13
      go_wp2_with fail
      refine hK.out _ _ hF13.range (fun hHeld => ?_)
      clear hK K
      try simp only [Act.put, List.setIfInBounds_toArray, List.set_cons_zero, List.set_cons_succ]
      refine anyH_take (i := 11) (v := .bool true) (some 57) rfl rfl (by kernel_rfl) (by kernel_rfl) (by kernel_rfl) (fun _ _ _ h => h) (Or.inl ⟨by rfl, fun _ _ => by go_simp⟩) (by assumption) ?_
      simp only [Act.put, List.setIfInBounds_toArray, List.set_cons_zero, List.set_cons_succ]
      refine anyH_take (i := 12) (v := .bool true) (some 58) rfl rfl (by kernel_rfl) (by kernel_rfl) (by kernel_rfl) (fun _ _ _ h => h) (Or.inl ⟨by rfl, fun _ _ => by rfl⟩) (by assumption) ?_
      simp only [Act.put, List.setIfInBounds_toArray, List.set_cons_zero, List.set_cons_succ]
      refine anyH_take (i := 13) (v := .bool true) (some 59) rfl rfl (by kernel_rfl) (by kernel_rfl) (by kernel_rfl) (fun _ _ _ h => h) (Or.inl ⟨by rfl, fun _ _ => by rfl⟩) (by assumption) ?_
      simp only [Act.put, List.setIfInBounds_toArray, List.set_cons_zero, List.set_cons_succ]
      refine anyH_take (i := 14) (v := .bool true) (some 8) rfl rfl (by kernel_rfl) (by kernel_rfl) (by kernel_rfl) (fun _ _ _ h => h) (Or.inl ⟨by rfl, fun _ _ => by rfl⟩) (by assumption) ?_
      simp only [Act.put, List.setIfInBounds_toArray, List.set_cons_zero, List.set_cons_succ]
      refine wpAnyH_done (by kernel_rfl) ?_ _
      go_wp2_with fail
      have h12 := hmb.trans (hb12.mono hmb.size)
      exact bodyPost_ret (v := .bool true) (by simp [results, Try.f7]) rfl ⟨rfl, h12.trans (hb13.mono h12.size)⟩

end Go.Proofs.Ytggefcelcjhgeac

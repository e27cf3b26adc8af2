/-
  The walk of CellCalls.
-/
import Derived.Test.YtggefcelcjhgeacCellAt
import Derived.Test.YtggefcelcjhgeacDigsArg
namespace Go.Proofs.Ytggefcelcjhgeac
open Go.RowKit
set_option linter.unusedVariables false
set_option linter.unusedSimpArgs false

theorem DigsAt.range {w w' : World} {A : Option Addr} {ds : List (List UInt8)} (h : DigsAt w A ds) (hB : Below w.heap.size w w') {k : Nat} (hk : k < ds.length) :
    ∃ b off, A = some ⟨b, off, none⟩ ∧ b < w.heap.size ∧ (ds.getD k []).length = 32 ∧ w'.rangeAt b (off + k * 32) (Lib.byteCells (ds.getD k [])) := by
  obtain ⟨b, off, e, hb, hd⟩ := h (by omega)
  refine ⟨b, off, e, hb, (hd k hk).1, fun j v hj => ?_⟩
  rw [World.cell?_of_block (hB.block b hb)]
  exact (hd k hk).2 j v hj

set_option maxHeartbeats 40000000 in
set_option maxRecDepth 100000 in
theorem cellCalls_walk (n0 : Nat) (hn0 : n0 < 18446744073709551616) (x0 : List UInt8) (A : Option Addr) (len cap : Nat) (ds : List (List UInt8)) (hdl : ds.length = len) (hc : len ≤ cap) (hm : cap ≤ maxLen) (w : World) (hx0 : x0.length = 32) (hds : DigsAt w A ds) :
    Calls Try.prog 5 #[.int .u64 (n0 : Nat), digV x0, .slice A len cap] w fun e w' => e = .returned (.bool true) ∧ Below w.heap.size w w' := by
  unfold digV
  obtain ⟨XL, hXL⟩ : ∃ V, V = Lib.byteCells x0 := ⟨_, rfl⟩
  have hu := Try.underlying51
  have hu2 := Try.underlying44
  have hgt := gt40
  have hgt2 := gt32
  have HX0 : Arr (w.alloc (.cells XL.toArray 44)) w.heap.size 44 XL := Arr.new w _ XL
  have hba : Below w.heap.size w (w.alloc (.cells XL.toArray 44)) := (Below.refl _ w).alloc (Nat.le_refl _) _
  have hi32 : (Try.prog.info? 44).map (·.size) = some XL.length := by rw [hXL, Lib.byteCells_length, hx0]; exact digInfo
  have Hdl := Lib.hid hdl
  rw [← hXL]
  have HXL := Lib.hid hXL
  clear hXL hdl
  obtain ⟨g4, hg4⟩ : ∃ g, g = w.heap.size := ⟨_, rfl⟩
  have Hg4 := Lib.hid hg4
  clear hg4
  by_cases hl60 : len ≤ 60
  case neg =>
    go_enter Try.func5, Try.ntmps5
    have ht : decide ((60 : Int) < (len : Int)) = true := by simp; omega
    go_wp2_with (first
      | (go_at_call 17; refine Calls.mono (cellSpeaks_true _) ?_; rintro e w1 ⟨rfl, hb1⟩; have hB1 := hba.trans (hb1.mono hba.size)))
    exact bodyPost_ret (v := .bool true) (by simp [results, Try.f5]) rfl ⟨rfl, hB1⟩
  case pos =>
  have ht : decide ((60 : Int) < (len : Int)) = false := by simp; omega
  go_enter Try.func5, Try.ntmps5
  go_wp2_with (first
    | (go_at_call 17; refine Calls.mono (cellSpeaks_true _) ?_; rintro e w1 ⟨rfl, hb1⟩; have hX1 := HX0.up hb1; have hB1 := hba.trans (hb1.mono hba.size); rw [← Hg4.out] at hX1 ⊢)
    | (refine wpList_load_row rfl _ _ rfl g4 rfl 44 XL.toArray (0, 0) _ hX1 hu2 rfl hi32 ?_))
  refine Calls.mono (new_at n0 x0 XL w1 hx0 HXL.out) ?_
  rintro e w2 ⟨gc, rfl, hgc, hC2, hb2⟩
  have hX2 := hX1.up hb2
  have hB2 := hB1.trans (hb2.mono hB1.size)
  have hg4c : g4 < gc := Nat.lt_of_lt_of_le hX1.lt hgc
  clear hX1 hb2 hB1
  go_wp2_with fail
  have hwg : w.heap.size ≤ g4 := Nat.le_of_eq Hg4.out.symm
  have hB2s := hB2.size
  have hrel0 : Only (fun k => k = g4 ∨ k = gc) w2 w2 := Only.refl _ _
  have hX2' : Arr w2 g4 44 (Lib.byteCells x0) := by rw [← HXL.out]; exact hX2
  clear hX2 HX0 hba hgc ht
  go_loopw [0, 8] (fun n i wr => ∃ (k m : Nat) (x : List UInt8), k ≤ len ∧ i = .int .i64 k ∧ n = .int .u64 m ∧ m < 18446744073709551616 ∧ x.length = 32 ∧ Arr wr g4 44 (Lib.byteCells x) ∧ Arr wr gc 73 (cellC m x) ∧ Only (fun k => k = g4 ∨ k = gc) w2 wr) (fun _ i _ => len + 1 - (intOf i).toNat)
  case atStart => exact ⟨0, n0, x0, by omega, rfl, rfl, hn0, hx0, hX2', hC2, hrel0⟩
  case round =>
    clear hX2' hC2 hrel0 hi32
    obtain ⟨k, m, x, hk, rfl, rfl, hml, hx, hXr, hCr, hor⟩ := hrel
    obtain ⟨wq, rfl⟩ : ∃ wo : World, wo = wr := ⟨_, rfl⟩
    have hd1 : decide ((k : Int) ≤ (len : Int)) = true := by simp; omega
    obtain ⟨VL, hVL⟩ : ∃ V, V = Lib.byteCells x := ⟨_, rfl⟩
    obtain ⟨CL, hCL⟩ : ∃ V, V = Lib.byteCells (cellF m x) := ⟨_, rfl⟩
    have hcx := cellF_length (n := m) hx
    have heqCC := fun w => eqv_at hu (cellF m x) (cellF m x) hcx hcx CL CL hCL hCL w
    have heqVV := fun w => eqv_at hu2 x x hx hx VL VL hVL hVL w
    rw [decide_eq_true rfl] at heqCC heqVV
    have hi32 : (Try.prog.info? 44).map (·.size) = some VL.length := by rw [hVL, Lib.byteCells_length, hx]; exact digInfo
    have hi40 : (Try.prog.info? 51).map (·.size) = some CL.length := by rw [hCL, Lib.byteCells_length, hcx]; exact fortyInfo
    have HVs := Lib.hid (show (Lib.byteCells zeros).toArray.size = VL.toArray.size by rw [hVL, dig_size hx]; rfl)
    have HV1 := Lib.hid (show VL.toArray.all (·.oneCell') = true by rw [hVL]; exact dig_one _)
    rw [← hVL] at hXr
    have HVL := Lib.hid hVL
    have HCL := Lib.hid hCL
    clear hVL hCL hcx
    go_wp2_with fail
    refine Calls.mono (get_at gc m x VL wq hx HVL.out hCr) ?_
    rintro e w3 ⟨rfl, hb3⟩
    have hC3 := hCr.up hb3
    have hX3 := hXr.up hb3
    have ho3 := hor.step hb3
    clear hCr hXr hor
    go_wp2_with (change wpList _ _ _ _ _ (w3.alloc (.cells (Lib.byteCells zeros).toArray 44)); refine wpList_store_row rfl _ _ _ rfl w3.heap.size VL.toArray rfl rfl 44 (Lib.byteCells zeros).toArray (heap_alloc_new w3 _) hi32 HVs.out HV1.out ?_; obtain ⟨w4, hw4⟩ : ∃ x, x = (w3.alloc (.cells (Lib.byteCells zeros).toArray 44)).setRow w3.heap.size VL.toArray := ⟨_, rfl⟩; rw [← hw4]; obtain ⟨hP4, hb4⟩ := alloc_row w3 44 (Lib.byteCells zeros).toArray VL; rw [← hw4] at hP4 hb4; clear hw4)
    have hC4 := hC3.up hb4
    have hX4 := hX3.up hb4
    have ho4 := ho3.step hb4
    clear hC3 hX3 ho3
    refine Calls.mono (cbytes_at gc m x CL w4 hml hx HCL.out hC4) ?_
    rintro e w5 ⟨rfl, hb5⟩
    go_wp2_with fail
    refine Calls.mono (load_at m x CL w5 hml hx HCL.out) ?_
    rintro e w6 ⟨g2, rfl, hg2, hL6, hb6⟩
    go_wp2_with fail
    refine Calls.mono (get_at g2 m x VL w6 hx HVL.out hL6) ?_
    rintro e w7 ⟨rfl, hb7⟩
    have hC7 := ((hC4.up hb5).up hb6).up hb7
    have hX7 := ((hX4.up hb5).up hb6).up hb7
    have hP7 := ((hP4.up hb5).up hb6).up hb7
    have ho7 := ((ho4.step hb5).step hb6).step hb7
    clear hC4 hX4 hP4 ho4 hb4 hb5 hb6 hb7 hb3 hL6 hg2
    go_wp2_with (change wpList _ _ _ _ _ (w7.alloc (.cells (Lib.byteCells zeros).toArray 44)); refine wpList_store_row rfl _ _ _ rfl w7.heap.size VL.toArray rfl rfl 44 (Lib.byteCells zeros).toArray (heap_alloc_new w7 _) hi32 HVs.out HV1.out ?_; obtain ⟨w8, hw8⟩ : ∃ x, x = (w7.alloc (.cells (Lib.byteCells zeros).toArray 44)).setRow w7.heap.size VL.toArray := ⟨_, rfl⟩; rw [← hw8]; obtain ⟨hQ8, hb8⟩ := alloc_row w7 44 (Lib.byteCells zeros).toArray VL; rw [← hw8] at hQ8 hb8; clear hw8)
    have hC8 := hC7.up hb8
    have hX8 := hX7.up hb8
    have hP8 := hP7.up hb8
    have ho8 := ho7.step hb8
    clear hC7 hX7 hP7 ho7 hb8
    obtain ⟨g10, hg10⟩ : ∃ g, g = w3.heap.size := ⟨_, rfl⟩
    obtain ⟨g12, hg12⟩ : ∃ g, g = w7.heap.size := ⟨_, rfl⟩
    rw [← hg10] at hP8 ⊢
    rw [← hg12] at hQ8 ⊢
    clear hg10 hg12
    refine wp_region_held_drew (S := fun w' => w'.rangeAt g10 0 VL ∧ w'.rangeAt g4 0 VL ∧ w'.rangeAt g12 0 VL) (by kernel_rfl) ⟨hP8.range, hX8.range, hQ8.range⟩ (fun hHeld => ?_)
    refine anyH_take (i := 0) (v := .int .u64 (m : Nat)) (some 40) rfl rfl (by kernel_rfl) (by kernel_rfl) (by kernel_rfl) (fun _ _ _ h => h) (Or.inl ⟨by rfl, fun _ _ => by rfl⟩) (by assumption) ?_
    simp only [Act.put, List.setIfInBounds_toArray, List.set_cons_zero, List.set_cons_succ]
    refine anyH_take (i := 1) (v := .int .u64 (m : Nat)) (some 41) rfl rfl (by kernel_rfl) (by kernel_rfl) (by kernel_rfl) (fun _ _ _ h => h) (Or.inl ⟨by rfl, fun _ _ => by rfl⟩) (by assumption) ?_
    simp only [Act.put, List.setIfInBounds_toArray, List.set_cons_zero, List.set_cons_succ]
    refine anyH_take (i := 2) (v := .bool false) (some 42) rfl rfl (by kernel_rfl) (by kernel_rfl) (by kernel_rfl) (fun _ _ _ h => h) (Or.inl ⟨by rfl, fun _ _ => by go_simp⟩) (by assumption) ?_
    simp only [Act.put, List.setIfInBounds_toArray, List.set_cons_zero, List.set_cons_succ]
    refine anyH_take (i := 3) (v := .bool false) (some 43) rfl rfl (by kernel_rfl) (by kernel_rfl) (by kernel_rfl) (fun _ _ _ h => h) (Or.inl ⟨by rfl, fun _ _ => by rfl⟩) (by assumption) ?_
    simp only [Act.put, List.setIfInBounds_toArray, List.set_cons_zero, List.set_cons_succ]
    refine anyH_take (i := 4) (some 44) rfl rfl (by kernel_rfl) (by kernel_rfl) (by kernel_rfl) (fun _ _ _ h => h) (yieldsIf_load_mid (by rfl) 44 (.tmp 10) rfl g10 0 rfl VL _ (fun _ h => h.1) hu2 rfl hi32) (by assumption) ?_
    simp only [Act.put, List.setIfInBounds_toArray, List.set_cons_zero, List.set_cons_succ]
    refine anyH_take (i := 5) (some 45) rfl rfl (by kernel_rfl) (by kernel_rfl) (by kernel_rfl) (fun _ _ _ h => h) (yieldsIf_load_mid (by rfl) 44 (.tmp 4) rfl g4 0 rfl VL _ (fun _ h => h.2.1) hu2 rfl hi32) (by assumption) ?_
    simp only [Act.put, List.setIfInBounds_toArray, List.set_cons_zero, List.set_cons_succ]
    refine anyH_take (i := 6) (v := .bool false) (some 46) rfl rfl (by kernel_rfl) (by kernel_rfl) (by kernel_rfl) (fun _ _ _ h => h) (Or.inl ⟨by rfl, fun _ _ => by go_simp⟩) (by assumption) ?_
    simp only [Act.put, List.setIfInBounds_toArray, List.set_cons_zero, List.set_cons_succ]
    refine anyH_take (i := 7) (v := .bool false) (some 47) rfl rfl (by kernel_rfl) (by kernel_rfl) (by kernel_rfl) (fun _ _ _ h => h) (Or.inl ⟨by rfl, fun _ _ => by rfl⟩) (by assumption) ?_
    simp only [Act.put, List.setIfInBounds_toArray, List.set_cons_zero, List.set_cons_succ]
    refine anyH_take (i := 8) (v := .bool false) (some 48) rfl rfl (by kernel_rfl) (by kernel_rfl) (by kernel_rfl) (fun _ _ _ h => h) (Or.inl ⟨by rfl, fun _ _ => by rfl⟩) (by assumption) ?_
    simp only [Act.put, List.setIfInBounds_toArray, List.set_cons_zero, List.set_cons_succ]
    refine anyH_take (i := 9) (v := .pointer (some ⟨gc, 0, none⟩)) (some 49) rfl rfl (by kernel_rfl) (by kernel_rfl) (by kernel_rfl) (fun _ _ _ h => h) (Or.inl ⟨by rfl, fun _ _ => by rfl⟩) (by assumption) ?_
    simp only [Act.put, List.setIfInBounds_toArray, List.set_cons_zero, List.set_cons_succ]
    refine anyH_take (i := 11) (v := .int .u64 (m : Nat)) (some 51) rfl rfl (by kernel_rfl) (by kernel_rfl) (by kernel_rfl) (fun _ _ _ h => h) (Or.inl ⟨by rfl, fun _ _ => by rfl⟩) (by assumption) ?_
    simp only [Act.put, List.setIfInBounds_toArray, List.set_cons_zero, List.set_cons_succ]
    refine anyH_take (i := 12) (some 52) rfl rfl (by kernel_rfl) (by kernel_rfl) (by kernel_rfl) (fun _ _ _ h => h) (yieldsIf_load_mid (by rfl) 44 (.tmp 4) rfl g4 0 rfl VL _ (fun _ h => h.2.1) hu2 rfl hi32) (by assumption) ?_
    simp only [Act.put, List.setIfInBounds_toArray, List.set_cons_zero, List.set_cons_succ]
    refine wpAnyH_ready (rs := [10]) (by kernel_rfl) (by simp) ?_
    refine AllReadyH.cons rfl (fun K hK => ?_) AllReadyH.nil
    go_simp
    go_at_call 21
    refine Calls.mono (cbytes_at gc m x CL w8.drew hml hx HCL.out (hC8.drewN 1)) ?_
    rintro e w9 ⟨rfl, hb9⟩
    have hX9 := (hX8.drewN 1).up hb9
    have hP9 := (hP8.drewN 1).up hb9
    have hQ9 := (hQ8.drewN 1).up hb9
    go_wp2_with fail
    refine hK.out _ _ ⟨hP9.range, hX9.range, hQ9.range⟩ (fun hHeld => ?_)
    clear hK K
    try simp only [Act.put, List.setIfInBounds_toArray, List.set_cons_zero, List.set_cons_succ]
    refine wpAnyH_ready (rs := [13]) (by kernel_rfl) (by simp) ?_
    refine AllReadyH.cons rfl (fun K hK => ?_) AllReadyH.nil
    go_simp
    go_at_call 22
    refine Calls.mono (rbytes_at m x VL CL w9 hml hx HVL.out HCL.out) ?_
    rintro e w10 ⟨rfl, hb10⟩
    have hX10 := hX9.up hb10
    have hP10 := hP9.up hb10
    have hQ10 := hQ9.up hb10
    go_wp2_with fail
    refine hK.out _ _ ⟨hP10.range, hX10.range, hQ10.range⟩ (fun hHeld => ?_)
    clear hK K
    try simp only [Act.put, List.setIfInBounds_toArray, List.set_cons_zero, List.set_cons_succ]
    refine anyH_take (i := 14) (v := .bool false) (some 54) rfl rfl (by kernel_rfl) (by kernel_rfl) (by kernel_rfl) (fun _ _ _ h => h) (Or.inl ⟨by rfl, fun _ _ => by go_simp⟩) (by assumption) ?_
    simp only [Act.put, List.setIfInBounds_toArray, List.set_cons_zero, List.set_cons_succ]
    refine anyH_take (i := 15) (v := .bool false) (some 55) rfl rfl (by kernel_rfl) (by kernel_rfl) (by kernel_rfl) (fun _ _ _ h => h) (Or.inl ⟨by rfl, fun _ _ => by rfl⟩) (by assumption) ?_
    simp only [Act.put, List.setIfInBounds_toArray, List.set_cons_zero, List.set_cons_succ]
    refine anyH_take (i := 16) (v := .bool false) (some 56) rfl rfl (by kernel_rfl) (by kernel_rfl) (by kernel_rfl) (fun _ _ _ h => h) (Or.inl ⟨by rfl, fun _ _ => by rfl⟩) (by assumption) ?_
    simp only [Act.put, List.setIfInBounds_toArray, List.set_cons_zero, List.set_cons_succ]
    refine anyH_take (i := 17) (v := .int .u64 (m : Nat)) (some 57) rfl rfl (by kernel_rfl) (by kernel_rfl) (by kernel_rfl) (fun _ _ _ h => h) (Or.inl ⟨by rfl, fun _ _ => by rfl⟩) (by assumption) ?_
    simp only [Act.put, List.setIfInBounds_toArray, List.set_cons_zero, List.set_cons_succ]
    refine anyH_take (i := 18) (v := .int .u64 (m : Nat)) (some 58) rfl rfl (by kernel_rfl) (by kernel_rfl) (by kernel_rfl) (fun _ _ _ h => h) (Or.inl ⟨by rfl, fun _ _ => by rfl⟩) (by assumption) ?_
    simp only [Act.put, List.setIfInBounds_toArray, List.set_cons_zero, List.set_cons_succ]
    refine anyH_take (i := 19) (v := .bool false) (some 59) rfl rfl (by kernel_rfl) (by kernel_rfl) (by kernel_rfl) (fun _ _ _ h => h) (Or.inl ⟨by rfl, fun _ _ => by go_simp⟩) (by assumption) ?_
    simp only [Act.put, List.setIfInBounds_toArray, List.set_cons_zero, List.set_cons_succ]
    refine anyH_take (i := 20) (v := .bool false) (some 60) rfl rfl (by kernel_rfl) (by kernel_rfl) (by kernel_rfl) (fun _ _ _ h => h) (Or.inl ⟨by rfl, fun _ _ => by rfl⟩) (by assumption) ?_
    simp only [Act.put, List.setIfInBounds_toArray, List.set_cons_zero, List.set_cons_succ]
    refine anyH_take (i := 21) (v := .bool false) (some 61) rfl rfl (by kernel_rfl) (by kernel_rfl) (by kernel_rfl) (fun _ _ _ h => h) (Or.inl ⟨by rfl, fun _ _ => by rfl⟩) (by assumption) ?_
    simp only [Act.put, List.setIfInBounds_toArray, List.set_cons_zero, List.set_cons_succ]
    refine anyH_take (i := 22) (some 62) rfl rfl (by kernel_rfl) (by kernel_rfl) (by kernel_rfl) (fun _ _ _ h => h) (yieldsIf_load_mid (by rfl) 44 (.tmp 12) rfl g12 0 rfl VL _ (fun _ h => h.2.2) hu2 rfl hi32) (by assumption) ?_
    simp only [Act.put, List.setIfInBounds_toArray, List.set_cons_zero, List.set_cons_succ]
    refine anyH_take (i := 23) (some 63) rfl rfl (by kernel_rfl) (by kernel_rfl) (by kernel_rfl) (fun _ _ _ h => h) (yieldsIf_load_mid (by rfl) 44 (.tmp 4) rfl g4 0 rfl VL _ (fun _ h => h.2.1) hu2 rfl hi32) (by assumption) ?_
    simp only [Act.put, List.setIfInBounds_toArray, List.set_cons_zero, List.set_cons_succ]
    refine anyH_take (i := 24) (v := .bool false) (some 64) rfl rfl (by kernel_rfl) (by kernel_rfl) (by kernel_rfl) (fun _ _ _ h => h) (Or.inl ⟨by rfl, fun _ _ => by go_simp⟩) (by assumption) ?_
    simp only [Act.put, List.setIfInBounds_toArray, List.set_cons_zero, List.set_cons_succ]
    refine anyH_take (i := 25) (v := .bool false) (some 65) rfl rfl (by kernel_rfl) (by kernel_rfl) (by kernel_rfl) (fun _ _ _ h => h) (Or.inl ⟨by rfl, fun _ _ => by rfl⟩) (by assumption) ?_
    simp only [Act.put, List.setIfInBounds_toArray, List.set_cons_zero, List.set_cons_succ]
    refine wpAnyH_done (by kernel_rfl) ?_ _
    have hC10 := ((hC8.drewN 1).up hb9).up hb10
    have ho10 := ((ho8.drewN 1).step hb9).step hb10
    have hlast : Below w.heap.size w w10 := hB2.trans (ho10.below hB2s (by rintro k (rfl | rfl) <;> omega))
    clear hX8 hP8 hQ8 hC8 ho8 hX9 hP9 hQ9 hP10 hQ10 hb9 hb10 heqCC heqVV
    clear hHeld
    by_cases hkl : k = len
    · have ht2 : ((k : Int) == (len : Int)) = true := by rw [hkl]; simp
      clear hkl
      go_wp2_with fail
      exact bodyPost_ret (v := .bool true) (by simp [results, Try.f5]) rfl ⟨rfl, hlast⟩
    · have ht2 : ((k : Int) == (len : Int)) = false := by rw [beq_eq_false_iff_ne]; omega
      obtain ⟨b, off, rfl, hb, hr, hrg⟩ := hds.range hlast (k := k) (by rw [Hdl.out]; omega)
      obtain ⟨r, hrr⟩ : ∃ r, ds.getD k [] = r := ⟨_, rfl⟩
      rw [hrr] at hr hrg
      obtain ⟨RL, hRL⟩ : ∃ V, V = Lib.byteCells r := ⟨_, rfl⟩
      rw [← hRL] at hrg
      have HRL := Lib.hid hRL
      have hi32r : (Try.prog.info? 44).map (·.size) = some RL.length := by rw [hRL, Lib.byteCells_length, hr]; exact digInfo
      have hk1 : (k : Int) < (len : Int) := by omega
      have hbg : b < g4 := by omega
      clear hRL hrr hkl
      by_cases hmm : m = mostN
      · have hmo : ((m : Int) == 18446744073709551615) = true := by rw [hmm]; rfl
        have Hmm := Lib.hid hmm
        clear hmm
        go_wp2_with (refine wpList_load_mid rfl 44 _ rfl b (off + k * 32) rfl RL _ hrg hu2 rfl hi32r ?_)
        refine Calls.mono (advance_at gc m x r RL w10 hml hx hr HRL.out hC10) ?_
        rintro e w11 ⟨rfl, hA11, ho11⟩
        rw [if_pos Hmm.out] at hA11 ⊢
        have hX11 : Arr w11 g4 44 (Lib.byteCells x) := by rw [← HVL.out]; exact hX10.only ho11 (show ¬ g4 = gc by omega)
        have hor : Only (fun k => k = g4 ∨ k = gc) w2 w11 := ho10.trans (ho11.more (fun _ _ h => .inr h))
        clear ho11 hX10 hC10 ho10 hrg
        go_wp2_with fail
        go_roundw
        case rel => exact ⟨k + 1, m, x, by omega, by go_num, rfl, hml, hx, hX11, hA11, hor⟩
        case measure => simp [intOf]; omega
      · have hmo : ((m : Int) == 18446744073709551615) = false := by unfold mostN at hmm; rw [beq_eq_false_iff_ne]; omega
        have hm1 : m + 1 < 18446744073709551616 := by unfold mostN at hmm; omega
        have hadd : IntKind.u64.wrap ((m : Int) + 1) = ((m + 1 : Nat) : Int) := by rw [IntWalk.u64_in _ (by omega)]; omega
        have Hmm := Lib.hid hmm
        clear hmm
        go_wp2_with (refine wpList_load_mid rfl 44 _ rfl b (off + k * 32) rfl RL _ hrg hu2 rfl hi32r ?_)
        refine Calls.mono (advance_at gc m x r RL w10 hml hx hr HRL.out hC10) ?_
        rintro e w11 ⟨rfl, hA11, ho11⟩
        rw [if_neg Hmm.out] at hA11 ⊢
        have hX11 : Arr w11 g4 44 VL := hX10.only ho11 (show ¬ g4 = gc by omega)
        have hor : Only (fun k => k = g4 ∨ k = gc) w2 w11 := ho10.trans (ho11.more (fun _ _ h => .inr h))
        have hb10 : b < w10.heap.size := Nat.lt_of_lt_of_le hbg (Nat.le_of_lt hX10.lt)
        have hrg11 : w11.rangeAt b (off + k * 32) RL := fun j v hj => by
          rw [World.cell?_of_block (ho11.block b hb10 (show ¬ b = gc by omega))]; exact hrg j v hj
        have hrl : RL.length = 32 := by rw [HRL.out, Lib.byteCells_length, hr]
        have hth : w11.there g4 0 32 := fun j hj => by
          rw [hX11.cell, hX11.frozen]
          refine ⟨?_, rfl⟩
          have : j < VL.length := by rw [HVL.out, Lib.byteCells_length, hx]; omega
          rw [Nat.zero_add, List.getElem?_eq_getElem this]
          rfl
        have hXn : Arr (w11.drew.setCells g4 0 RL) g4 44 (Lib.byteCells r) := by
          have h1 := Arr.setCells RL 0 VL w11.drew (hX11.drewN 1) (by rw [HVL.out, Lib.byteCells_length, hx, hrl])
          rw [← HRL.out]; simpa using h1
        have honw : Only (fun k => k = g4) w11 (w11.drew.setCells g4 0 RL) := Only.setCells (R := fun k => k = g4) rfl RL 0 _ ((Only.refl _ w11).drewN 1)
        have hAn := hA11.only honw (show ¬ gc = g4 by omega)
        have hon : Only (fun k => k = g4 ∨ k = gc) w2 (w11.drew.setCells g4 0 RL) := hor.trans (honw.more (fun _ _ h => .inl h))
        have hrg12 : (w11.drew.setCells g4 0 RL).rangeAt b (off + k * 32) RL := World.rangeAt_setCells_apart (w := w11.drew) hrg11 g4 0 RL (.inl (by omega))
        have hth12 : (w11.drew.setCells g4 0 RL).there g4 0 32 := World.there_setCells (w := w11.drew) hth g4 0 RL
        have hone : ∀ v ∈ RL, v.oneCell' = true := by rw [HRL.out]; exact byteCells_one r
        have HXn := Lib.hid hXn
        have HAn := Lib.hid hAn
        have Hon := Lib.hid hon
        clear hX10 hC10 ho10 hrg ho11 hX11 hor hA11 hXn honw hAn hon
        go_wp2_with fail
        refine wp_region_held_drew (S := fun w' => w'.rangeAt b (off + k * 32) RL ∧ w'.there g4 0 32) (by kernel_rfl) ⟨hrg11, hth⟩ (fun hHeld => ?_)
        refine anyH_take (i := 0) (v := .int .u64 (m : Nat)) (some 82) rfl rfl (by kernel_rfl) (by kernel_rfl) (by kernel_rfl) (fun _ _ _ h => h) (Or.inl ⟨by rfl, fun _ _ => by rfl⟩) (by assumption) ?_
        simp only [Act.put, List.setIfInBounds_toArray, List.set_cons_zero, List.set_cons_succ]
        refine anyH_take (i := 1) (v := .int .u64 ((m + 1 : Nat) : Int)) (some 83) rfl rfl (by kernel_rfl) (by kernel_rfl) (by kernel_rfl) (fun _ _ _ h => h) (Or.inl ⟨by rfl, fun _ _ => by go_simp⟩) (by assumption) ?_
        simp only [Act.put, List.setIfInBounds_toArray, List.set_cons_zero, List.set_cons_succ]
        refine anyH_take (i := 2) (v := .slice (some ⟨b, off, none⟩) len cap) (some 84) rfl rfl (by kernel_rfl) (by kernel_rfl) (by kernel_rfl) (fun _ _ _ h => h) (Or.inl ⟨by rfl, fun _ _ => by rfl⟩) (by assumption) ?_
        simp only [Act.put, List.setIfInBounds_toArray, List.set_cons_zero, List.set_cons_succ]
        refine anyH_take (i := 3) (v := .int .i64 (k : Nat)) (some 85) rfl rfl (by kernel_rfl) (by kernel_rfl) (by kernel_rfl) (fun _ _ _ h => h) (Or.inl ⟨by rfl, fun _ _ => by rfl⟩) (by assumption) ?_
        simp only [Act.put, List.setIfInBounds_toArray, List.set_cons_zero, List.set_cons_succ]
        refine anyH_take (i := 4) (v := .pointer (some ⟨b, off + k * 32, none⟩)) (some 86) rfl rfl (by kernel_rfl) (by kernel_rfl) (by kernel_rfl) (fun _ _ _ h => h) (Or.inl ⟨by rfl, fun _ _ => by go_simp⟩) (by assumption) ?_
        simp only [Act.put, List.setIfInBounds_toArray, List.set_cons_zero, List.set_cons_succ]
        refine anyH_take (i := 5) (some 87) rfl rfl (by kernel_rfl) (by kernel_rfl) (by kernel_rfl) (fun _ _ _ h => h) (yieldsIf_load_mid (by rfl) 44 (.tmp 86) rfl b (off + k * 32) rfl RL _ (fun _ h => h.1) hu2 rfl hi32r) (by assumption) ?_
        simp only [Act.put, List.setIfInBounds_toArray, List.set_cons_zero, List.set_cons_succ]
        refine anyH_take (i := 6) (v := .int .u64 ((m + 1 : Nat) : Int)) (some 0) rfl rfl (by kernel_rfl) (by kernel_rfl) (by kernel_rfl) (fun _ _ _ h => h) (Or.inl ⟨by rfl, fun _ _ => by rfl⟩) (by assumption) ?_
        simp only [Act.put, List.setIfInBounds_toArray, List.set_cons_zero, List.set_cons_succ]
        refine wpAnyH_ready (rs := [7]) (by kernel_rfl) (by simp) ?_
        refine AllReadyH.cons rfl (fun K hK => ?_) AllReadyH.nil
        rw [if_pos (by rfl)]
        refine wp_store_mid 44 _ _ rfl g4 0 RL.toArray rfl rfl (by rw [List.size_toArray, hrl]; exact hth) (by rw [List.size_toArray]; exact hi32r) (all_oneCell_toArray hone) ?_
        refine hK.out _ _ ⟨hrg12, hth12⟩ (fun hHeld4 => ?_)
        clear hK K
        refine wpAnyH_done (by kernel_rfl) ?_ _
        rw [show RL.toArray.toList = RL from rfl]
        clear hHeld hHeld4 hrg11 hrg12 hth hth12
        go_wp2_with fail
        go_roundw
        case rel => exact ⟨k + 1, m + 1, r, by omega, by go_num, by go_num, hm1, hr, HXn.out, HAn.out, Hon.out⟩
        case measure => simp [intOf]; omega

end Go.Proofs.Ytggefcelcjhgeac

/-
  The walk of MerkleVerifies.
-/
import Derived.Test.YtejmojldfffbnabVerify
import Derived.Test.YtejmojldfffbnabMSpeaks
namespace Go.Proofs.Ytejmojldfffbnab
open Go.RowKit
set_option linter.unusedVariables false
set_option linter.unusedSimpArgs false

set_option maxHeartbeats 8000000 in
set_option maxRecDepth 100000 in
theorem mver_great (RtL : List Value) (n a : Int) (Ar : Option Addr) (lr cr : Nat) (Ap : Option Addr) (m cp : Nat) (w : World) (hlc : lr ≤ cr) (hcm : cr ≤ 9223372036854775807) (hmc : m ≤ cp) (hcp : cp ≤ 9223372036854775807) (h : 300 < lr ∨ 70 < m) :
    Calls Try.prog 5 #[.agg RtL.toArray, .int .i64 n, .int .i64 a, .slice Ar lr cr, .slice Ap m cp] w fun e w' => e = .returned (.bool true) ∧ Below w.heap.size w w' := by
  have hd : decide ((300 : Int) < (lr : Int)) = true ∨ (decide ((300 : Int) < (lr : Int)) = false ∧ decide ((70 : Int) < (m : Int)) = true) := by
    simp only [decide_eq_true_eq, decide_eq_false_iff_not]
    omega
  have hb : Below w.heap.size w (w.alloc (.cells RtL.toArray 26)) := (Below.refl _ w).alloc (Nat.le_refl _) _
  clear h
  rcases hd with h1 | ⟨h1, h2⟩
  all_goals
    go_enter Try.func5, Try.ntmps5
    go_wp2_with fail
    refine Calls.mono (mspeaks_true _) ?_
    rintro e w1 ⟨rfl, hb1⟩
    have hB1 := hb.trans (hb1.mono hb.size)
    go_wp2_with fail
    go_ret
    exact ⟨rfl, hB1⟩

set_option maxHeartbeats 16000000 in
set_option maxRecDepth 100000 in
theorem mver_in (rt : List UInt8) (RtL : List Value) (n a : Int) (hn2 : n ≤ 9223372036854775807) (row : List UInt8) (ds : List (List UInt8)) (Ar : Option Addr) (lr cr : Nat) (Ap : Option Addr) (m cp : Nat) (w : World) (hV : VIn w rt RtL row ds Ar lr cr Ap m cp) (h70 : m ≤ 70) :
    Calls Try.prog 5 #[.agg RtL.toArray, .int .i64 n, .int .i64 a, .slice Ar lr cr, .slice Ap m cp] w fun e w' => e = .returned (.bool true) ∧ Below w.heap.size w w' := by
  have hlr := hV.hr0
  have hlcr := hV.hlc
  have hcrm := hV.hcm
  have hmcp := hV.hmc
  have hcp63 := hV.hcp
  unfold maxLen at hcrm
  have h1 : decide ((300 : Int) < (lr : Int)) = false := by simp; omega
  have h2 : decide ((70 : Int) < (m : Int)) = false := by simp; omega
  obtain ⟨W, hW⟩ : ∃ W, W = w.alloc (.cells RtL.toArray 26) := ⟨_, rfl⟩
  have hRW : Arr W w.heap.size 26 RtL := by rw [hW]; exact Arr.new w _ _
  have hBw : Below w.heap.size w W := by rw [hW]; exact (Below.refl _ w).alloc (Nat.le_refl _) _
  have hVW : VIn W rt RtL row ds Ar lr cr Ap m cp := hV.up hBw
  have HRi := Lib.hid (show (Try.prog.info? 26).map (·.size) = some RtL.length by rw [hV.hRt, Lib.byteCells_length, hV.rt32]; exact digInfo)
  obtain ⟨B, hBe⟩ : ∃ B, verF rt n a row ds = B := ⟨_, rfl⟩
  have HBe := Lib.hid hBe
  have HW := Lib.hid hW
  clear hW hBe hV
  go_enter Try.func5, Try.ntmps5
  go_wp2_with fail
  rw [← HW.out]
  refine Calls.mono (mspeaks_true W) ?_
  rintro e w2 ⟨rfl, hb2⟩
  have hR2 := hRW.up hb2
  have hV2 := hVW.up hb2
  have hBw2 := hBw.trans (hb2.mono hBw.size)
  obtain ⟨g, hg⟩ : ∃ g, g = w.heap.size := ⟨_, rfl⟩
  rw [← hg] at hR2 ⊢
  clear hg HW hRW hVW hBw hb2
  go_wp2_with fail
  have hB20 : Below w2.heap.size w2 w2.drew := below_drew _ _
  refine wp_region_held_drew (S := fun w' => w'.rangeAt g 0 RtL) (by kernel_rfl) (hR2.drewN 1).range (fun hHeld => ?_)
  refine anyH_take (i := 0) (some 23) rfl rfl (by kernel_rfl) (by kernel_rfl) (by kernel_rfl) (fun _ _ _ h => h) (yieldsIf_load_mid (by rfl) 26 (.tmp 5) rfl g 0 rfl RtL _ (fun _ h => h) Try.underlying26 rfl HRi.out) (by assumption) ?_
  simp only [Act.put, List.setIfInBounds_toArray, List.set_cons_zero, List.set_cons_succ]
  refine anyH_take (i := 1) (v := .int .i64 n) (some 24) rfl rfl (by kernel_rfl) (by kernel_rfl) (by kernel_rfl) (fun _ _ _ h => h) (Or.inl ⟨by rfl, fun _ _ => by rfl⟩) (by assumption) ?_
  simp only [Act.put, List.setIfInBounds_toArray, List.set_cons_zero, List.set_cons_succ]
  refine anyH_take (i := 2) (v := .int .i64 a) (some 25) rfl rfl (by kernel_rfl) (by kernel_rfl) (by kernel_rfl) (fun _ _ _ h => h) (Or.inl ⟨by rfl, fun _ _ => by rfl⟩) (by assumption) ?_
  simp only [Act.put, List.setIfInBounds_toArray, List.set_cons_zero, List.set_cons_succ]
  refine anyH_take (i := 3) (v := .slice Ar lr cr) (some 26) rfl rfl (by kernel_rfl) (by kernel_rfl) (by kernel_rfl) (fun _ _ _ h => h) (Or.inl ⟨by rfl, fun _ _ => by rfl⟩) (by assumption) ?_
  simp only [Act.put, List.setIfInBounds_toArray, List.set_cons_zero, List.set_cons_succ]
  refine anyH_take (i := 4) (v := .slice Ap m cp) (some 27) rfl rfl (by kernel_rfl) (by kernel_rfl) (by kernel_rfl) (fun _ _ _ h => h) (Or.inl ⟨by rfl, fun _ _ => by rfl⟩) (by assumption) ?_
  simp only [Act.put, List.setIfInBounds_toArray, List.set_cons_zero, List.set_cons_succ]
  refine anyH_take (i := 6) (some 29) rfl rfl (by kernel_rfl) (by kernel_rfl) (by kernel_rfl) (fun _ _ _ h => h) (yieldsIf_load_mid (by rfl) 26 (.tmp 5) rfl g 0 rfl RtL _ (fun _ h => h) Try.underlying26 rfl HRi.out) (by assumption) ?_
  simp only [Act.put, List.setIfInBounds_toArray, List.set_cons_zero, List.set_cons_succ]
  refine anyH_take (i := 7) (v := .int .i64 n) (some 30) rfl rfl (by kernel_rfl) (by kernel_rfl) (by kernel_rfl) (fun _ _ _ h => h) (Or.inl ⟨by rfl, fun _ _ => by rfl⟩) (by assumption) ?_
  simp only [Act.put, List.setIfInBounds_toArray, List.set_cons_zero, List.set_cons_succ]
  refine anyH_take (i := 8) (v := .int .i64 a) (some 31) rfl rfl (by kernel_rfl) (by kernel_rfl) (by kernel_rfl) (fun _ _ _ h => h) (Or.inl ⟨by rfl, fun _ _ => by rfl⟩) (by assumption) ?_
  simp only [Act.put, List.setIfInBounds_toArray, List.set_cons_zero, List.set_cons_succ]
  refine anyH_take (i := 9) (v := .slice Ar lr cr) (some 32) rfl rfl (by kernel_rfl) (by kernel_rfl) (by kernel_rfl) (fun _ _ _ h => h) (Or.inl ⟨by rfl, fun _ _ => by rfl⟩) (by assumption) ?_
  simp only [Act.put, List.setIfInBounds_toArray, List.set_cons_zero, List.set_cons_succ]
  refine anyH_take (i := 10) (v := .slice Ap m cp) (some 33) rfl rfl (by kernel_rfl) (by kernel_rfl) (by kernel_rfl) (fun _ _ _ h => h) (Or.inl ⟨by rfl, fun _ _ => by rfl⟩) (by assumption) ?_
  simp only [Act.put, List.setIfInBounds_toArray, List.set_cons_zero, List.set_cons_succ]
  refine wpAnyH_ready (rs := [5]) (by kernel_rfl) (by simp) ?_
  refine AllReadyH.cons rfl (fun KC hKC => ?_) AllReadyH.nil
  go_simp
  go_at_call 16
  refine Calls.mono (verify_at n a hn2 rt RtL row ds Ar lr cr Ap m cp B _ (hV2.up hB20) HBe.out) ?_
  rintro e w21 ⟨rfl, hb21⟩
  have hB21 := hB20.trans (hb21.mono hB20.size)
  go_wp2_with fail
  refine hKC.out _ _ (Arr.below hR2 hB21 hR2.lt).range (fun hHeld21 => ?_)
  clear hKC KC
  try simp only [Act.put, List.setIfInBounds_toArray, List.set_cons_zero, List.set_cons_succ]
  refine wpAnyH_ready (rs := [11]) (by kernel_rfl) (by simp) ?_
  refine AllReadyH.cons rfl (fun KC hKC => ?_) AllReadyH.nil
  go_simp
  go_at_call 19
  refine Calls.mono (rverify_at n a hn2 rt RtL row ds Ar lr cr Ap m cp B _ (hV2.up hB21) HBe.out) ?_
  rintro e w22 ⟨rfl, hb22⟩
  have hB22 := hB21.trans (hb22.mono hB21.size)
  go_wp2_with fail
  refine hKC.out _ _ (Arr.below hR2 hB22 hR2.lt).range (fun hHeld22 => ?_)
  clear hKC KC
  try simp only [Act.put, List.setIfInBounds_toArray, List.set_cons_zero, List.set_cons_succ]
  refine anyH_take (i := 12) (v := .bool false) (some 35) rfl rfl (by kernel_rfl) (by kernel_rfl) (by kernel_rfl) (fun _ _ _ h => h) (Or.inl ⟨by rfl, fun _ _ => by go_simp⟩) (by assumption) ?_
  simp only [Act.put, List.setIfInBounds_toArray, List.set_cons_zero, List.set_cons_succ]
  refine wpAnyH_done (by kernel_rfl) ?_ _
  have hVk := hV2.up hB22
  have hRk := Arr.below hR2 hB22 hR2.lt
  have hBk := hBw2.trans (hB22.mono hBw2.size)
  clear hHeld hV2 hR2 hBw2
  obtain ⟨wk, hwk⟩ : ∃ x, x = w22 := ⟨_, rfl⟩
  rw [← hwk] at hVk hRk hBk ⊢
  clear hwk
  by_cases ho : a < 0 ∨ n ≤ a
  · have hd : decide (a < 0) = true ∨ (decide (a < 0) = false ∧ decide (n ≤ a) = true) := by
      simp only [decide_eq_true_eq, decide_eq_false_iff_not]
      omega
    clear ho
    rcases hd with h1 | ⟨h1, h2⟩
    all_goals
      go_wp2_with fail
      go_ret
      exact ⟨rfl, hBk⟩
  · obtain ⟨k, rfl⟩ : ∃ k : Nat, n = (k : Nat) := ⟨n.toNat, by omega⟩
    obtain ⟨j, rfl⟩ : ∃ j : Nat, a = (j : Nat) := ⟨a.toNat, by omega⟩
    have hjk : j < k := by omega
    have hd1 : decide ((j : Int) < 0) = false := by simp
    have hd2 : decide (k ≤ j) = false := by simp; omega
    have hk6 : k ≤ 9223372036854775807 := by omega
    obtain ⟨IL, hIL⟩ : ∃ V, V = Lib.byteCells ((leadF k j row ds).1) := ⟨_, rfl⟩
    have HILl := Lib.hid (show IL.length = 32 by rw [hIL, Lib.byteCells_length]; exact leadF_length _ _ _ _)
    have HILi := Lib.hid (show (Try.prog.info? 26).map (·.size) = some IL.toArray.size by rw [List.size_toArray, HILl.out]; exact digInfo)
    have HIL1 := Lib.hid (show IL.toArray.all (·.oneCell') = true by rw [hIL]; exact dig_one _)
    have HILs := Lib.hid (show (Lib.byteCells zeros).toArray.size = IL.toArray.size by rw [List.size_toArray, List.size_toArray, HILl.out]; rfl)
    have HIL := Lib.hid hIL
    clear hIL
    obtain ⟨ok, hok⟩ : ∃ ok, ok = (leadF k j row ds).2 := ⟨_, rfl⟩
    have hver : verF (leadF k j row ds).1 (k : Int) (j : Int) row ds = ok := by
      rw [verF_in hjk, decide_eq_true rfl, Bool.and_true, hok]
    have Hok := Lib.hid hok
    have Hver := Lib.hid hver
    clear hok hver ho
    go_wp2_with fail
    refine Calls.mono (lead_all k hk6 (by omega) j row ds IL ok Ar lr cr Ap m cp wk hjk hVk.hrl hVk.hr0 hVk.hlc hVk.hcm hVk.hbs hVk.hds hVk.hmc hVk.hcp hVk.hdg HIL.out Hok.out) ?_
    rintro e w6 ⟨rfl, hb6⟩
    have hV6 := hVk.up hb6
    have hB6 := hBk.trans (hb6.mono hBk.size)
    clear hVk hRk hBk hb6
    go_wp2_with (first
      | (refine wpList_load_row rfl _ _ rfl w6.heap.size rfl 26 IL.toArray (0, 0) _ hP7 Try.underlying26 rfl HILi.out ?_)
      | (change wpList _ _ _ _ _ (w6.alloc (.cells (Lib.byteCells zeros).toArray 26)); refine wpList_store_row rfl _ _ _ rfl w6.heap.size IL.toArray rfl rfl 26 (Lib.byteCells zeros).toArray (heap_alloc_new w6 _) HILi.out HILs.out HIL1.out ?_; obtain ⟨w7, hw7⟩ : ∃ x, x = (w6.alloc (.cells (Lib.byteCells zeros).toArray 26)).setRow w6.heap.size IL.toArray := ⟨_, rfl⟩; rw [← hw7]; obtain ⟨hP7, hb7⟩ := alloc_row w6 26 (Lib.byteCells zeros).toArray IL; rw [← hw7] at hP7 hb7; clear hw7))
    have hV7 := hV6.up hb7
    have hB7 := hB6.trans (hb7.mono hB6.size)
    have hVd : VIn w7 (leadF k j row ds).1 IL row ds Ar lr cr Ap m cp := ⟨leadF_length _ _ _ _, HIL.out, hV7.hrl, hV7.hr0, hV7.hlc, hV7.hcm, hV7.hbs, hV7.hds, hV7.hmc, hV7.hcp, hV7.hdg⟩
    clear hV6 hV7 hB6 hb7
    refine Calls.mono (verify_at (k : Int) (j : Int) (by omega) _ IL row ds Ar lr cr Ap m cp ok w7 hVd Hver.out) ?_
    rintro e w8 ⟨rfl, hb8⟩
    have hB8 := hB7.trans (hb8.mono hB7.size)
    go_wp2_with fail
    go_ret
    exact ⟨rfl, hB8⟩

theorem merkleVerifies_walk (rt : List UInt8) (n : Int) (hn1 : -9223372036854775808 ≤ n) (hn2 : n ≤ 9223372036854775807) (a : Int) (ha1 : -9223372036854775808 ≤ a) (ha2 : a ≤ 9223372036854775807) (Ar : Option Addr) (cr : Nat) (row : List UInt8) (hlc : row.length ≤ cr) (hcm : cr ≤ maxLen) (Ap : Option Addr) (m cp : Nat) (ds : List (List UInt8)) (hds : ds.length = m) (hmc : m ≤ cp) (hcp : cp ≤ maxLen) (w : World) (hrt : rt.length = 32) (hbs : Bs w w.heap.size Ar row) (hdg : DigsAt w Ap ds) :
    Calls Try.prog 5 #[digV rt, .int .i64 n, .int .i64 a, .slice Ar row.length cr, .slice Ap m cp] w fun e w' => e = .returned (.bool true) ∧ Below w.heap.size w w' := by
  have hcm' := hcm
  unfold maxLen at hcp hcm'
  by_cases h : 300 < row.length ∨ 70 < m
  · exact mver_great (Lib.byteCells rt) n a Ar row.length cr Ap m cp w hlc (by omega) hmc (by omega) h
  · exact mver_in rt (Lib.byteCells rt) n a hn2 row ds Ar row.length cr Ap m cp w ⟨hrt, rfl, rfl, by omega, hlc, hcm, hbs, hds, hmc, by omega, hdg⟩ (by omega)

end Go.Proofs.Ytejmojldfffbnab

/-
  The walk of MerkleTold.
-/
import Derived.Test.YtejmojldfffbnabGreatRows
import Derived.Test.YtejmojldfffbnabMSpeaks
import Derived.Test.YtejmojldfffbnabRowsArg
import Derived.Test.YtejmojldfffbnabVerify
import Derived.Test.YtejmojldfffbnabProve
import Derived.Test.YtejmojldfffbnabRProve
import Derived.Test.YtejmojldfffbnabDigSame
namespace Go.Proofs.Ytejmojldfffbnab
open Go.RowKit
set_option linter.unusedVariables false
set_option linter.unusedSimpArgs false

theorem digSame_below (ds : List (List UInt8)) (A A' : Option Addr) (n c c' : Nat) (w : World) (hn : ds.length = n) (hc : n ≤ c) (hm : c ≤ 9223372036854775807) (hc' : n ≤ c') (hm' : c' ≤ 9223372036854775807) (h : DigsAt w A ds) (h' : DigsAt w A' ds) :
    Calls Try.prog 17 #[.slice A n c, .slice A' n c'] w fun e w' => e = .returned (.bool true) ∧ Below w.heap.size w w' :=
  (digSame_any ds A A' n c c' w hn hc hm hc' hm' h h').mono fun e w' hp => ⟨hp.1, by obtain ⟨nd, rfl⟩ := hp.2; exact ⟨rfl, rfl, rfl, Nat.le_refl _, fun _ _ => rfl⟩⟩

set_option maxHeartbeats 8000000 in
set_option maxRecDepth 100000 in
theorem mtold_great (rs : List (List UInt8)) (A : Option Addr) (n c : Nat) (a : Int) (w : World) (hn : rs.length = n) (hc : n ≤ c) (hcm : c ≤ 9223372036854775807) (hrs : RowsAt w w.heap.size A rs) (hG : greatF rs = true) :
    Calls Try.prog 4 #[.slice A n c, .int .i64 a] w fun e w' => e = .returned (.bool true) ∧ Below w.heap.size w w' := by
  have HG := Lib.hid hG
  have Hn := Lib.hid hn
  clear hG hn
  go_enter Try.func4, Try.ntmps4
  go_wp2_with fail
  refine Calls.mono (mspeaks_true w) ?_
  rintro e w1 ⟨rfl, hb1⟩
  have hr1 := hrs.below hb1 (Nat.le_refl _)
  go_wp2_with fail
  refine Calls.mono (great_any _ rs A n c w1 Hn.out hc hcm hr1) ?_
  rintro e w2 ⟨rfl, rfl⟩
  rw [HG.out]
  go_wp2_with fail
  go_ret
  exact ⟨rfl, hb1⟩

set_option maxHeartbeats 16000000 in
set_option maxRecDepth 100000 in
theorem mtold_out (rs : List (List UInt8)) (A : Option Addr) (n c : Nat) (a : Int) (w : World) (hn : rs.length = n) (hc : n ≤ c) (hcm : c ≤ 9223372036854775807) (hrs : RowsAt w w.heap.size A rs) (hG : greatF rs = false) (ho : a < 0 ∨ (n : Int) ≤ a) :
    Calls Try.prog 4 #[.slice A n c, .int .i64 a] w fun e w' => e = .returned (.bool true) ∧ Below w.heap.size w w' := by
  obtain ⟨hn60, hrl300⟩ := greatF_no hG
  have hd : decide (a < 0) = true ∨ (decide (a < 0) = false ∧ decide ((n : Int) ≤ a) = true) := by
    simp only [decide_eq_true_eq, decide_eq_false_iff_not]
    omega
  obtain ⟨RL, hRL⟩ : ∃ V, V = Lib.byteCells (rootF rs) := ⟨_, rfl⟩
  have HRLl := Lib.hid (show RL.length = 32 by rw [hRL, Lib.byteCells_length]; exact rootF_length _)
  have HRLi := Lib.hid (show (Try.prog.info? 26).map (·.size) = some RL.toArray.size by rw [List.size_toArray, HRLl.out]; exact digInfo)
  have HRL1 := Lib.hid (show RL.toArray.all (·.oneCell') = true by rw [hRL]; exact dig_one _)
  have HRLs := Lib.hid (show (Lib.byteCells zeros).toArray.size = RL.toArray.size by rw [List.size_toArray, List.size_toArray, HRLl.out]; rfl)
  have HRL := Lib.hid hRL
  clear hRL
  have heq := fun w => eqv_at Try.underlying26 (rootF rs) (rootF rs) (rootF_length _) (rootF_length _) RL RL HRL.out HRL.out w
  rw [decide_eq_true rfl] at heq
  have HG := Lib.hid hG
  have Hn := Lib.hid hn
  have Hr300 := Lib.hid hrl300
  have hn6 : n ≤ 1000000 := by omega
  clear hn hrl300 hG hn60
  go_enter Try.func4, Try.ntmps4
  go_wp2_with fail
  refine Calls.mono (mspeaks_true w) ?_
  rintro e w1 ⟨rfl, hB1⟩
  have hr1 := hrs.below hB1 (Nat.le_refl _)
  go_wp2_with fail
  refine Calls.mono (great_any _ rs A n c w1 Hn.out hc hcm hr1) ?_
  rintro e w2 ⟨rfl, rfl⟩
  rw [HG.out]
  go_wp2_with fail
  refine Calls.mono (root_at rs RL _ n c _ Hn.out HRL.out hn6 hc hcm Hr300.out (hr1.more hB1.size)) ?_
  rintro e w3 ⟨rfl, hb3⟩
  have hB3 := hB1.trans (hb3.mono hB1.size)
  have hr3 := hr1.below hb3 hB1.size
  clear hb3 hr1 hrs
  go_wp2_with (change wpList _ _ _ _ _ (w3.alloc (.cells (Lib.byteCells zeros).toArray 26)); refine wpList_store_row rfl _ _ _ rfl w3.heap.size RL.toArray rfl rfl 26 (Lib.byteCells zeros).toArray (heap_alloc_new w3 _) HRLi.out HRLs.out HRL1.out ?_; obtain ⟨w4, hww4⟩ : ∃ x, x = (w3.alloc (.cells (Lib.byteCells zeros).toArray 26)).setRow w3.heap.size RL.toArray := ⟨_, rfl⟩; rw [← hww4]; obtain ⟨hP4, hb4⟩ := alloc_row w3 26 (Lib.byteCells zeros).toArray RL; rw [← hww4] at hP4 hb4; clear hww4)
  have hB4 := hB3.trans (hb4.mono hB3.size)
  have hr4 := (hr3.below hb4 hB3.size).more hB4.size
  obtain ⟨g, hg⟩ : ∃ g, g = w3.heap.size := ⟨_, rfl⟩
  rw [← hg] at hP4 ⊢
  clear hg hb4 hr3
  refine Calls.mono (prove_out A n c a w4 ho) ?_
  rintro e w5 ⟨rfl, rfl⟩
  have hP5 := hP4
  have hr5 := hr4
  have hB5 := hB4
  clear hP4 hr4 hB4 hB3 hB1
  go_wp2_with fail
  have hB0 : Below w5.heap.size w5 w5.drew := below_drew _ _
  refine wp_region_held_drew (S := fun w' => w'.rangeAt g 0 RL) (by kernel_rfl) (hP5.drewN 1).range (fun hHeld => ?_)
  refine anyH_take (i := 0) (some 20) rfl rfl (by kernel_rfl) (by kernel_rfl) (by kernel_rfl) (fun _ _ _ h => h) (yieldsIf_load_mid (by rfl) 26 (.tmp 5) rfl g 0 rfl RL _ (fun _ h => h) Try.underlying26 rfl HRLi.out) (by assumption) ?_
  simp only [Act.put, List.setIfInBounds_toArray, List.set_cons_zero, List.set_cons_succ]
  refine anyH_take (i := 1) (v := .slice A n c) (some 21) rfl rfl (by kernel_rfl) (by kernel_rfl) (by kernel_rfl) (fun _ _ _ h => h) (Or.inl ⟨by rfl, fun _ hw => by rfl⟩) (by assumption) ?_
  simp only [Act.put, List.setIfInBounds_toArray, List.set_cons_zero, List.set_cons_succ]
  refine wpAnyH_ready (rs := [2]) (by kernel_rfl) (by simp) ?_
  refine AllReadyH.cons rfl (fun KC hKC => ?_) AllReadyH.nil
  go_simp
  go_at_call 15
  refine Calls.mono (rroot_at rs RL _ n c _ Hn.out HRL.out hn6 hc hcm Hr300.out ((hr5.below hB0 (Nat.le_refl _)).more hB0.size)) ?_
  rintro e w21 ⟨rfl, hb21⟩
  have hB21 := hB0.trans (hb21.mono hB0.size)
  go_wp2_with fail
  refine hKC.out _ _ (Arr.below hP5 hB21 hP5.lt).range (fun hHeld21 => ?_)
  clear hKC KC
  try simp only [Act.put, List.setIfInBounds_toArray, List.set_cons_zero, List.set_cons_succ]
  refine anyH_take (i := 3) (v := .bool false) (some 23) rfl rfl (by kernel_rfl) (by kernel_rfl) (by kernel_rfl) (fun _ _ _ h => h) (Or.inl ⟨by rfl, fun _ hw => by go_simp⟩) (by assumption) ?_
  simp only [Act.put, List.setIfInBounds_toArray, List.set_cons_zero, List.set_cons_succ]
  refine wpAnyH_done (by kernel_rfl) ?_ _
  clear hHeld heq
  have hP6 := Arr.below hP5 hB21 hP5.lt
  have hB6 := hB5.trans (hB21.mono hB5.size)
  obtain ⟨w6, hw6⟩ : ∃ x, x = w21 := ⟨_, rfl⟩
  rw [← hw6] at hP6 hB6 ⊢
  clear hw6
  rcases hd with h1 | ⟨h1, h2⟩
  all_goals
    go_wp2_with (refine wpList_load_row_if (by rfl) _ _ rfl g rfl 26 RL.toArray _ hP6 Try.underlying26 rfl HRLi.out ?_)
    refine Calls.mono (verify_at (n : Int) a (by omega) _ RL [] [] none 0 0 none 0 0 false w6 ⟨rootF_length _, HRL.out, rfl, by omega, Nat.le_refl _, by unfold maxLen; omega, Bs.nil _ _ _, rfl, Nat.le_refl _, by omega, fun h => absurd h (by simp)⟩ (verF_out ho)) ?_
    rintro e w7 ⟨rfl, hb7⟩
    have hB7 := hB6.trans (hb7.mono hB6.size)
    go_wp2_with fail
    go_ret
    exact ⟨rfl, hB7⟩

set_option maxHeartbeats 16000000 in
set_option maxRecDepth 100000 in
theorem mtold_in (rs : List (List UInt8)) (A : Option Addr) (n c : Nat) (a : Nat) (w : World) (hn : rs.length = n) (hc : n ≤ c) (hcm : c ≤ 9223372036854775807) (hrs : RowsAt w w.heap.size A rs) (hG : greatF rs = false) (han : a < n) :
    Calls Try.prog 4 #[.slice A n c, .int .i64 (a : Nat)] w fun e w' => e = .returned (.bool true) ∧ Below w.heap.size w w' := by
  obtain ⟨hn60, hrl300⟩ := greatF_no hG
  have h1 : decide ((a : Int) < 0) = false := by simp
  have h2 : decide (n ≤ a) = false := by simp; omega
  obtain ⟨blk, off, rfl, hblk, hrow⟩ := hrs (by omega)
  obtain ⟨A0, c0, hcell, hlc0, hcm0, hb0⟩ := hrow a (by omega)
  have hl300 : (rs.getD a []).length ≤ 300 := hrl300 _ (by simp [List.getD, show a < rs.length by omega])
  have hpl := prove_leads n rs a hn han
  have hver : verF (rootF rs) (n : Int) (a : Int) (rs.getD a []) (proveF rs a) = true := by
    rw [verF_in han, hpl]; simp
  obtain ⟨m1, hm1⟩ : ∃ m1, (proveF rs a).length = m1 := ⟨_, rfl⟩
  have HPl := Lib.hid hm1
  obtain ⟨r0, hre⟩ : ∃ r, rs.getD a [] = r := ⟨_, rfl⟩
  rw [hre] at hcell hlc0 hb0 hl300 hver
  obtain ⟨l0, hl⟩ : ∃ l, r0.length = l := ⟨_, rfl⟩
  rw [hl] at hcell hlc0 hl300
  have Hl0 := Lib.hid hl
  have Hver := Lib.hid hver
  clear hrow hpl hver hm1 hre hl
  obtain ⟨RL, hRL⟩ : ∃ V, V = Lib.byteCells (rootF rs) := ⟨_, rfl⟩
  have HRLl := Lib.hid (show RL.length = 32 by rw [hRL, Lib.byteCells_length]; exact rootF_length _)
  have HRLi := Lib.hid (show (Try.prog.info? 26).map (·.size) = some RL.toArray.size by rw [List.size_toArray, HRLl.out]; exact digInfo)
  have HRL1 := Lib.hid (show RL.toArray.all (·.oneCell') = true by rw [hRL]; exact dig_one _)
  have HRLs := Lib.hid (show (Lib.byteCells zeros).toArray.size = RL.toArray.size by rw [List.size_toArray, List.size_toArray, HRLl.out]; rfl)
  have HRL := Lib.hid hRL
  clear hRL
  have heq := fun w => eqv_at Try.underlying26 (rootF rs) (rootF rs) (rootF_length _) (rootF_length _) RL RL HRL.out HRL.out w
  rw [decide_eq_true rfl] at heq
  have HG := Lib.hid hG
  have Hn := Lib.hid hn
  have Hr300 := Lib.hid hrl300
  have hn6 : n ≤ 1000000 := by omega
  clear hn hrl300 hG hn60
  go_enter Try.func4, Try.ntmps4
  go_wp2_with fail
  refine Calls.mono (mspeaks_true w) ?_
  rintro e w1 ⟨rfl, hB1⟩
  have hr1 := hrs.below hB1 (Nat.le_refl _)
  go_wp2_with fail
  refine Calls.mono (great_any _ rs (some ⟨blk, off, none⟩) n c w1 Hn.out hc hcm hr1) ?_
  rintro e w2 ⟨rfl, rfl⟩
  rw [HG.out]
  go_wp2_with fail
  refine Calls.mono (root_at rs RL _ n c _ Hn.out HRL.out hn6 hc hcm Hr300.out (hr1.more hB1.size)) ?_
  rintro e w3 ⟨rfl, hb3⟩
  have hB3 := hB1.trans (hb3.mono hB1.size)
  have hr3 := hr1.below hb3 hB1.size
  clear hb3 hr1 hrs
  go_wp2_with (change wpList _ _ _ _ _ (w3.alloc (.cells (Lib.byteCells zeros).toArray 26)); refine wpList_store_row rfl _ _ _ rfl w3.heap.size RL.toArray rfl rfl 26 (Lib.byteCells zeros).toArray (heap_alloc_new w3 _) HRLi.out HRLs.out HRL1.out ?_; obtain ⟨w4, hww4⟩ : ∃ x, x = (w3.alloc (.cells (Lib.byteCells zeros).toArray 26)).setRow w3.heap.size RL.toArray := ⟨_, rfl⟩; rw [← hww4]; obtain ⟨hP4, hb4⟩ := alloc_row w3 26 (Lib.byteCells zeros).toArray RL; rw [← hww4] at hP4 hb4; clear hww4)
  have hB4 := hB3.trans (hb4.mono hB3.size)
  have hr4 := (hr3.below hb4 hB3.size).more hB4.size
  obtain ⟨g, hg⟩ : ∃ g, g = w3.heap.size := ⟨_, rfl⟩
  rw [← hg] at hP4 ⊢
  clear hg hb4 hr3
  refine Calls.mono (prove_in rs _ n c a w4 Hn.out han hn6 hc hcm Hr300.out hr4) ?_
  rintro e w5 ⟨v5, rfl, hD5, hb5⟩
  have hP5 := hP4.up hb5
  have hr5 := (hr4.below hb5 (Nat.le_refl _)).more hb5.size
  have hB5 := hB4.trans (hb5.mono hB4.size)
  obtain ⟨A1, c1, rfl, h11, h12, hdg5⟩ := hD5.slice
  rw [HPl.out] at h11 ⊢
  unfold maxLen at h12
  clear hP4 hr4 hB4 hB3 hB1 hb5 hD5
  go_wp2_with fail
  have hB0 : Below w5.heap.size w5 w5.drew := below_drew _ _
  refine wp_region_held_drew (S := fun w' => w'.rangeAt g 0 RL) (by kernel_rfl) (hP5.drewN 1).range (fun hHeld => ?_)
  refine anyH_take (i := 0) (some 20) rfl rfl (by kernel_rfl) (by kernel_rfl) (by kernel_rfl) (fun _ _ _ h => h) (yieldsIf_load_mid (by rfl) 26 (.tmp 5) rfl g 0 rfl RL _ (fun _ h => h) Try.underlying26 rfl HRLi.out) (by assumption) ?_
  simp only [Act.put, List.setIfInBounds_toArray, List.set_cons_zero, List.set_cons_succ]
  refine anyH_take (i := 1) (v := .slice (some ⟨blk, off, none⟩) n c) (some 21) rfl rfl (by kernel_rfl) (by kernel_rfl) (by kernel_rfl) (fun _ _ _ h => h) (Or.inl ⟨by rfl, fun _ hw => by rfl⟩) (by assumption) ?_
  simp only [Act.put, List.setIfInBounds_toArray, List.set_cons_zero, List.set_cons_succ]
  refine wpAnyH_ready (rs := [2]) (by kernel_rfl) (by simp) ?_
  refine AllReadyH.cons rfl (fun KC hKC => ?_) AllReadyH.nil
  go_simp
  go_at_call 15
  refine Calls.mono (rroot_at rs RL _ n c _ Hn.out HRL.out hn6 hc hcm Hr300.out ((hr5.below hB0 (Nat.le_refl _)).more hB0.size)) ?_
  rintro e w21 ⟨rfl, hb21⟩
  have hB21 := hB0.trans (hb21.mono hB0.size)
  go_wp2_with fail
  refine hKC.out _ _ (Arr.below hP5 hB21 hP5.lt).range (fun hHeld21 => ?_)
  clear hKC KC
  try simp only [Act.put, List.setIfInBounds_toArray, List.set_cons_zero, List.set_cons_succ]
  refine anyH_take (i := 3) (v := .bool false) (some 23) rfl rfl (by kernel_rfl) (by kernel_rfl) (by kernel_rfl) (fun _ _ _ h => h) (Or.inl ⟨by rfl, fun _ hw => by go_simp⟩) (by assumption) ?_
  simp only [Act.put, List.setIfInBounds_toArray, List.set_cons_zero, List.set_cons_succ]
  refine wpAnyH_done (by kernel_rfl) ?_ _
  clear hHeld heq
  have hP6 := Arr.below hP5 hB21 hP5.lt
  have hB6 := hB5.trans (hB21.mono hB5.size)
  have hr6 := (hr5.below hB21 (Nat.le_refl _)).more hB21.size
  have hd6 := hdg5.below hB21
  obtain ⟨w6, hw6⟩ : ∃ x, x = w21 := ⟨_, rfl⟩
  rw [← hw6] at hP6 hB6 hr6 hd6 ⊢
  clear hw6 hP5 hr5 hdg5
  have hc6 : w6.cell? ⟨blk, off + a, none⟩ = some (.slice A0 l0 c0) := (hB6.cell (p := ⟨blk, off + a, none⟩) hblk).trans hcell
  have hV6 : VIn w6 (rootF rs) RL r0 (proveF rs a) A0 l0 c0 A1 m1 c1 := ⟨rootF_length rs, HRL.out, Hl0.out, hl300, hlc0, hcm0, (hb0.below hB6 (Nat.le_refl _)).more hB6.size, HPl.out, h11, by omega, hd6⟩
  have hdg1 := hd6
  have hB60 : Below w6.heap.size w6 w6.drew := below_drew _ _
  have hblk6 : blk < w6.heap.size := Nat.lt_of_lt_of_le hblk hB6.size
  have keep6 : ∀ {w' : World}, Below w6.heap.size w6 w' → w'.rangeAt g 0 RL ∧ w'.cell? ⟨blk, off + a, none⟩ = some (.slice A0 l0 c0) := fun h => ⟨(Arr.below hP6 h hP6.lt).range, (h.cell (p := ⟨blk, off + a, none⟩) hblk6).trans hc6⟩
  have hia : (a : Int) < (n : Int) := by omega
  clear hcell hb0 hd6
  go_wp2_with fail
  refine wp_region_held_drew (S := fun w' => w'.rangeAt g 0 RL ∧ w'.cell? ⟨blk, off + a, none⟩ = some (.slice A0 l0 c0)) (by kernel_rfl) (keep6 hB60) (fun hHeld => ?_)
  refine anyH_take (i := 0) (v := .int .i64 0) (some 48) rfl rfl (by kernel_rfl) (by kernel_rfl) (by kernel_rfl) (fun _ _ _ h => h) (Or.inl ⟨by rfl, fun _ hw => by rfl⟩) (by assumption) ?_
  simp only [Act.put, List.setIfInBounds_toArray, List.set_cons_zero, List.set_cons_succ]
  refine anyH_take (i := 1) (v := .bool true) (some 49) rfl rfl (by kernel_rfl) (by kernel_rfl) (by kernel_rfl) (fun _ _ _ h => h) (Or.inl ⟨by rfl, fun _ hw => by go_simp⟩) (by assumption) ?_
  simp only [Act.put, List.setIfInBounds_toArray, List.set_cons_zero, List.set_cons_succ]
  refine anyH_take (i := 2) (v := .bool true) (some 50) rfl rfl (by kernel_rfl) (by kernel_rfl) (by kernel_rfl) (fun _ _ _ h => h) (Or.inl ⟨by rfl, fun _ hw => by rfl⟩) (by assumption) ?_
  simp only [Act.put, List.setIfInBounds_toArray, List.set_cons_zero, List.set_cons_succ]
  refine anyH_take (i := 3) (v := .slice A1 m1 c1) (some 51) rfl rfl (by kernel_rfl) (by kernel_rfl) (by kernel_rfl) (fun _ _ _ h => h) (Or.inl ⟨by rfl, fun _ hw => by rfl⟩) (by assumption) ?_
  simp only [Act.put, List.setIfInBounds_toArray, List.set_cons_zero, List.set_cons_succ]
  refine anyH_take (i := 4) (v := .slice (some ⟨blk, off, none⟩) n c) (some 52) rfl rfl (by kernel_rfl) (by kernel_rfl) (by kernel_rfl) (fun _ _ _ h => h) (Or.inl ⟨by rfl, fun _ hw => by rfl⟩) (by assumption) ?_
  simp only [Act.put, List.setIfInBounds_toArray, List.set_cons_zero, List.set_cons_succ]
  refine anyH_take (i := 5) (v := .int .i64 (a : Nat)) (some 53) rfl rfl (by kernel_rfl) (by kernel_rfl) (by kernel_rfl) (fun _ _ _ h => h) (Or.inl ⟨by rfl, fun _ hw => by rfl⟩) (by assumption) ?_
  simp only [Act.put, List.setIfInBounds_toArray, List.set_cons_zero, List.set_cons_succ]
  refine wpAnyH_ready (rs := [6]) (by kernel_rfl) (by simp) ?_
  refine AllReadyH.cons rfl (fun KC hKC => ?_) AllReadyH.nil
  go_simp
  go_at_call 18
  refine Calls.mono (rprove_all n hn6 (by omega) rs _ c a _ Hn.out han hc hcm Hr300.out ((hr6.below hB60 (Nat.le_refl _)).more hB60.size)) ?_
  rintro e w61 ⟨v61, rfl, hd61, hb61⟩
  have hB61 := hB60.trans (hb61.mono hB60.size)
  obtain ⟨A261, c261, rfl, h2161, h2261, hdg261⟩ := hd61.slice
  rw [HPl.out] at h2161 ⊢
  unfold maxLen at h2261
  go_wp2_with fail
  refine hKC.out _ _ (keep6 hB61) (fun hHeld61 => ?_)
  clear hKC KC
  try simp only [Act.put, List.setIfInBounds_toArray, List.set_cons_zero, List.set_cons_succ]
  refine wpAnyH_ready (rs := [7]) (by kernel_rfl) (by simp) ?_
  refine AllReadyH.cons rfl (fun KC hKC => ?_) AllReadyH.nil
  go_simp
  go_at_call 17
  refine Calls.mono (digSame_below _ _ _ m1 c1 c261 _ HPl.out h11 (by omega) h2161 (by omega) (hdg1.below hB61) hdg261) ?_
  rintro e w62 ⟨rfl, hb62⟩
  have hB62 := hB61.trans (hb62.mono hB61.size)
  go_wp2_with fail
  refine hKC.out _ _ (keep6 hB62) (fun hHeld62 => ?_)
  clear hKC KC
  try simp only [Act.put, List.setIfInBounds_toArray, List.set_cons_zero, List.set_cons_succ]
  refine anyH_take (i := 8) (v := .bool true) (some 56) rfl rfl (by kernel_rfl) (by kernel_rfl) (by kernel_rfl) (fun _ _ _ h => h) (Or.inl ⟨by rfl, fun _ hw => by go_simp⟩) (by assumption) ?_
  simp only [Act.put, List.setIfInBounds_toArray, List.set_cons_zero, List.set_cons_succ]
  refine anyH_take (i := 9) (v := .bool true) (some 57) rfl rfl (by kernel_rfl) (by kernel_rfl) (by kernel_rfl) (fun _ _ _ h => h) (Or.inl ⟨by rfl, fun _ hw => by rfl⟩) (by assumption) ?_
  simp only [Act.put, List.setIfInBounds_toArray, List.set_cons_zero, List.set_cons_succ]
  refine anyH_take (i := 10) (some 58) rfl rfl (by kernel_rfl) (by kernel_rfl) (by kernel_rfl) (fun _ _ _ h => h) (yieldsIf_load_mid (by rfl) 26 (.tmp 5) rfl g 0 rfl RL _ (fun _ h => h.1) Try.underlying26 rfl HRLi.out) (by assumption) ?_
  simp only [Act.put, List.setIfInBounds_toArray, List.set_cons_zero, List.set_cons_succ]
  refine anyH_take (i := 11) (v := .slice (some ⟨blk, off, none⟩) n c) (some 59) rfl rfl (by kernel_rfl) (by kernel_rfl) (by kernel_rfl) (fun _ _ _ h => h) (Or.inl ⟨by rfl, fun _ hw => by rfl⟩) (by assumption) ?_
  simp only [Act.put, List.setIfInBounds_toArray, List.set_cons_zero, List.set_cons_succ]
  refine anyH_take (i := 12) (v := .int .i64 (n : Nat)) (some 60) rfl rfl (by kernel_rfl) (by kernel_rfl) (by kernel_rfl) (fun _ _ _ h => h) (Or.inl ⟨by rfl, fun _ hw => by go_simp⟩) (by assumption) ?_
  simp only [Act.put, List.setIfInBounds_toArray, List.set_cons_zero, List.set_cons_succ]
  refine anyH_take (i := 13) (v := .int .i64 (a : Nat)) (some 61) rfl rfl (by kernel_rfl) (by kernel_rfl) (by kernel_rfl) (fun _ _ _ h => h) (Or.inl ⟨by rfl, fun _ hw => by rfl⟩) (by assumption) ?_
  simp only [Act.put, List.setIfInBounds_toArray, List.set_cons_zero, List.set_cons_succ]
  refine anyH_take (i := 14) (v := .slice (some ⟨blk, off, none⟩) n c) (some 62) rfl rfl (by kernel_rfl) (by kernel_rfl) (by kernel_rfl) (fun _ _ _ h => h) (Or.inl ⟨by rfl, fun _ hw => by rfl⟩) (by assumption) ?_
  simp only [Act.put, List.setIfInBounds_toArray, List.set_cons_zero, List.set_cons_succ]
  refine anyH_take (i := 15) (v := .int .i64 (a : Nat)) (some 63) rfl rfl (by kernel_rfl) (by kernel_rfl) (by kernel_rfl) (fun _ _ _ h => h) (Or.inl ⟨by rfl, fun _ hw => by rfl⟩) (by assumption) ?_
  simp only [Act.put, List.setIfInBounds_toArray, List.set_cons_zero, List.set_cons_succ]
  refine anyH_take (i := 16) (v := .pointer (some ⟨blk, off + a, none⟩)) (some 64) rfl rfl (by kernel_rfl) (by kernel_rfl) (by kernel_rfl) (fun _ _ _ h => h) (Or.inl ⟨by rfl, fun _ hw => by go_simp⟩) (by assumption) ?_
  simp only [Act.put, List.setIfInBounds_toArray, List.set_cons_zero, List.set_cons_succ]
  refine anyH_take (i := 17) (v := .slice A0 l0 c0) (some 65) rfl rfl (by kernel_rfl) (by kernel_rfl) (by kernel_rfl) (fun _ _ _ h => h) (Or.inl ⟨by rfl, fun _ hw => by (have hw2 := hw.2; go_simp)⟩) (by assumption) ?_
  simp only [Act.put, List.setIfInBounds_toArray, List.set_cons_zero, List.set_cons_succ]
  refine anyH_take (i := 18) (v := .slice A1 m1 c1) (some 66) rfl rfl (by kernel_rfl) (by kernel_rfl) (by kernel_rfl) (fun _ _ _ h => h) (Or.inl ⟨by rfl, fun _ hw => by rfl⟩) (by assumption) ?_
  simp only [Act.put, List.setIfInBounds_toArray, List.set_cons_zero, List.set_cons_succ]
  refine wpAnyH_ready (rs := [19]) (by kernel_rfl) (by simp) ?_
  refine AllReadyH.cons rfl (fun KC hKC => ?_) AllReadyH.nil
  go_simp
  go_at_call 16
  refine Calls.mono (verify_at (n : Int) (a : Int) (by omega) _ RL r0 (proveF rs a) A0 l0 c0 A1 m1 c1 true _ (hV6.up hB62) Hver.out) ?_
  rintro e w63 ⟨rfl, hb63⟩
  have hB63 := hB62.trans (hb63.mono hB62.size)
  go_wp2_with fail
  refine hKC.out _ _ (keep6 hB63) (fun hHeld63 => ?_)
  clear hKC KC
  try simp only [Act.put, List.setIfInBounds_toArray, List.set_cons_zero, List.set_cons_succ]
  refine anyH_take (i := 20) (v := .bool true) (some 68) rfl rfl (by kernel_rfl) (by kernel_rfl) (by kernel_rfl) (fun _ _ _ h => h) (Or.inl ⟨by rfl, fun _ hw => by go_simp⟩) (by assumption) ?_
  simp only [Act.put, List.setIfInBounds_toArray, List.set_cons_zero, List.set_cons_succ]
  refine anyH_take (i := 21) (v := .bool true) (some 4) rfl rfl (by kernel_rfl) (by kernel_rfl) (by kernel_rfl) (fun _ _ _ h => h) (Or.inl ⟨by rfl, fun _ hw => by rfl⟩) (by assumption) ?_
  simp only [Act.put, List.setIfInBounds_toArray, List.set_cons_zero, List.set_cons_succ]
  refine wpAnyH_done (by kernel_rfl) ?_ _
  clear hHeld
  have hBz := hB6.trans (hB63.mono hB6.size)
  go_wp2_with fail
  go_ret
  exact ⟨rfl, hBz⟩


theorem merkleTold_walk (A : Option Addr) (n c : Nat) (rs : List (List UInt8)) (hn : rs.length = n) (hc : n ≤ c) (hcm : c ≤ maxLen) (a : Int) (ha1 : -9223372036854775808 ≤ a) (ha2 : a ≤ 9223372036854775807) (w : World) (hrs : RowsAt w w.heap.size A rs) :
    Calls Try.prog 4 #[.slice A n c, .int .i64 a] w fun e w' => e = .returned (.bool true) ∧ Below w.heap.size w w' := by
  unfold maxLen at hcm
  cases hG : greatF rs
  · by_cases ho : a < 0 ∨ (n : Int) ≤ a
    · exact mtold_out rs A n c a w hn hc (by omega) hrs hG ho
    · obtain ⟨j, rfl⟩ : ∃ j : Nat, a = (j : Nat) := ⟨a.toNat, by omega⟩
      exact mtold_in rs A n c j w hn hc (by omega) hrs hG (by omega)
  · exact mtold_great rs A n c a w hn hc (by omega) hrs hG

end Go.Proofs.Ytejmojldfffbnab

/-
  bin's All.
-/
import Derived.Test.YtccccpadnaocfaaBinRead
import Derived.Test.YtccccpadnaocfaaBinRoot
import Derived.Test.YtccccpadnaocfaaDiskTurn
namespace Go.Proofs.Ytccccpadnaocfaa
open Go.RowKit
set_option linter.unusedVariables false
set_option linter.unusedSimpArgs false

theorem blkInfoN : (Try.prog.info? 40).map (fun i => (i.zero, i.size, i.bytes)) = some (some (.agg (Lib.byteCells z48).toArray), 48, 48) := by kernel_rfl
theorem blkC_zero (n : Nat) : blkC (List.replicate n z48) = List.replicate (n * 48) (.int .u8 0) := by
  induction n with
  | zero => rfl
  | succ n ih =>
    rw [List.replicate_succ, blkC_cons, ih, show (n + 1) * 48 = 48 + n * 48 by omega, ← List.replicate_append_replicate]
    rfl
theorem run_make_blks (n : Nat) (hn : n ≤ 65536) (w : World) :
    (Instr.makeSlice 22 (.int .i64 (n : Nat)) (.int .i64 (n : Nat))).run Try.prog w = .ok (.slice (some ⟨w.heap.size, 0, none⟩) n n) (w.alloc (.cells (blkC (List.replicate n z48)).toArray 40)) := by
  obtain ⟨i0, hi, hz0, hz1, hz2⟩ := info_parts blkInfoN
  have h := run_make (P := Try.prog) w 22 40 i0 (.agg (Lib.byteCells z48).toArray) Try.underlying22 hi hz0 .i64 .i64 (n : Nat) (n : Nat) (by omega) (by omega) (by rw [hz2]; omega) (by omega)
  rw [h, hz1, Int.toNat_natCast]
  have e : madeCells (Value.agg (Lib.byteCells z48).toArray).cells (n * 48) = (blkC (List.replicate n z48)).toArray := by
    rw [blkC_zero]
    exact made_rep (.int .u8 0) 48 (n * 48) (by omega)
  rw [e]
/-- The first i blocks read, the others not yet. -/
def partB (S : List (List UInt8)) (a m i : Nat) : List (List UInt8) := standsF S a i ++ List.replicate (m - i) z48
theorem partB_zero (S : List (List UInt8)) (a m : Nat) : partB S a m 0 = List.replicate m z48 := by simp [partB, standsF]
theorem partB_length (S : List (List UInt8)) (a : Nat) {m i : Nat} (h : i ≤ m) : (partB S a m i).length = m := by simp [partB, standsF_length]; omega
theorem partB_all (S : List (List UInt8)) (a m : Nat) : partB S a m m = standsF S a m := by simp [partB]
theorem partB_step (S : List (List UInt8)) (a : Nat) {m i : Nat} (h : i < m) : (partB S a m i).set i (standF S (a + i)) = partB S a m (i + 1) := by
  unfold partB
  rw [List.set_append_right _ _ (by rw [standsF_length]; exact Nat.le_refl _), standsF_length, Nat.sub_self, show m - i = (m - (i + 1)) + 1 by omega, List.replicate_succ, List.set_cons_zero]
  simp [standsF, List.range_succ]
theorem partB_48 {S : List (List UInt8)} (h : ∀ s ∈ S, s.length = 64) {a m i : Nat} (hn : a + i ≤ S.length) : ∀ s ∈ partB S a m i, s.length = 48 := fun s hs => by
  rcases List.mem_append.1 hs with hs | hs
  · exact standsF_48 h hn s hs
  · rw [(List.mem_replicate.1 hs).2]; rfl

set_option maxHeartbeats 16000000 in
set_option maxRecDepth 100000 in
theorem nall_at (k gs n : Nat) (S : List (List UInt8)) (num : Int) (a m : Nat) (rd : List UInt8) (DL : List Value) (ok : Bool) (w : World) (hS : SeenN w k gs n S) (hrd : rd.length = 32) (hDL : DL = binC num a m rd) (hm1 : 1 ≤ m) (ha : a + m ≤ n) (hok : decide (rootF (standsF S a m) = rd) = ok) :
    Calls Try.prog 14 #[.pointer (some ⟨k, 0, none⟩), .agg DL.toArray] w fun e w' => (ok = true → ∃ g, e = .returned (.tuple #[.slice (some ⟨g, 0, none⟩) m m, .int .i64 0]) ∧ Arr w' g 40 (blkC (standsF S a m)) ∧ w.heap.size ≤ g) ∧ (ok = false → e = .returned (.tuple #[.slice none 0 0, .int .i64 7])) ∧ Below w.heap.size w w' := by
  have hn2 := hS.n2
  have hSn := hS.lS
  have h64 := hS.s64
  have hd0 : decide ((m : Int) < (1 : Int)) = false := by simp; omega
  obtain ⟨W1, hW1⟩ : ∃ x, x = w.alloc (.cells DL.toArray 31) := ⟨_, rfl⟩
  have hX1 : Arr W1 w.heap.size 31 DL := by rw [hW1]; exact Arr.new w _ DL
  have hb1 : Below w.heap.size w W1 := by rw [hW1]; exact (Below.refl _ w).alloc (Nat.le_refl _) _
  have hS1 := hS.below hb1
  have hD1 : DL[1]? = some (.int .i64 (a : Nat)) := by rw [hDL]; rfl
  have hc1 : W1.cell? ⟨w.heap.size, 1, none⟩ = some (.int .i64 (a : Nat)) := by rw [hX1.cell]; exact hD1
  have hc2 : W1.cell? ⟨w.heap.size, 2, none⟩ = some (.int .i64 (m : Nat)) := by rw [hX1.cell, hDL]; rfl
  obtain ⟨FL, hFL⟩ : ∃ FL, FL = Lib.byteCells rd := ⟨_, rfl⟩
  have hFD : ∀ j v, FL[j]? = some v → DL[3 + j]? = some v := fun j v hj => by rw [hDL]; rw [hFL] at hj; exact binC_dig num a m rd j v hj
  have hFl : FL.length = 32 := by rw [hFL, Lib.byteCells_length, hrd]
  have HFLn := Lib.hid (show (Try.prog.info? 29).map (·.size) = some FL.length by rw [hFl]; exact digInfo)
  obtain ⟨V, hV⟩ : ∃ V, V = W1.alloc (.cells (blkC (List.replicate m z48)).toArray 40) := ⟨_, rfl⟩
  have hG : Arr V W1.heap.size 40 (blkC (partB S a m 0)) := by rw [hV, partB_zero]; exact Arr.new W1 _ _
  have hbV : Below W1.heap.size W1 V := by rw [hV]; exact (Below.refl _ W1).alloc (Nat.le_refl _) _
  obtain ⟨g, hg⟩ : ∃ g, g = W1.heap.size := ⟨_, rfl⟩
  rw [← hg] at hG hbV
  have hwg : w.heap.size < g := by rw [hg]; exact hX1.lt
  have hgW : g ≤ W1.heap.size := by omega
  have hSg : ∀ b, (b = k ∨ b = gs) → b < g := fun b hb => by rw [hg]; exact hS1.lt b hb
  have hmk := run_make_blks m (by omega) W1
  rw [← hg, ← hV] at hmk
  have Hmk := Lib.hid hmk
  obtain ⟨GL, hGL⟩ : ∃ GL, GL = Lib.byteCells (rootF (standsF S a m)) := ⟨_, rfl⟩
  have hcmp : ∀ w, (Op.equalIn 10000 29 (.agg GL.toArray) (.agg FL.toArray)).run Try.prog w = .ok ok w := fun w => by
    rw [eqv_at Try.underlying29 _ rd (rootF_length _) hrd GL FL hGL hFL w, hok]
  have HGL := Lib.hid hGL
  have HW1 := Lib.hid hW1
  have hgt := gtDN
  have hz2 : V.heap.size = V.heap.size := rfl
  clear hW1 hDL hFL hGL hok hV hg hmk hz2
  go_enter Try.func14, Try.ntmps14
  go_upto_region 1 with fail
  change Code.wp _ _ _ _ (w.alloc (.cells DL.toArray 31))
  rw [← HW1.out]
  clear HW1
  go_wp2_with fail
  refine Calls.mono (nthere_is k gs n a m true W1 hS1.c0 hn2 (by omega) (by simp; omega)) ?_
  rintro e w2 ⟨rfl, rfl⟩
  go_wp2_with (first
    | (refine wpList_makeRun rfl _ _ _ rfl _ _ _ rfl rfl Hmk.out ?_))
  go_loopw [25] (fun v wr => ∃ i : Nat, i ≤ m ∧ v = .int .i64 i ∧ Arr wr g 40 (blkC (partB S a m i)) ∧ Only (fun b => b = g) V wr) (fun v _ => m - (intOf v).toNat)
  case atStart => exact ⟨0, by omega, rfl, hG, Only.refl _ _⟩
  case round =>
    clear hG
    obtain ⟨i, hi, rfl, hGi, hO⟩ := hrel
    obtain ⟨wq, hwq⟩ : ∃ x, x = wr := ⟨_, rfl⟩
    subst hwq
    have hbq : Below g w2 wq := hbV.trans (hO.below (Nat.le_trans hgW hbV.size) (by rintro k rfl; exact Nat.le_refl _))
    have hSq : SeenN wq k gs n S := hS1.kept hbq.size (fun b hb => hbq.block b (hSg b hb))
    have hXq : Arr wq w.heap.size 31 DL := hX1.below hbq hwg
    by_cases hlt : i < m
    · have hd : decide ((i : Int) < (m : Int)) = true := by simp; exact hlt
      have hdn : decide (i < m) = true := by simp; exact hlt
      have hcq : wq.cell? ⟨w.heap.size, 1, none⟩ = some (.int .i64 (a : Nat)) := by rw [hXq.cell]; exact hD1
      obtain ⟨q, hqq⟩ : ∃ q, a + i = q := ⟨_, rfl⟩
      have hqI : (a : Int) + (i : Int) = (q : Int) := by omega
      have hqn : q < n := by omega
      obtain ⟨XL, hXL⟩ : ∃ XL, XL = Lib.byteCells (standF S q) := ⟨_, rfl⟩
      have hx48 : (standF S q).length = 48 := standF_length h64 (by rw [hSn]; exact hqn)
      have hXl : XL.length = 48 := by rw [hXL, Lib.byteCells_length, hx48]
      have HXLi := Lib.hid (show (Try.prog.info? 40).map (·.size) = some XL.toArray.size by rw [List.size_toArray, hXl]; exact blkInfo)
      have HXLn := Lib.hid (show (Try.prog.info? 40).map (·.size) = some XL.length by rw [hXl]; exact blkInfo)
      have HXLs := Lib.hid (show (Lib.byteCells z48).toArray.size = XL.toArray.size by rw [List.size_toArray, List.size_toArray, hXl]; rfl)
      have HXL1 := Lib.hid (show XL.toArray.all (·.oneCell') = true by rw [hXL]; exact sec_one _)
      have HXL := Lib.hid hXL
      have Hqq := Lib.hid hqq
      clear hXL hqq
      go_wp2_with fail
      refine Calls.mono (standing_at k gs n q S wq hSq hqn XL HXL.out) ?_
      rintro e w3 ⟨rfl, hb3⟩
      have hG3 := hGi.below hb3 hGi.lt
      have hl3 : i * 48 + XL.toArray.size ≤ (blkC (partB S a m i)).length := by
        rw [blkC_length (partB_48 h64 (by rw [hSn]; omega)), partB_length _ _ hi, List.size_toArray, hXl]; omega
      have hth := Lib.hid (there_of_arr hG3 hl3)
      have hA3 : Arr (w3.setCells g (i * 48) XL) g 40 (blkC (partB S a m (i + 1))) := by
        rw [← partB_step S a hlt, ← blkC_set (partB_48 h64 (by rw [hSn]; omega)) (by rw [partB_length _ _ hi]; exact hlt) (standF S (a + i)) (by rw [Hqq.out]; exact hx48), Hqq.out, ← HXL.out]
        exact Arr.setIn XL (i * 48) _ w3 hG3 (by rw [List.size_toArray] at hl3; exact hl3)
      have hO3 : Only (fun b => b = g) V (w3.setCells g (i * 48) XL) := Only.setIn (R := fun b => b = g) rfl XL (i * 48) w3 (hO.step hb3)
      have HA3 := Lib.hid hA3
      have HO3 := Lib.hid hO3
      clear hG3 hGi hO hb3 hl3 hA3 hO3 hbq hSq hXq hcq
      go_wp2_with (first
        | (refine wpList_store_mid rfl 40 _ _ rfl g (i * 48) XL.toArray rfl rfl hth.out HXLi.out HXL1.out ?_))
      case roundEnd => exact ⟨⟨i + 1, by omega, by simp, HA3.out, HO3.out⟩, by simp [intOf]; omega⟩
    · obtain rfl : i = m := by omega
      have hd : decide ((i : Int) < (i : Int)) = false := by simp
      have hdn : decide (i < i) = false := by simp
      rw [partB_all] at hGi
      have h48 := standsF_48 h64 (a := a) (n := i) (by rw [hSn]; exact ha)
      have hgl := hGi.lt
      have hrq : ∀ j, j < i → wq.drew.rangeAt g (0 + j * 48) (Lib.byteCells ((standsF S a i).getD j [])) := fun j hj u v hv => by
        rw [Nat.zero_add]
        show wq.cell? _ = _
        rw [hGi.cell]
        exact blkC_at h48 (by rw [standsF_length]; exact hj) u v hv
      have hDrq : wq.drew.rangeAt w.heap.size 3 FL := fun j v hv => by
        show wq.cell? _ = _
        rw [hXq.cell]
        exact hFD j v hv
      have hXl := hXq.lt
      have hBq : Below w.heap.size w wq.drew := Below.dN (hb1.trans (hbq.mono (Nat.le_of_lt hwg))) 1
      go_wp2_with fail
      refine wp_region_held_drew (S := fun w' => w'.rangeAt w.heap.size 3 FL) (by kernel_rfl) hDrq (fun hHeld => ?_)
      refine anyH_take (i := 0) (v := .slice (some ⟨g, 0, none⟩) i i) (some 38) rfl rfl (by kernel_rfl) (by kernel_rfl) (by kernel_rfl) (fun _ _ _ h => h) (Or.inl ⟨by rfl, fun w' hw' => by go_simp⟩) (by assumption) ?_
      simp only [Act.put, List.setIfInBounds_toArray, List.set_cons_zero, List.set_cons_succ]
      refine anyH_take (i := 2) (v := .pointer (some ⟨w.heap.size, 3, none⟩)) (some 40) rfl rfl (by kernel_rfl) (by kernel_rfl) (by kernel_rfl) (fun _ _ _ h => h) (Or.inl ⟨by rfl, fun w' hw' => by go_simp⟩) (by assumption) ?_
      simp only [Act.put, List.setIfInBounds_toArray, List.set_cons_zero, List.set_cons_succ]
      refine anyH_take (i := 3) (some 41) rfl rfl (by kernel_rfl) (by kernel_rfl) (by kernel_rfl) (fun _ _ _ h => h) (yieldsIf_load_mid (by rfl) 29 (.tmp 40) rfl w.heap.size 3 rfl FL _ (fun _ h => h) Try.underlying29 rfl HFLn.out) (by assumption) ?_
      simp only [Act.put, List.setIfInBounds_toArray, List.set_cons_zero, List.set_cons_succ]
      refine wpAnyH_ready (rs := [1]) (by kernel_rfl) (by simp) ?_
      refine AllReadyH.cons rfl (fun K hK => ?_) AllReadyH.nil
      go_simp
      go_at_call 30
      refine Calls.mono (nroot_at (standsF S a i) i i g 0 GL wq.drew (standsF_length _ _ _) (by omega) (Nat.le_refl _) (by omega) h48 hgl hrq HGL.out) ?_
      rintro e w6 ⟨rfl, hb6⟩
      dsimp only
      go_wp2_with fail
      refine hK.out _ _ (rangeN_below hDrq hb6 hXl) (fun hHeld => ?_)
      clear hK K
      try simp only [Act.put, List.setIfInBounds_toArray, List.set_cons_zero, List.set_cons_succ]
      refine wpAnyH_ready (rs := [4]) (by kernel_rfl) (by simp) ?_
      refine AllReadyH.cons rfl (fun K hK => ?_) AllReadyH.nil
      go_simp
      refine hK.out _ _ (rangeN_below hDrq hb6 hXl) (fun hHeld => ?_)
      clear hK K
      try simp only [Act.put, List.setIfInBounds_toArray, List.set_cons_zero, List.set_cons_succ]
      have hGz : Arr w6 g 40 (blkC (standsF S a i)) := (hGi.drewN 1).below hb6 hgl
      have hBz := hBq.trans (hb6.mono hBq.size)
      have hgz : w.heap.size ≤ g := Nat.le_of_lt hwg
      clear hHeld hDrq hrq hXq hGi hBq hbq hSq hcmp hgt hb6 hO
      cases ok
      · refine wpAnyH_done (by kernel_rfl) ?_ _
        go_wp2_with fail
        exact bodyPost_ret (results_tmp2 (t := 4) (u := 5) (by rfl) _ _ _) rfl ⟨rfl, hBz⟩
      · refine wpAnyH_done (by kernel_rfl) ?_ _
        go_wp2_with fail
        exact bodyPost_ret (results_tmp2 (t := 4) (u := 5) (by rfl) _ _ _) rfl ⟨⟨g, rfl, hGz, hgz⟩, hBz⟩


end Go.Proofs.Ytccccpadnaocfaa

/-
  The walk of MerkleEach.
-/
import Derived.Test.YtkpgbgiamekhaabGreatRows
import Derived.Test.YtkpgbgiamekhaabMSpeaks
import Derived.Test.YtkpgbgiamekhaabRowsArg
import Derived.Test.YtkpgbgiamekhaabVerify
import Derived.Test.YtkpgbgiamekhaabProve
import Derived.Test.YtkpgbgiamekhaabClash2
namespace Go.Proofs.Ytkpgbgiamekhaab
open Go.RowKit
set_option linter.unusedVariables false
set_option linter.unusedSimpArgs false

set_option maxHeartbeats 8000000 in
set_option maxRecDepth 100000 in
theorem meach_great (rs : List (List UInt8)) (A : Option Addr) (n c : Nat) (w : World) (hn : rs.length = n) (hc : n ≤ c) (hcm : c ≤ 9223372036854775807) (hrs : RowsAt w w.heap.size A rs) (hG : 20 < n ∨ greatF rs = true) :
    Calls Try.prog 7 #[.slice A n c] w fun e w' => e = .returned (.bool true) ∧ Below w.heap.size w w' := by
  by_cases h20 : 20 < n
  · have hd : decide ((20 : Int) < (n : Int)) = true := by simp; omega
    clear hG hn
    go_enter Try.func7, Try.ntmps7
    go_wp2_with fail
    refine Calls.mono (mspeaks_true w) ?_
    rintro e w1 ⟨rfl, hb1⟩
    go_wp2_with fail
    go_ret
    exact ⟨rfl, hb1⟩
  · have hd : decide ((20 : Int) < (n : Int)) = false := by simp; omega
    have HG := Lib.hid (hG.resolve_left h20)
    have Hn := Lib.hid hn
    clear hG hn
    go_enter Try.func7, Try.ntmps7
    go_wp2_with fail
    refine Calls.mono (mspeaks_true w) ?_
    rintro e w1 ⟨rfl, hb1⟩
    have hr1 := hrs.below hb1 (Nat.le_refl _)
    go_wp2_with fail
    refine Calls.mono (great_any _ rs A n c w1 Hn.out hc hcm hr1) ?_
    rintro e w2 ⟨rfl, rfl⟩
    rw [HG.out]
    go_wp2_with fail
    go_ret
    exact ⟨rfl, hb1⟩

set_option maxHeartbeats 40000000 in
set_option maxRecDepth 100000 in
theorem meach_in (rs : List (List UInt8)) (A : Option Addr) (n c : Nat) (w : World) (hn : rs.length = n) (hc : n ≤ c) (hcm : c ≤ 9223372036854775807) (hrs : RowsAt w w.heap.size A rs) (hG : greatF rs = false) (h20 : n ≤ 20) :
    Calls Try.prog 7 #[.slice A n c] w fun e w' => e = .returned (.bool true) ∧ Below w.heap.size w w' := by
  obtain ⟨hn60, hrl300⟩ := greatF_no hG
  have hd : decide ((20 : Int) < (n : Int)) = false := by simp; omega
  obtain ⟨RL, hRL⟩ : ∃ V, V = Lib.byteCells (rootF rs) := ⟨_, rfl⟩
  have HRLl := Lib.hid (show RL.length = 32 by rw [hRL, Lib.byteCells_length]; exact rootF_length _)
  have HRLi := Lib.hid (show (Try.prog.info? 26).map (·.size) = some RL.toArray.size by rw [List.size_toArray, HRLl.out]; exact digInfo)
  have HRL1 := Lib.hid (show RL.toArray.all (·.oneCell') = true by rw [hRL]; exact dig_one _)
  have HRLs := Lib.hid (show (Lib.byteCells zeros).toArray.size = RL.toArray.size by rw [List.size_toArray, List.size_toArray, HRLl.out]; rfl)
  have HRL := Lib.hid hRL
  clear hRL
  have HG := Lib.hid hG
  have Hn := Lib.hid hn
  have Hr300 := Lib.hid hrl300
  have hn6 : n ≤ 1000000 := by omega
  clear hn hrl300 hG hn60
  go_enter Try.func7, Try.ntmps7
  go_wp2_with fail
  refine Calls.mono (mspeaks_true w) ?_
  rintro e w1 ⟨rfl, hB1⟩
  have hr1 := hrs.below hB1 (Nat.le_refl _)
  go_wp2_with fail
  refine Calls.mono (great_any _ rs A n c w1 Hn.out hc hcm hr1) ?_
  rintro e w2 ⟨rfl, rfl⟩
  rw [HG.out]
  go_wp2_with fail
  refine Calls.mono (root_at rs RL _ n c _ Hn.out HRL.out hn6 hc hcm Hr300.out (hr1.more hB1.size)) ?_
  rintro e w3 ⟨rfl, hb3⟩
  have hB3 := hB1.trans (hb3.mono hB1.size)
  clear hb3 hr1
  go_wp2_with (change wpList _ _ _ _ _ (w3.alloc (.cells (Lib.byteCells zeros).toArray 26)); refine wpList_store_row rfl _ _ _ rfl w3.heap.size RL.toArray rfl rfl 26 (Lib.byteCells zeros).toArray (heap_alloc_new w3 _) HRLi.out HRLs.out HRL1.out ?_; obtain ⟨w4, hww4⟩ : ∃ x, x = (w3.alloc (.cells (Lib.byteCells zeros).toArray 26)).setRow w3.heap.size RL.toArray := ⟨_, rfl⟩; rw [← hww4]; obtain ⟨hP4, hb4⟩ := alloc_row w3 26 (Lib.byteCells zeros).toArray RL; rw [← hww4] at hP4 hb4; clear hww4)
  have hB4 := hB3.trans (hb4.mono hB3.size)
  obtain ⟨g, hg⟩ : ∃ g, g = w3.heap.size := ⟨_, rfl⟩
  rw [← hg] at hP4 ⊢
  clear hg hb4 hB3 hB1 hd
  go_loopw [21] (fun s wr => ∃ i : Nat, s = .int .i64 i ∧ i ≤ n ∧ Arr wr g 26 RL ∧ Below w.heap.size w wr) (fun s _ => n - (intOf s).toNat)
  case atStart => exact ⟨0, rfl, Nat.zero_le _, hP4, hB4⟩
  case round =>
    clear hP4 hB4
    obtain ⟨i, rfl, hin, hPo, hBo⟩ := hrel
    by_cases hit : i < n
    · obtain ⟨blk, off, rfl, hblk, hrow⟩ := hrs (by have := Hn.out; omega)
      obtain ⟨A0, c0, hcell, hlc0, hcm0, hb0⟩ := hrow i (by have := Hn.out; omega)
      have hl300 : (rs.getD i []).length ≤ 300 := Hr300.out _ (by simp [List.getD, show i < rs.length by have := Hn.out; omega])
      have hpl := prove_leads n rs i Hn.out hit
      have hver : verF (rootF rs) (n : Int) (i : Int) (rs.getD i []) (proveF rs i) = true := by
        rw [verF_in hit, hpl]; simp
      have hplen := proveF_length n rs i Hn.out
      have hpless := plenF_lt n i (by omega)
      obtain ⟨m1, hm1⟩ : ∃ m1, (proveF rs i).length = m1 := ⟨_, rfl⟩
      have h2 : decide (n ≤ m1) = false := by simp; omega
      have HPl := Lib.hid hm1
      obtain ⟨r0, hre⟩ : ∃ r, rs.getD i [] = r := ⟨_, rfl⟩
      rw [hre] at hcell hlc0 hb0 hl300 hver
      obtain ⟨l0, hl⟩ : ∃ l, r0.length = l := ⟨_, rfl⟩
      rw [hl] at hcell hlc0 hl300
      have Hl0 := Lib.hid hl
      have Hver := Lib.hid hver
      have Hrow := Lib.hid hrow
      clear hrow hpl hver hm1 hre hl hplen hpless
      go_wp2_with fail
      refine Calls.mono (prove_in rs _ n c i wr Hn.out hit hn6 hc hcm Hr300.out ((hrs.below hBo (Nat.le_refl _)).more hBo.size)) ?_
      rintro e w5 ⟨v5, rfl, hD5, hb5⟩
      have hP5 := hPo.up hb5
      have hB5 := hBo.trans (hb5.mono hBo.size)
      obtain ⟨A1, c1, rfl, h11, h12, hdg5⟩ := hD5.slice
      rw [HPl.out] at h11 ⊢
      unfold maxLen at h12
      clear hPo hBo hb5 hD5
      go_wp2_with fail
      clear h2
      go_loopw [41] (fun s wr => ∃ k : Nat, s = .int .i64 k ∧ k ≤ n ∧ Below w5.heap.size w5 wr) (fun s _ => n - (intOf s).toNat)
      case atStart => exact ⟨0, rfl, Nat.zero_le _, Below.refl _ _⟩
      case round =>
        obtain ⟨k, rfl, hkn, hbr⟩ := hrel
        have hBr := hB5.trans (hbr.mono hB5.size)
        have hPr := Arr.up hP5 hbr
        have hVr : VIn wr (rootF rs) RL r0 (proveF rs i) A0 l0 c0 A1 m1 c1 := ⟨rootF_length rs, HRL.out, Hl0.out, hl300, hlc0, hcm0, (hb0.below hBr (Nat.le_refl _)).more hBr.size, HPl.out, h11, by omega, hdg5.below hbr⟩
        have hBr0 : Below wr.heap.size wr wr.drew := below_drew _ _
        have hblkr : blk < wr.heap.size := Nat.lt_of_lt_of_le hblk hBr.size
        have hcr : wr.cell? ⟨blk, off + i, none⟩ = some (.slice A0 l0 c0) := (hBr.cell (p := ⟨blk, off + i, none⟩) hblk).trans hcell
        by_cases hlt : k < n
        · obtain ⟨Ak, ck, hcellk, hlck, hcmk, hbk⟩ := Hrow.out k (by have := Hn.out; omega)
          have hlk300 : (rs.getD k []).length ≤ 300 := Hr300.out _ (by simp [List.getD, show k < rs.length by have := Hn.out; omega])
          obtain ⟨rk, hrk⟩ : ∃ r, rs.getD k [] = r := ⟨_, rfl⟩
          rw [hrk] at hcellk hlck hbk hlk300
          obtain ⟨lk, hlk⟩ : ∃ l, rk.length = l := ⟨_, rfl⟩
          rw [hlk] at hcellk hlck hlk300
          have Hlk := Lib.hid hlk
          have Hrk := Lib.hid hrk
          have hckr : wr.cell? ⟨blk, off + k, none⟩ = some (.slice Ak lk ck) := (hBr.cell (p := ⟨blk, off + k, none⟩) hblk).trans hcellk
          have keepr : ∀ {w' : World}, Below wr.heap.size wr w' → w'.rangeAt g 0 RL ∧ w'.cell? ⟨blk, off + i, none⟩ = some (.slice A0 l0 c0) ∧ w'.cell? ⟨blk, off + k, none⟩ = some (.slice Ak lk ck) := fun h => ⟨(Arr.below hPr h hPr.lt).range, (h.cell (p := ⟨blk, off + i, none⟩) hblkr).trans hcr, (h.cell (p := ⟨blk, off + k, none⟩) hblkr).trans hckr⟩
          clear hlk hrk
          obtain ⟨B, hB⟩ : ∃ B, verF (rootF rs) (n : Int) (k : Int) r0 (proveF rs i) = B := ⟨_, rfl⟩
          have HBv := Lib.hid hB
          clear hB
          have hkI : (k : Int) < (n : Int) := by omega
          have hiI : (i : Int) < (n : Int) := by omega
          cases B
          · go_wp2_with fail
            refine wp_region_held_drew (S := fun w' => w'.rangeAt g 0 RL ∧ w'.cell? ⟨blk, off + i, none⟩ = some (.slice A0 l0 c0) ∧ w'.cell? ⟨blk, off + k, none⟩ = some (.slice Ak lk ck)) (by kernel_rfl) (keepr hBr0) (fun hHeld => ?_)
            refine anyH_take (i := 0) (some 44) rfl rfl (by kernel_rfl) (by kernel_rfl) (by kernel_rfl) (fun _ _ _ h => h) (yieldsIf_load_mid (by rfl) 26 (.tmp 3) rfl g 0 rfl RL _ (fun _ h => h.1) Try.underlying26 rfl HRLi.out) (by assumption) ?_
            simp only [Act.put, List.setIfInBounds_toArray, List.set_cons_zero, List.set_cons_succ]
            refine anyH_take (i := 1) (v := .slice (some ⟨blk, off, none⟩) n c) (some 45) rfl rfl (by kernel_rfl) (by kernel_rfl) (by kernel_rfl) (fun _ _ _ h => h) (Or.inl ⟨by rfl, fun _ hw => by rfl⟩) (by assumption) ?_
            simp only [Act.put, List.setIfInBounds_toArray, List.set_cons_zero, List.set_cons_succ]
            refine anyH_take (i := 2) (v := .int .i64 (n : Nat)) (some 46) rfl rfl (by kernel_rfl) (by kernel_rfl) (by kernel_rfl) (fun _ _ _ h => h) (Or.inl ⟨by rfl, fun _ hw => by go_simp⟩) (by assumption) ?_
            simp only [Act.put, List.setIfInBounds_toArray, List.set_cons_zero, List.set_cons_succ]
            refine anyH_take (i := 3) (v := .int .i64 (k : Nat)) (some 47) rfl rfl (by kernel_rfl) (by kernel_rfl) (by kernel_rfl) (fun _ _ _ h => h) (Or.inl ⟨by rfl, fun _ hw => by rfl⟩) (by assumption) ?_
            simp only [Act.put, List.setIfInBounds_toArray, List.set_cons_zero, List.set_cons_succ]
            refine anyH_take (i := 4) (v := .slice (some ⟨blk, off, none⟩) n c) (some 48) rfl rfl (by kernel_rfl) (by kernel_rfl) (by kernel_rfl) (fun _ _ _ h => h) (Or.inl ⟨by rfl, fun _ hw => by rfl⟩) (by assumption) ?_
            simp only [Act.put, List.setIfInBounds_toArray, List.set_cons_zero, List.set_cons_succ]
            refine anyH_take (i := 5) (v := .int .i64 (i : Nat)) (some 49) rfl rfl (by kernel_rfl) (by kernel_rfl) (by kernel_rfl) (fun _ _ _ h => h) (Or.inl ⟨by rfl, fun _ hw => by rfl⟩) (by assumption) ?_
            simp only [Act.put, List.setIfInBounds_toArray, List.set_cons_zero, List.set_cons_succ]
            refine anyH_take (i := 6) (v := .pointer (some ⟨blk, off + i, none⟩)) (some 50) rfl rfl (by kernel_rfl) (by kernel_rfl) (by kernel_rfl) (fun _ _ _ h => h) (Or.inl ⟨by rfl, fun _ hw => by go_simp⟩) (by assumption) ?_
            simp only [Act.put, List.setIfInBounds_toArray, List.set_cons_zero, List.set_cons_succ]
            refine anyH_take (i := 7) (v := .slice A0 l0 c0) (some 51) rfl rfl (by kernel_rfl) (by kernel_rfl) (by kernel_rfl) (fun _ _ _ h => h) (Or.inl ⟨by rfl, fun _ hw => by (have hw2 := hw.2.1; go_simp)⟩) (by assumption) ?_
            simp only [Act.put, List.setIfInBounds_toArray, List.set_cons_zero, List.set_cons_succ]
            refine anyH_take (i := 8) (v := .slice A1 m1 c1) (some 52) rfl rfl (by kernel_rfl) (by kernel_rfl) (by kernel_rfl) (fun _ _ _ h => h) (Or.inl ⟨by rfl, fun _ hw => by rfl⟩) (by assumption) ?_
            simp only [Act.put, List.setIfInBounds_toArray, List.set_cons_zero, List.set_cons_succ]
            refine wpAnyH_ready (rs := [9]) (by kernel_rfl) (by simp) ?_
            refine AllReadyH.cons rfl (fun KC hKC => ?_) AllReadyH.nil
            go_simp
            go_at_call 16
            refine Calls.mono (verify_at (n : Int) (k : Int) (by omega) _ RL r0 (proveF rs i) A0 l0 c0 A1 m1 c1 false _ (hVr.up hBr0) HBv.out) ?_
            rintro e w61 ⟨rfl, hb61⟩
            have hB61 := hBr0.trans (hb61.mono hBr0.size)
            go_wp2_with fail
            refine hKC.out _ _ (keepr hB61) (fun hHeld61 => ?_)
            clear hKC KC
            try simp only [Act.put, List.setIfInBounds_toArray, List.set_cons_zero, List.set_cons_succ]
            refine anyH_take (i := 10) (v := .bool false) (some 54) rfl rfl (by kernel_rfl) (by kernel_rfl) (by kernel_rfl) (fun _ _ _ h => h) (Or.inl ⟨by rfl, fun _ hw => by rfl⟩) (by assumption) ?_
            simp only [Act.put, List.setIfInBounds_toArray, List.set_cons_zero, List.set_cons_succ]
            refine anyH_take (i := 11) (v := undef) (some 55) rfl rfl (by kernel_rfl) (by kernel_rfl) (by kernel_rfl) (fun _ _ _ h => h) (Or.inr ⟨by rfl, rfl⟩) (by assumption) ?_
            simp only [Act.put, List.setIfInBounds_toArray, List.set_cons_zero, List.set_cons_succ]
            refine anyH_take (i := 12) (v := undef) (some 56) rfl rfl (by kernel_rfl) (by kernel_rfl) (by kernel_rfl) (fun _ _ _ h => h) (Or.inr ⟨by rfl, rfl⟩) (by assumption) ?_
            simp only [Act.put, List.setIfInBounds_toArray, List.set_cons_zero, List.set_cons_succ]
            refine anyH_take (i := 13) (v := undef) (some 57) rfl rfl (by kernel_rfl) (by kernel_rfl) (by kernel_rfl) (fun _ _ _ h => h) (Or.inr ⟨by rfl, rfl⟩) (by assumption) ?_
            simp only [Act.put, List.setIfInBounds_toArray, List.set_cons_zero, List.set_cons_succ]
            refine anyH_take (i := 14) (v := undef) (some 58) rfl rfl (by kernel_rfl) (by kernel_rfl) (by kernel_rfl) (fun _ _ _ h => h) (Or.inr ⟨by rfl, rfl⟩) (by assumption) ?_
            simp only [Act.put, List.setIfInBounds_toArray, List.set_cons_zero, List.set_cons_succ]
            refine anyH_take (i := 15) (v := undef) (some 59) rfl rfl (by kernel_rfl) (by kernel_rfl) (by kernel_rfl) (fun _ _ _ h => h) (Or.inr ⟨by rfl, rfl⟩) (by assumption) ?_
            simp only [Act.put, List.setIfInBounds_toArray, List.set_cons_zero, List.set_cons_succ]
            refine anyH_take (i := 16) (v := undef) (some 60) rfl rfl (by kernel_rfl) (by kernel_rfl) (by kernel_rfl) (fun _ _ _ h => h) (Or.inr ⟨by rfl, rfl⟩) (by assumption) ?_
            simp only [Act.put, List.setIfInBounds_toArray, List.set_cons_zero, List.set_cons_succ]
            refine anyH_take (i := 17) (v := undef) (some 61) rfl rfl (by kernel_rfl) (by kernel_rfl) (by kernel_rfl) (fun _ _ _ h => h) (Or.inr ⟨by rfl, rfl⟩) (by assumption) ?_
            simp only [Act.put, List.setIfInBounds_toArray, List.set_cons_zero, List.set_cons_succ]
            refine anyH_take (i := 18) (v := undef) (some 62) rfl rfl (by kernel_rfl) (by kernel_rfl) (by kernel_rfl) (fun _ _ _ h => h) (Or.inr ⟨by rfl, rfl⟩) (by assumption) ?_
            simp only [Act.put, List.setIfInBounds_toArray, List.set_cons_zero, List.set_cons_succ]
            refine anyH_take (i := 19) (v := undef) (some 63) rfl rfl (by kernel_rfl) (by kernel_rfl) (by kernel_rfl) (fun _ _ _ h => h) (Or.inr ⟨by rfl, rfl⟩) (by assumption) ?_
            simp only [Act.put, List.setIfInBounds_toArray, List.set_cons_zero, List.set_cons_succ]
            refine anyH_take (i := 20) (v := undef) (some 64) rfl rfl (by kernel_rfl) (by kernel_rfl) (by kernel_rfl) (fun _ _ _ h => h) (Or.inr ⟨by rfl, rfl⟩) (by assumption) ?_
            simp only [Act.put, List.setIfInBounds_toArray, List.set_cons_zero, List.set_cons_succ]
            refine anyH_take (i := 21) (v := .bool false) (some 65) rfl rfl (by kernel_rfl) (by kernel_rfl) (by kernel_rfl) (fun _ _ _ h => h) (Or.inl ⟨by rfl, fun _ hw => by go_simp⟩) (by assumption) ?_
            simp only [Act.put, List.setIfInBounds_toArray, List.set_cons_zero, List.set_cons_succ]
            refine wpAnyH_done (by kernel_rfl) ?_ _
            have hbz := hbr.trans (hB61.mono hbr.size)
            clear hHeld
            go_wp2_with fail
            go_roundw
            case rel => exact ⟨k + 1, by go_num, by omega, hbz⟩
            case measure => simp [intOf]; omega
          · obtain ⟨S, hS⟩ : ∃ S, decide (rk = r0) = S := ⟨_, rfl⟩
            have HS := Lib.hid hS
            clear hS
            cases S
            · go_wp2_with fail
              refine wp_region_held_drew (S := fun w' => w'.rangeAt g 0 RL ∧ w'.cell? ⟨blk, off + i, none⟩ = some (.slice A0 l0 c0) ∧ w'.cell? ⟨blk, off + k, none⟩ = some (.slice Ak lk ck)) (by kernel_rfl) (keepr hBr0) (fun hHeld => ?_)
              refine anyH_take (i := 0) (some 44) rfl rfl (by kernel_rfl) (by kernel_rfl) (by kernel_rfl) (fun _ _ _ h => h) (yieldsIf_load_mid (by rfl) 26 (.tmp 3) rfl g 0 rfl RL _ (fun _ h => h.1) Try.underlying26 rfl HRLi.out) (by assumption) ?_
              simp only [Act.put, List.setIfInBounds_toArray, List.set_cons_zero, List.set_cons_succ]
              refine anyH_take (i := 1) (v := .slice (some ⟨blk, off, none⟩) n c) (some 45) rfl rfl (by kernel_rfl) (by kernel_rfl) (by kernel_rfl) (fun _ _ _ h => h) (Or.inl ⟨by rfl, fun _ hw => by rfl⟩) (by assumption) ?_
              simp only [Act.put, List.setIfInBounds_toArray, List.set_cons_zero, List.set_cons_succ]
              refine anyH_take (i := 2) (v := .int .i64 (n : Nat)) (some 46) rfl rfl (by kernel_rfl) (by kernel_rfl) (by kernel_rfl) (fun _ _ _ h => h) (Or.inl ⟨by rfl, fun _ hw => by go_simp⟩) (by assumption) ?_
              simp only [Act.put, List.setIfInBounds_toArray, List.set_cons_zero, List.set_cons_succ]
              refine anyH_take (i := 3) (v := .int .i64 (k : Nat)) (some 47) rfl rfl (by kernel_rfl) (by kernel_rfl) (by kernel_rfl) (fun _ _ _ h => h) (Or.inl ⟨by rfl, fun _ hw => by rfl⟩) (by assumption) ?_
              simp only [Act.put, List.setIfInBounds_toArray, List.set_cons_zero, List.set_cons_succ]
              refine anyH_take (i := 4) (v := .slice (some ⟨blk, off, none⟩) n c) (some 48) rfl rfl (by kernel_rfl) (by kernel_rfl) (by kernel_rfl) (fun _ _ _ h => h) (Or.inl ⟨by rfl, fun _ hw => by rfl⟩) (by assumption) ?_
              simp only [Act.put, List.setIfInBounds_toArray, List.set_cons_zero, List.set_cons_succ]
              refine anyH_take (i := 5) (v := .int .i64 (i : Nat)) (some 49) rfl rfl (by kernel_rfl) (by kernel_rfl) (by kernel_rfl) (fun _ _ _ h => h) (Or.inl ⟨by rfl, fun _ hw => by rfl⟩) (by assumption) ?_
              simp only [Act.put, List.setIfInBounds_toArray, List.set_cons_zero, List.set_cons_succ]
              refine anyH_take (i := 6) (v := .pointer (some ⟨blk, off + i, none⟩)) (some 50) rfl rfl (by kernel_rfl) (by kernel_rfl) (by kernel_rfl) (fun _ _ _ h => h) (Or.inl ⟨by rfl, fun _ hw => by go_simp⟩) (by assumption) ?_
              simp only [Act.put, List.setIfInBounds_toArray, List.set_cons_zero, List.set_cons_succ]
              refine anyH_take (i := 7) (v := .slice A0 l0 c0) (some 51) rfl rfl (by kernel_rfl) (by kernel_rfl) (by kernel_rfl) (fun _ _ _ h => h) (Or.inl ⟨by rfl, fun _ hw => by (have hw2 := hw.2.1; go_simp)⟩) (by assumption) ?_
              simp only [Act.put, List.setIfInBounds_toArray, List.set_cons_zero, List.set_cons_succ]
              refine anyH_take (i := 8) (v := .slice A1 m1 c1) (some 52) rfl rfl (by kernel_rfl) (by kernel_rfl) (by kernel_rfl) (fun _ _ _ h => h) (Or.inl ⟨by rfl, fun _ hw => by rfl⟩) (by assumption) ?_
              simp only [Act.put, List.setIfInBounds_toArray, List.set_cons_zero, List.set_cons_succ]
              refine wpAnyH_ready (rs := [9]) (by kernel_rfl) (by simp) ?_
              refine AllReadyH.cons rfl (fun KC hKC => ?_) AllReadyH.nil
              go_simp
              go_at_call 16
              refine Calls.mono (verify_at (n : Int) (k : Int) (by omega) _ RL r0 (proveF rs i) A0 l0 c0 A1 m1 c1 true _ (hVr.up hBr0) HBv.out) ?_
              rintro e w61 ⟨rfl, hb61⟩
              have hB61 := hBr0.trans (hb61.mono hBr0.size)
              go_wp2_with fail
              refine hKC.out _ _ (keepr hB61) (fun hHeld61 => ?_)
              clear hKC KC
              try simp only [Act.put, List.setIfInBounds_toArray, List.set_cons_zero, List.set_cons_succ]
              refine anyH_take (i := 10) (v := .bool true) (some 54) rfl rfl (by kernel_rfl) (by kernel_rfl) (by kernel_rfl) (fun _ _ _ h => h) (Or.inl ⟨by rfl, fun _ hw => by rfl⟩) (by assumption) ?_
              simp only [Act.put, List.setIfInBounds_toArray, List.set_cons_zero, List.set_cons_succ]
              refine anyH_take (i := 11) (v := .slice (some ⟨blk, off, none⟩) n c) (some 55) rfl rfl (by kernel_rfl) (by kernel_rfl) (by kernel_rfl) (fun _ _ _ h => h) (Or.inl ⟨by rfl, fun _ hw => by rfl⟩) (by assumption) ?_
              simp only [Act.put, List.setIfInBounds_toArray, List.set_cons_zero, List.set_cons_succ]
              refine anyH_take (i := 12) (v := .int .i64 (k : Nat)) (some 56) rfl rfl (by kernel_rfl) (by kernel_rfl) (by kernel_rfl) (fun _ _ _ h => h) (Or.inl ⟨by rfl, fun _ hw => by rfl⟩) (by assumption) ?_
              simp only [Act.put, List.setIfInBounds_toArray, List.set_cons_zero, List.set_cons_succ]
              refine anyH_take (i := 13) (v := .pointer (some ⟨blk, off + k, none⟩)) (some 57) rfl rfl (by kernel_rfl) (by kernel_rfl) (by kernel_rfl) (fun _ _ _ h => h) (Or.inl ⟨by rfl, fun _ hw => by go_simp⟩) (by assumption) ?_
              simp only [Act.put, List.setIfInBounds_toArray, List.set_cons_zero, List.set_cons_succ]
              refine anyH_take (i := 14) (v := .slice Ak lk ck) (some 58) rfl rfl (by kernel_rfl) (by kernel_rfl) (by kernel_rfl) (fun _ _ _ h => h) (Or.inl ⟨by rfl, fun _ hw => by (have hw2 := hw.2.2; go_simp)⟩) (by assumption) ?_
              simp only [Act.put, List.setIfInBounds_toArray, List.set_cons_zero, List.set_cons_succ]
              refine anyH_take (i := 15) (v := .slice (some ⟨blk, off, none⟩) n c) (some 59) rfl rfl (by kernel_rfl) (by kernel_rfl) (by kernel_rfl) (fun _ _ _ h => h) (Or.inl ⟨by rfl, fun _ hw => by rfl⟩) (by assumption) ?_
              simp only [Act.put, List.setIfInBounds_toArray, List.set_cons_zero, List.set_cons_succ]
              refine anyH_take (i := 16) (v := .int .i64 (i : Nat)) (some 60) rfl rfl (by kernel_rfl) (by kernel_rfl) (by kernel_rfl) (fun _ _ _ h => h) (Or.inl ⟨by rfl, fun _ hw => by rfl⟩) (by assumption) ?_
              simp only [Act.put, List.setIfInBounds_toArray, List.set_cons_zero, List.set_cons_succ]
              refine anyH_take (i := 17) (v := .pointer (some ⟨blk, off + i, none⟩)) (some 61) rfl rfl (by kernel_rfl) (by kernel_rfl) (by kernel_rfl) (fun _ _ _ h => h) (Or.inl ⟨by rfl, fun _ hw => by go_simp⟩) (by assumption) ?_
              simp only [Act.put, List.setIfInBounds_toArray, List.set_cons_zero, List.set_cons_succ]
              refine anyH_take (i := 18) (v := .slice A0 l0 c0) (some 62) rfl rfl (by kernel_rfl) (by kernel_rfl) (by kernel_rfl) (fun _ _ _ h => h) (Or.inl ⟨by rfl, fun _ hw => by (have hw2 := hw.2.1; go_simp)⟩) (by assumption) ?_
              simp only [Act.put, List.setIfInBounds_toArray, List.set_cons_zero, List.set_cons_succ]
              refine wpAnyH_ready (rs := [19]) (by kernel_rfl) (by simp) ?_
              refine AllReadyH.cons rfl (fun KC hKC => ?_) AllReadyH.nil
              go_simp
              go_at_call 21
              refine Calls.mono (same_below Ak A0 ck c0 lk l0 rk r0 _ false ((hbk.below (hBr.trans (hB61.mono hBr.size)) (Nat.le_refl _)).more (hBr.trans (hB61.mono hBr.size)).size) ((hb0.below (hBr.trans (hB61.mono hBr.size)) (Nat.le_refl _)).more (hBr.trans (hB61.mono hBr.size)).size) Hlk.out Hl0.out (by unfold maxLen; omega) (by unfold maxLen; omega) HS.out) ?_
              rintro e w62 ⟨rfl, hb62⟩
              have hB62 := hB61.trans (hb62.mono hB61.size)
              go_wp2_with fail
              refine hKC.out _ _ (keepr hB62) (fun hHeld62 => ?_)
              clear hKC KC
              try simp only [Act.put, List.setIfInBounds_toArray, List.set_cons_zero, List.set_cons_succ]
              refine anyH_take (i := 20) (v := .bool true) (some 64) rfl rfl (by kernel_rfl) (by kernel_rfl) (by kernel_rfl) (fun _ _ _ h => h) (Or.inl ⟨by rfl, fun _ hw => by go_simp⟩) (by assumption) ?_
              simp only [Act.put, List.setIfInBounds_toArray, List.set_cons_zero, List.set_cons_succ]
              refine anyH_take (i := 21) (v := .bool true) (some 65) rfl rfl (by kernel_rfl) (by kernel_rfl) (by kernel_rfl) (fun _ _ _ h => h) (Or.inl ⟨by rfl, fun _ hw => by go_simp⟩) (by assumption) ?_
              simp only [Act.put, List.setIfInBounds_toArray, List.set_cons_zero, List.set_cons_succ]
              refine wpAnyH_done (by kernel_rfl) ?_ _
              have hbz := hbr.trans (hB62.mono hbr.size)
              have hBz := hB5.trans (hbz.mono hB5.size)
              clear hHeld
              obtain ⟨w8, hw8⟩ : ∃ x, x = w62 := ⟨_, rfl⟩
              rw [← hw8] at hbz hBz ⊢
              clear hw8
              have hcz : w8.cell? ⟨blk, off + i, none⟩ = some (.slice A0 l0 c0) := (hBz.cell (p := ⟨blk, off + i, none⟩) hblk).trans hcell
              have hne := Lib.hid (show r0 ≠ rs.getD k [] by rw [Hrk.out]; exact fun h => of_decide_eq_false HS.out h.symm)
              have hled := Lib.hid (show leadF n k r0 (proveF rs i) = (rootF rs, true) by
                have h := HBv.out
                rw [verF_in hlt, Bool.and_eq_true, decide_eq_true_eq] at h
                exact Prod.ext h.2 h.1)
              go_wp2_with fail
              refine Calls.mono (clash_all n hn6 (by omega) rs _ c k r0 (proveF rs i) A0 l0 c0 A1 m1 c1 w8 Hn.out hlt hc hcm Hr300.out ((hrs.below hBz (Nat.le_refl _)).more hBz.size) Hl0.out hl300 hlc0 hcm0 ((hb0.below hBz (Nat.le_refl _)).more hBz.size) HPl.out h11 (by omega) (hdg5.below hbz) (.inl hne.out) hled.out) ?_
              rintro e w9 ⟨rfl, hb9⟩
              have hB9 := hBz.trans (hb9.mono hBz.size)
              go_wp2_with fail
              go_ret
              exact ⟨rfl, hB9⟩
            · go_wp2_with fail
              refine wp_region_held_drew (S := fun w' => w'.rangeAt g 0 RL ∧ w'.cell? ⟨blk, off + i, none⟩ = some (.slice A0 l0 c0) ∧ w'.cell? ⟨blk, off + k, none⟩ = some (.slice Ak lk ck)) (by kernel_rfl) (keepr hBr0) (fun hHeld => ?_)
              refine anyH_take (i := 0) (some 44) rfl rfl (by kernel_rfl) (by kernel_rfl) (by kernel_rfl) (fun _ _ _ h => h) (yieldsIf_load_mid (by rfl) 26 (.tmp 3) rfl g 0 rfl RL _ (fun _ h => h.1) Try.underlying26 rfl HRLi.out) (by assumption) ?_
              simp only [Act.put, List.setIfInBounds_toArray, List.set_cons_zero, List.set_cons_succ]
              refine anyH_take (i := 1) (v := .slice (some ⟨blk, off, none⟩) n c) (some 45) rfl rfl (by kernel_rfl) (by kernel_rfl) (by kernel_rfl) (fun _ _ _ h => h) (Or.inl ⟨by rfl, fun _ hw => by rfl⟩) (by assumption) ?_
              simp only [Act.put, List.setIfInBounds_toArray, List.set_cons_zero, List.set_cons_succ]
              refine anyH_take (i := 2) (v := .int .i64 (n : Nat)) (some 46) rfl rfl (by kernel_rfl) (by kernel_rfl) (by kernel_rfl) (fun _ _ _ h => h) (Or.inl ⟨by rfl, fun _ hw => by go_simp⟩) (by assumption) ?_
              simp only [Act.put, List.setIfInBounds_toArray, List.set_cons_zero, List.set_cons_succ]
              refine anyH_take (i := 3) (v := .int .i64 (k : Nat)) (some 47) rfl rfl (by kernel_rfl) (by kernel_rfl) (by kernel_rfl) (fun _ _ _ h => h) (Or.inl ⟨by rfl, fun _ hw => by rfl⟩) (by assumption) ?_
              simp only [Act.put, List.setIfInBounds_toArray, List.set_cons_zero, List.set_cons_succ]
              refine anyH_take (i := 4) (v := .slice (some ⟨blk, off, none⟩) n c) (some 48) rfl rfl (by kernel_rfl) (by kernel_rfl) (by kernel_rfl) (fun _ _ _ h => h) (Or.inl ⟨by rfl, fun _ hw => by rfl⟩) (by assumption) ?_
              simp only [Act.put, List.setIfInBounds_toArray, List.set_cons_zero, List.set_cons_succ]
              refine anyH_take (i := 5) (v := .int .i64 (i : Nat)) (some 49) rfl rfl (by kernel_rfl) (by kernel_rfl) (by kernel_rfl) (fun _ _ _ h => h) (Or.inl ⟨by rfl, fun _ hw => by rfl⟩) (by assumption) ?_
              simp only [Act.put, List.setIfInBounds_toArray, List.set_cons_zero, List.set_cons_succ]
              refine anyH_take (i := 6) (v := .pointer (some ⟨blk, off + i, none⟩)) (some 50) rfl rfl (by kernel_rfl) (by kernel_rfl) (by kernel_rfl) (fun _ _ _ h => h) (Or.inl ⟨by rfl, fun _ hw => by go_simp⟩) (by assumption) ?_
              simp only [Act.put, List.setIfInBounds_toArray, List.set_cons_zero, List.set_cons_succ]
              refine anyH_take (i := 7) (v := .slice A0 l0 c0) (some 51) rfl rfl (by kernel_rfl) (by kernel_rfl) (by kernel_rfl) (fun _ _ _ h => h) (Or.inl ⟨by rfl, fun _ hw => by (have hw2 := hw.2.1; go_simp)⟩) (by assumption) ?_
              simp only [Act.put, List.setIfInBounds_toArray, List.set_cons_zero, List.set_cons_succ]
              refine anyH_take (i := 8) (v := .slice A1 m1 c1) (some 52) rfl rfl (by kernel_rfl) (by kernel_rfl) (by kernel_rfl) (fun _ _ _ h => h) (Or.inl ⟨by rfl, fun _ hw => by rfl⟩) (by assumption) ?_
              simp only [Act.put, List.setIfInBounds_toArray, List.set_cons_zero, List.set_cons_succ]
              refine wpAnyH_ready (rs := [9]) (by kernel_rfl) (by simp) ?_
              refine AllReadyH.cons rfl (fun KC hKC => ?_) AllReadyH.nil
              go_simp
              go_at_call 16
              refine Calls.mono (verify_at (n : Int) (k : Int) (by omega) _ RL r0 (proveF rs i) A0 l0 c0 A1 m1 c1 true _ (hVr.up hBr0) HBv.out) ?_
              rintro e w61 ⟨rfl, hb61⟩
              have hB61 := hBr0.trans (hb61.mono hBr0.size)
              go_wp2_with fail
              refine hKC.out _ _ (keepr hB61) (fun hHeld61 => ?_)
              clear hKC KC
              try simp only [Act.put, List.setIfInBounds_toArray, List.set_cons_zero, List.set_cons_succ]
              refine anyH_take (i := 10) (v := .bool true) (some 54) rfl rfl (by kernel_rfl) (by kernel_rfl) (by kernel_rfl) (fun _ _ _ h => h) (Or.inl ⟨by rfl, fun _ hw => by rfl⟩) (by assumption) ?_
              simp only [Act.put, List.setIfInBounds_toArray, List.set_cons_zero, List.set_cons_succ]
              refine anyH_take (i := 11) (v := .slice (some ⟨blk, off, none⟩) n c) (some 55) rfl rfl (by kernel_rfl) (by kernel_rfl) (by kernel_rfl) (fun _ _ _ h => h) (Or.inl ⟨by rfl, fun _ hw => by rfl⟩) (by assumption) ?_
              simp only [Act.put, List.setIfInBounds_toArray, List.set_cons_zero, List.set_cons_succ]
              refine anyH_take (i := 12) (v := .int .i64 (k : Nat)) (some 56) rfl rfl (by kernel_rfl) (by kernel_rfl) (by kernel_rfl) (fun _ _ _ h => h) (Or.inl ⟨by rfl, fun _ hw => by rfl⟩) (by assumption) ?_
              simp only [Act.put, List.setIfInBounds_toArray, List.set_cons_zero, List.set_cons_succ]
              refine anyH_take (i := 13) (v := .pointer (some ⟨blk, off + k, none⟩)) (some 57) rfl rfl (by kernel_rfl) (by kernel_rfl) (by kernel_rfl) (fun _ _ _ h => h) (Or.inl ⟨by rfl, fun _ hw => by go_simp⟩) (by assumption) ?_
              simp only [Act.put, List.setIfInBounds_toArray, List.set_cons_zero, List.set_cons_succ]
              refine anyH_take (i := 14) (v := .slice Ak lk ck) (some 58) rfl rfl (by kernel_rfl) (by kernel_rfl) (by kernel_rfl) (fun _ _ _ h => h) (Or.inl ⟨by rfl, fun _ hw => by (have hw2 := hw.2.2; go_simp)⟩) (by assumption) ?_
              simp only [Act.put, List.setIfInBounds_toArray, List.set_cons_zero, List.set_cons_succ]
              refine anyH_take (i := 15) (v := .slice (some ⟨blk, off, none⟩) n c) (some 59) rfl rfl (by kernel_rfl) (by kernel_rfl) (by kernel_rfl) (fun _ _ _ h => h) (Or.inl ⟨by rfl, fun _ hw => by rfl⟩) (by assumption) ?_
              simp only [Act.put, List.setIfInBounds_toArray, List.set_cons_zero, List.set_cons_succ]
              refine anyH_take (i := 16) (v := .int .i64 (i : Nat)) (some 60) rfl rfl (by kernel_rfl) (by kernel_rfl) (by kernel_rfl) (fun _ _ _ h => h) (Or.inl ⟨by rfl, fun _ hw => by rfl⟩) (by assumption) ?_
              simp only [Act.put, List.setIfInBounds_toArray, List.set_cons_zero, List.set_cons_succ]
              refine anyH_take (i := 17) (v := .pointer (some ⟨blk, off + i, none⟩)) (some 61) rfl rfl (by kernel_rfl) (by kernel_rfl) (by kernel_rfl) (fun _ _ _ h => h) (Or.inl ⟨by rfl, fun _ hw => by go_simp⟩) (by assumption) ?_
              simp only [Act.put, List.setIfInBounds_toArray, List.set_cons_zero, List.set_cons_succ]
              refine anyH_take (i := 18) (v := .slice A0 l0 c0) (some 62) rfl rfl (by kernel_rfl) (by kernel_rfl) (by kernel_rfl) (fun _ _ _ h => h) (Or.inl ⟨by rfl, fun _ hw => by (have hw2 := hw.2.1; go_simp)⟩) (by assumption) ?_
              simp only [Act.put, List.setIfInBounds_toArray, List.set_cons_zero, List.set_cons_succ]
              refine wpAnyH_ready (rs := [19]) (by kernel_rfl) (by simp) ?_
              refine AllReadyH.cons rfl (fun KC hKC => ?_) AllReadyH.nil
              go_simp
              go_at_call 21
              refine Calls.mono (same_below Ak A0 ck c0 lk l0 rk r0 _ true ((hbk.below (hBr.trans (hB61.mono hBr.size)) (Nat.le_refl _)).more (hBr.trans (hB61.mono hBr.size)).size) ((hb0.below (hBr.trans (hB61.mono hBr.size)) (Nat.le_refl _)).more (hBr.trans (hB61.mono hBr.size)).size) Hlk.out Hl0.out (by unfold maxLen; omega) (by unfold maxLen; omega) HS.out) ?_
              rintro e w62 ⟨rfl, hb62⟩
              have hB62 := hB61.trans (hb62.mono hB61.size)
              go_wp2_with fail
              refine hKC.out _ _ (keepr hB62) (fun hHeld62 => ?_)
              clear hKC KC
              try simp only [Act.put, List.setIfInBounds_toArray, List.set_cons_zero, List.set_cons_succ]
              refine anyH_take (i := 20) (v := .bool false) (some 64) rfl rfl (by kernel_rfl) (by kernel_rfl) (by kernel_rfl) (fun _ _ _ h => h) (Or.inl ⟨by rfl, fun _ hw => by go_simp⟩) (by assumption) ?_
              simp only [Act.put, List.setIfInBounds_toArray, List.set_cons_zero, List.set_cons_succ]
              refine anyH_take (i := 21) (v := .bool false) (some 65) rfl rfl (by kernel_rfl) (by kernel_rfl) (by kernel_rfl) (fun _ _ _ h => h) (Or.inl ⟨by rfl, fun _ hw => by go_simp⟩) (by assumption) ?_
              simp only [Act.put, List.setIfInBounds_toArray, List.set_cons_zero, List.set_cons_succ]
              refine wpAnyH_done (by kernel_rfl) ?_ _
              have hbz := hbr.trans (hB62.mono hbr.size)
              clear hHeld
              go_wp2_with fail
              go_roundw
              case rel => exact ⟨k + 1, by go_num, by omega, hbz⟩
              case measure => simp [intOf]; omega
        · have hiI : (i : Int) < (n : Int) := by omega
          have keep8 : ∀ {w' : World}, Below wr.heap.size wr w' → w'.rangeAt g 0 RL ∧ w'.cell? ⟨blk, off + i, none⟩ = some (.slice A0 l0 c0) := fun h => ⟨(Arr.below hPr h hPr.lt).range, (h.cell (p := ⟨blk, off + i, none⟩) hblkr).trans hcr⟩
          have hkn2 : ¬ (k : Int) < (n : Int) := by omega
          go_wp2_with fail
          refine wp_region_held_drew (S := fun w' => w'.rangeAt g 0 RL ∧ w'.cell? ⟨blk, off + i, none⟩ = some (.slice A0 l0 c0)) (by kernel_rfl) (keep8 hBr0) (fun hHeld => ?_)
          refine anyH_take (i := 0) (some 75) rfl rfl (by kernel_rfl) (by kernel_rfl) (by kernel_rfl) (fun _ _ _ h => h) (yieldsIf_load_mid (by rfl) 26 (.tmp 3) rfl g 0 rfl RL _ (fun _ h => h.1) Try.underlying26 rfl HRLi.out) (by assumption) ?_
          simp only [Act.put, List.setIfInBounds_toArray, List.set_cons_zero, List.set_cons_succ]
          refine anyH_take (i := 1) (v := .slice (some ⟨blk, off, none⟩) n c) (some 76) rfl rfl (by kernel_rfl) (by kernel_rfl) (by kernel_rfl) (fun _ _ _ h => h) (Or.inl ⟨by rfl, fun _ hw => by rfl⟩) (by assumption) ?_
          simp only [Act.put, List.setIfInBounds_toArray, List.set_cons_zero, List.set_cons_succ]
          refine anyH_take (i := 2) (v := .int .i64 (n : Nat)) (some 77) rfl rfl (by kernel_rfl) (by kernel_rfl) (by kernel_rfl) (fun _ _ _ h => h) (Or.inl ⟨by rfl, fun _ hw => by go_simp⟩) (by assumption) ?_
          simp only [Act.put, List.setIfInBounds_toArray, List.set_cons_zero, List.set_cons_succ]
          refine anyH_take (i := 3) (v := .int .i64 (i : Nat)) (some 78) rfl rfl (by kernel_rfl) (by kernel_rfl) (by kernel_rfl) (fun _ _ _ h => h) (Or.inl ⟨by rfl, fun _ hw => by rfl⟩) (by assumption) ?_
          simp only [Act.put, List.setIfInBounds_toArray, List.set_cons_zero, List.set_cons_succ]
          refine anyH_take (i := 4) (v := .slice (some ⟨blk, off, none⟩) n c) (some 79) rfl rfl (by kernel_rfl) (by kernel_rfl) (by kernel_rfl) (fun _ _ _ h => h) (Or.inl ⟨by rfl, fun _ hw => by rfl⟩) (by assumption) ?_
          simp only [Act.put, List.setIfInBounds_toArray, List.set_cons_zero, List.set_cons_succ]
          refine anyH_take (i := 5) (v := .int .i64 (i : Nat)) (some 80) rfl rfl (by kernel_rfl) (by kernel_rfl) (by kernel_rfl) (fun _ _ _ h => h) (Or.inl ⟨by rfl, fun _ hw => by rfl⟩) (by assumption) ?_
          simp only [Act.put, List.setIfInBounds_toArray, List.set_cons_zero, List.set_cons_succ]
          refine anyH_take (i := 6) (v := .pointer (some ⟨blk, off + i, none⟩)) (some 81) rfl rfl (by kernel_rfl) (by kernel_rfl) (by kernel_rfl) (fun _ _ _ h => h) (Or.inl ⟨by rfl, fun _ hw => by go_simp⟩) (by assumption) ?_
          simp only [Act.put, List.setIfInBounds_toArray, List.set_cons_zero, List.set_cons_succ]
          refine anyH_take (i := 7) (v := .slice A0 l0 c0) (some 82) rfl rfl (by kernel_rfl) (by kernel_rfl) (by kernel_rfl) (fun _ _ _ h => h) (Or.inl ⟨by rfl, fun _ hw => by (have hw2 := hw.2; go_simp)⟩) (by assumption) ?_
          simp only [Act.put, List.setIfInBounds_toArray, List.set_cons_zero, List.set_cons_succ]
          refine anyH_take (i := 8) (v := .slice A1 m1 c1) (some 83) rfl rfl (by kernel_rfl) (by kernel_rfl) (by kernel_rfl) (fun _ _ _ h => h) (Or.inl ⟨by rfl, fun _ hw => by rfl⟩) (by assumption) ?_
          simp only [Act.put, List.setIfInBounds_toArray, List.set_cons_zero, List.set_cons_succ]
          refine wpAnyH_ready (rs := [9]) (by kernel_rfl) (by simp) ?_
          refine AllReadyH.cons rfl (fun KC hKC => ?_) AllReadyH.nil
          go_simp
          go_at_call 16
          refine Calls.mono (verify_at (n : Int) (i : Int) (by omega) _ RL r0 (proveF rs i) A0 l0 c0 A1 m1 c1 true _ (hVr.up hBr0) Hver.out) ?_
          rintro e w61 ⟨rfl, hb61⟩
          have hB61 := hBr0.trans (hb61.mono hBr0.size)
          go_wp2_with fail
          refine hKC.out _ _ (keep8 hB61) (fun hHeld61 => ?_)
          clear hKC KC
          try simp only [Act.put, List.setIfInBounds_toArray, List.set_cons_zero, List.set_cons_succ]
          refine anyH_take (i := 10) (v := .bool false) (some 85) rfl rfl (by kernel_rfl) (by kernel_rfl) (by kernel_rfl) (fun _ _ _ h => h) (Or.inl ⟨by rfl, fun _ hw => by go_simp⟩) (by assumption) ?_
          simp only [Act.put, List.setIfInBounds_toArray, List.set_cons_zero, List.set_cons_succ]
          refine wpAnyH_done (by kernel_rfl) ?_ _
          have hBz := hBr.trans (hB61.mono hBr.size)
          have hPz := Arr.up hPr hB61
          clear hHeld
          go_wp2_with fail
          go_roundw
          case rel => exact ⟨i + 1, by go_num, by omega, hPz, hBz⟩
          case measure => simp [intOf]; omega
    · have hin2 : ¬ (i : Int) < (n : Int) := by omega
      go_wp2_with fail
      go_ret
      exact ⟨rfl, hBo⟩

theorem merkleEach_walk (A : Option Addr) (n c : Nat) (rs : List (List UInt8)) (hn : rs.length = n) (hc : n ≤ c) (hcm : c ≤ maxLen) (w : World) (hrs : RowsAt w w.heap.size A rs) :
    Calls Try.prog 7 #[.slice A n c] w fun e w' => e = .returned (.bool true) ∧ Below w.heap.size w w' := by
  unfold maxLen at hcm
  by_cases h : 20 < n ∨ greatF rs = true
  · exact meach_great rs A n c w hn hc (by omega) hrs h
  · exact meach_in rs A n c w hn hc (by omega) hrs (by cases hG : greatF rs <;> simp_all) (by omega)

end Go.Proofs.Ytkpgbgiamekhaab

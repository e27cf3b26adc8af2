/-
  The walk of MerkleTurned.
-/
import Derived.Test.YtkpgbgiamekhaabGreatRows
import Derived.Test.YtkpgbgiamekhaabMSpeaks
import Derived.Test.YtkpgbgiamekhaabRowsArg
import Derived.Test.YtkpgbgiamekhaabDigTurn
import Derived.Test.YtkpgbgiamekhaabProve
import Derived.Test.YtkpgbgiamekhaabClash2
namespace Go.Proofs.Ytkpgbgiamekhaab
open Go.RowKit
set_option linter.unusedVariables false
set_option linter.unusedSimpArgs false

theorem and_low (z : Int) (M : Nat) (hM : M < 9223372036854775808) : ∃ v : Nat, v ≤ M ∧ bits .and .i64 z (M : Int) = (v : Int) := by
  have hb : BitVec.ofInt IntKind.i64.bits (M : Int) = BitVec.ofNat IntKind.i64.bits M := by simp
  have h2 : (BitVec.ofNat IntKind.i64.bits M).toNat = M := by
    rw [BitVec.toNat_ofNat]
    exact Nat.mod_eq_of_lt (Nat.lt_trans hM (by decide))
  have hle : ((BitVec.ofInt IntKind.i64.bits z).toNat &&& M) ≤ M := Nat.and_le_right
  refine ⟨(BitVec.ofInt IntKind.i64.bits z).toNat &&& M, hle, ?_⟩
  simp only [bits, hb, BitVec.toNat_and, h2]
  rw [IntKind.wrap_i64]
  omega
theorem xor_u8 (a b : UInt8) : bits .xor .u8 ((a.toNat : Nat) : Int) ((b.toNat : Nat) : Int) = (((a ^^^ b).toNat : Nat) : Int) := by
  have h : ∀ a b : Fin 256, bits .xor .u8 ((a.val : Nat) : Int) ((b.val : Nat) : Int) = (((a.val ^^^ b.val : Nat)) : Int) := by decide +kernel
  have := h ⟨a.toNat, a.toNat_lt⟩ ⟨b.toNat, b.toNat_lt⟩
  rw [UInt8.toNat_xor]
  exact this

theorem xor_ne {a b : UInt8} (h : 0 < b.toNat) : a ^^^ b ≠ a := by
  intro e
  have h2 : ∀ a b : Fin 256, a.val ^^^ b.val = a.val → b.val = 0 := by decide +kernel
  have h3 := h2 ⟨a.toNat, a.toNat_lt⟩ ⟨b.toNat, b.toNat_lt⟩ (by
    have := congrArg UInt8.toNat e
    rw [UInt8.toNat_xor] at this
    exact this)
  simp at h3
  omega

set_option maxHeartbeats 8000000 in
set_option maxRecDepth 100000 in
theorem mturn_idle (rs : List (List UInt8)) (A : Option Addr) (n c : Nat) (a wh : Int) (tu : Nat) (w : World) (hn : rs.length = n) (hc : n ≤ c) (hcm : c ≤ 9223372036854775807) (hrs : RowsAt w w.heap.size A rs) (hG : greatF rs = true ∨ n = 0 ∨ tu = 0) :
    Calls Try.prog 8 #[.slice A n c, .int .i64 a, .int .i64 wh, .int .u8 (tu : Nat)] w fun e w' => e = .returned (.bool true) ∧ Below w.heap.size w w' := by
  obtain ⟨G, hGe⟩ : ∃ G, greatF rs = G := ⟨_, rfl⟩
  rw [hGe] at hG
  have HG := Lib.hid hGe
  have Hn := Lib.hid hn
  have hd : G = true ∨ (G = false ∧ ((n : Int) == 0) = true) ∨ (G = false ∧ ((n : Int) == 0) = false ∧ ((tu : Int) == 0) = true) := by
    cases G
    · by_cases h0 : n = 0
      · exact .inr (.inl ⟨rfl, by rw [h0]; rfl⟩)
      · refine .inr (.inr ⟨rfl, by rw [beq_eq_false_iff_ne]; omega, ?_⟩)
        rcases hG with h | h | h
        · cases h
        · exact absurd h h0
        · rw [h]; rfl
    · exact .inl rfl
  clear hG hn hGe
  rcases hd with rfl | ⟨rfl, h1⟩ | ⟨rfl, h1, h2⟩
  all_goals
    go_enter Try.func8, Try.ntmps8
    go_wp2_with fail
    refine Calls.mono (mspeaks_true w) ?_
    rintro e w1 ⟨rfl, hb1⟩
    have hr1 := hrs.below hb1 (Nat.le_refl _)
    go_wp2_with fail
    refine Calls.mono (great_any _ rs A n c w1 Hn.out hc hcm hr1) ?_
    rintro e w2 ⟨rfl, rfl⟩
    rw [HG.out]
    go_wp2_with fail
    go_ret
    exact ⟨rfl, hb1⟩

set_option maxHeartbeats 40000000 in
set_option maxRecDepth 100000 in
theorem mturn_in (rs : List (List UInt8)) (A : Option Addr) (n c : Nat) (a wh : Int) (hw1 : -9223372036854775808 ≤ wh) (hw2 : wh ≤ 9223372036854775807) (tu : Nat) (tb : UInt8) (htb : tb.toNat = tu) (w : World) (hn : rs.length = n) (hc : n ≤ c) (hcm : c ≤ 9223372036854775807) (hrs : RowsAt w w.heap.size A rs) (hG : greatF rs = false) (h0 : 0 < n) (ht : 0 < tu) :
    Calls Try.prog 8 #[.slice A n c, .int .i64 a, .int .i64 wh, .int .u8 (tu : Nat)] w fun e w' => e = .returned (.bool true) ∧ Below w.heap.size w w' := by
  obtain ⟨hn60, hrl300⟩ := greatF_no hG
  have hd1 : ((n : Int) == 0) = false := by rw [beq_eq_false_iff_ne]; omega
  have hd2 : ((tu : Int) == 0) = false := by rw [beq_eq_false_iff_ne]; omega
  obtain ⟨blk, off, rfl, hblk, hrow⟩ := hrs (by omega)
  obtain ⟨Mk, hMk, hMke⟩ := and_low a 65535 (by omega)
  have hMke' : bits .and .i64 a 65535 = (Mk : Int) := hMke
  obtain ⟨k, hk⟩ : ∃ k : Nat, Mk % n = k := ⟨_, rfl⟩
  have han : k < n := by rw [← hk]; exact Nat.mod_lt _ h0
  have hkI : (Mk : Int) % (n : Int) = (k : Int) := by rw [← hk]; omega
  obtain ⟨A0, c0, hcell, hlc0, hcm0, hb0⟩ := hrow k (by omega)
  have hl300 : (rs.getD k []).length ≤ 300 := hrl300 _ (by simp [List.getD, show k < rs.length by omega])
  have hpl := prove_leads n rs k hn han
  have hplen := proveF_length n rs k hn
  have hpless := plenF_lt n k (by omega)
  obtain ⟨pf, hpf⟩ : ∃ x, proveF rs k = x := ⟨_, rfl⟩
  rw [hpf] at hpl hplen
  obtain ⟨m1, hm1⟩ : ∃ m1, pf.length = m1 := ⟨_, rfl⟩
  rw [hm1] at hplen
  have HPf := Lib.hid hpf
  have HPl := Lib.hid hm1
  have hm60 : m1 ≤ 60 := by omega
  obtain ⟨r0, hre⟩ : ∃ r, rs.getD k [] = r := ⟨_, rfl⟩
  rw [hre] at hcell hlc0 hb0 hl300
  obtain ⟨l0, hl⟩ : ∃ l, r0.length = l := ⟨_, rfl⟩
  rw [hl] at hcell hlc0 hl300
  have Hl0 := Lib.hid hl
  have Hq1 := Lib.hid (show (pf ++ [zeros]).length = m1 + 1 by rw [List.length_append, hm1]; rfl)
  have Hv1 := Lib.hid (show verF (rootF rs) (n : Int) (k : Int) r0 (pf ++ [zeros]) = false from verF_len han (by rw [Hq1.out]; omega))
  have Hq2 := Lib.hid (show (pf.drop 1).length = m1 - 1 by rw [List.length_drop, hm1])
  have Hled := Lib.hid (fun (ds : List (List UInt8)) (h : verF (rootF rs) (n : Int) (k : Int) r0 ds = true) => (show leadF n k r0 ds = (rootF rs, true) by
    rw [verF_in han, Bool.and_eq_true, decide_eq_true_eq] at h
    exact Prod.ext h.2 h.1))
  have Hv20 := Lib.hid (fun (h : 0 < m1) => (show verF (rootF rs) (n : Int) (k : Int) r0 (pf.drop 1) = false from verF_len han (by rw [Hq2.out]; omega)))
  clear hrow hpl hm1 hre hl hplen hpless hpf hk hMke hMk
  obtain ⟨RL, hRL⟩ : ∃ V, V = Lib.byteCells (rootF rs) := ⟨_, rfl⟩
  have HRLl := Lib.hid (show RL.length = 32 by rw [hRL, Lib.byteCells_length]; exact rootF_length _)
  have HRLi := Lib.hid (show (Try.prog.info? 26).map (·.size) = some RL.toArray.size by rw [List.size_toArray, HRLl.out]; exact digInfo)
  have HRL1 := Lib.hid (show RL.toArray.all (·.oneCell') = true by rw [hRL]; exact dig_one _)
  have HRLs := Lib.hid (show (Lib.byteCells zeros).toArray.size = RL.toArray.size by rw [List.size_toArray, List.size_toArray, HRLl.out]; rfl)
  have HRL := Lib.hid hRL
  clear hRL
  obtain ⟨ZL, hZL⟩ : ∃ V, V = Lib.byteCells (zeros) := ⟨_, rfl⟩
  have HZLl := Lib.hid (show ZL.length = 32 by rw [hZL, Lib.byteCells_length]; exact rfl)
  have HZLi := Lib.hid (show (Try.prog.info? 26).map (·.size) = some ZL.toArray.size by rw [List.size_toArray, HZLl.out]; exact digInfo)
  have HZL1 := Lib.hid (show ZL.toArray.all (·.oneCell') = true by rw [hZL]; exact dig_one _)
  have HZLs := Lib.hid (show (Lib.byteCells zeros).toArray.size = ZL.toArray.size by rw [List.size_toArray, List.size_toArray, HZLl.out]; rfl)
  have HZL := Lib.hid hZL
  clear hZL
  have HG := Lib.hid hG
  have Hn := Lib.hid hn
  have Hr300 := Lib.hid hrl300
  have hn6 : n ≤ 1000000 := by omega
  clear hn hrl300 hG hn60
  go_enter Try.func8, Try.ntmps8
  go_wp2_with fail
  refine Calls.mono (mspeaks_true w) ?_
  rintro e w1 ⟨rfl, hB1⟩
  have hr1 := hrs.below hB1 (Nat.le_refl _)
  go_wp2_with fail
  refine Calls.mono (great_any _ rs _ n c w1 Hn.out hc hcm hr1) ?_
  rintro e w2 ⟨rfl, rfl⟩
  rw [HG.out]
  go_wp2_with fail
  refine Calls.mono (root_at rs RL _ n c _ Hn.out HRL.out hn6 hc hcm Hr300.out (hr1.more hB1.size)) ?_
  rintro e w3 ⟨rfl, hb3⟩
  have hB3 := hB1.trans (hb3.mono hB1.size)
  have hr3 := hr1.below hb3 hB1.size
  clear hb3 hr1
  go_wp2_with (change wpList _ _ _ _ _ (w3.alloc (.cells (Lib.byteCells zeros).toArray 26)); refine wpList_store_row rfl _ _ _ rfl w3.heap.size RL.toArray rfl rfl 26 (Lib.byteCells zeros).toArray (heap_alloc_new w3 _) HRLi.out HRLs.out HRL1.out ?_; obtain ⟨w4, hww4⟩ : ∃ x, x = (w3.alloc (.cells (Lib.byteCells zeros).toArray 26)).setRow w3.heap.size RL.toArray := ⟨_, rfl⟩; rw [← hww4]; obtain ⟨hP4, hb4⟩ := alloc_row w3 26 (Lib.byteCells zeros).toArray RL; rw [← hww4] at hP4 hb4; clear hww4)
  have hB4 := hB3.trans (hb4.mono hB3.size)
  have hr4 := (hr3.below hb4 hB3.size).more hB4.size
  obtain ⟨g, hg⟩ : ∃ g, g = w3.heap.size := ⟨_, rfl⟩
  rw [← hg] at hP4 ⊢
  clear hg hb4 hr3 hd1 hd2 hMke' hkI
  refine Calls.mono (prove_in rs _ n c k w4 Hn.out han hn6 hc hcm Hr300.out hr4) ?_
  rintro e w5 ⟨v5, rfl, hD5, hb5⟩
  rw [HPf.out] at hD5
  have hP5 := hP4.up hb5
  have hB5 := hB4.trans (hb5.mono hB4.size)
  have H32 := Lib.hid hD5.1
  have Hrow := Lib.hid (fun (h : 0 < m1) => (show ∃ gp c', v5 = .slice (some ⟨gp, 0, none⟩) m1 c' by
    obtain ⟨gp, c', e, _⟩ := hD5.row (by rw [HPl.out]; exact h)
    rw [HPl.out] at e
    exact ⟨gp, c', e⟩))
  obtain ⟨A1, c1, rfl, h11, h12, hdg5⟩ := hD5.slice
  rw [HPl.out] at h11 Hrow ⊢
  unfold maxLen at h12
  clear hP4 hr4 hB4 hB3 hB1 hb5 hD5
  have hc5 : w5.cell? ⟨blk, off + k, none⟩ = some (.slice A0 l0 c0) := (hB5.cell (p := ⟨blk, off + k, none⟩) hblk).trans hcell
  have hblk5 : blk < w5.heap.size := Nat.lt_of_lt_of_le hblk hB5.size
  have keep5 : ∀ {w' : World}, Below w5.heap.size w5 w' → w'.rangeAt g 0 RL ∧ w'.cell? ⟨blk, off + k, none⟩ = some (.slice A0 l0 c0) := fun h => ⟨(Arr.below hP5 h hP5.lt).range, (h.cell (p := ⟨blk, off + k, none⟩) hblk5).trans hc5⟩
  have hB50 : Below w5.heap.size w5 w5.drew := below_drew _ _
  have hkI : (k : Int) < (n : Int) := by omega
  go_upto_region 8 with fail
  go_cut [58] (fun s wx => s = .bool false ∧ Below w5.heap.size w5 wx)
  case first =>
    refine wp_region_held_drew (S := fun w' => w'.rangeAt g 0 RL ∧ w'.cell? ⟨blk, off + k, none⟩ = some (.slice A0 l0 c0)) (by kernel_rfl) (keep5 hB50) (fun hHeld => ?_)
    obtain ⟨wd, hwd⟩ : ∃ x, x = w5.drew := ⟨_, rfl⟩
    rw [← hwd] at hB50 ⊢
    try rw [← hwd] at hHeld
    clear hwd
    refine anyH_take (i := 0) (v := .int .i64 0) (some 40) rfl rfl (by kernel_rfl) (by kernel_rfl) (by kernel_rfl) (fun _ _ _ h => h) (Or.inl ⟨by rfl, fun _ hw => by rfl⟩) (by assumption) ?_
    simp only [Act.put, List.setIfInBounds_toArray, List.set_cons_zero, List.set_cons_succ]
    refine anyH_take (i := 1) (v := .bool false) (some 41) rfl rfl (by kernel_rfl) (by kernel_rfl) (by kernel_rfl) (fun _ _ _ h => h) (Or.inl ⟨by rfl, fun _ hw => by go_simp⟩) (by assumption) ?_
    simp only [Act.put, List.setIfInBounds_toArray, List.set_cons_zero, List.set_cons_succ]
    refine anyH_take (i := 2) (v := .bool false) (some 42) rfl rfl (by kernel_rfl) (by kernel_rfl) (by kernel_rfl) (fun _ _ _ h => h) (Or.inl ⟨by rfl, fun _ hw => by rfl⟩) (by assumption) ?_
    simp only [Act.put, List.setIfInBounds_toArray, List.set_cons_zero, List.set_cons_succ]
    refine anyH_take (i := 3) (some 43) rfl rfl (by kernel_rfl) (by kernel_rfl) (by kernel_rfl) (fun _ _ _ h => h) (yieldsIf_load_mid (by rfl) 26 (.tmp 10) rfl g 0 rfl RL _ (fun _ h => h.1) Try.underlying26 rfl HRLi.out) (by assumption) ?_
    simp only [Act.put, List.setIfInBounds_toArray, List.set_cons_zero, List.set_cons_succ]
    refine anyH_take (i := 4) (v := .slice (some ⟨blk, off, none⟩) n c) (some 44) rfl rfl (by kernel_rfl) (by kernel_rfl) (by kernel_rfl) (fun _ _ _ h => h) (Or.inl ⟨by rfl, fun _ hw => by rfl⟩) (by assumption) ?_
    simp only [Act.put, List.setIfInBounds_toArray, List.set_cons_zero, List.set_cons_succ]
    refine anyH_take (i := 5) (v := .int .i64 (n : Nat)) (some 45) rfl rfl (by kernel_rfl) (by kernel_rfl) (by kernel_rfl) (fun _ _ _ h => h) (Or.inl ⟨by rfl, fun _ hw => by go_simp⟩) (by assumption) ?_
    simp only [Act.put, List.setIfInBounds_toArray, List.set_cons_zero, List.set_cons_succ]
    refine anyH_take (i := 6) (v := .int .i64 (k : Nat)) (some 46) rfl rfl (by kernel_rfl) (by kernel_rfl) (by kernel_rfl) (fun _ _ _ h => h) (Or.inl ⟨by rfl, fun _ hw => by rfl⟩) (by assumption) ?_
    simp only [Act.put, List.setIfInBounds_toArray, List.set_cons_zero, List.set_cons_succ]
    refine anyH_take (i := 7) (v := .slice (some ⟨blk, off, none⟩) n c) (some 47) rfl rfl (by kernel_rfl) (by kernel_rfl) (by kernel_rfl) (fun _ _ _ h => h) (Or.inl ⟨by rfl, fun _ hw => by rfl⟩) (by assumption) ?_
    simp only [Act.put, List.setIfInBounds_toArray, List.set_cons_zero, List.set_cons_succ]
    refine anyH_take (i := 8) (v := .int .i64 (k : Nat)) (some 48) rfl rfl (by kernel_rfl) (by kernel_rfl) (by kernel_rfl) (fun _ _ _ h => h) (Or.inl ⟨by rfl, fun _ hw => by rfl⟩) (by assumption) ?_
    simp only [Act.put, List.setIfInBounds_toArray, List.set_cons_zero, List.set_cons_succ]
    refine anyH_take (i := 9) (v := .pointer (some ⟨blk, off + k, none⟩)) (some 49) rfl rfl (by kernel_rfl) (by kernel_rfl) (by kernel_rfl) (fun _ _ _ h => h) (Or.inl ⟨by rfl, fun _ hw => by go_simp⟩) (by assumption) ?_
    simp only [Act.put, List.setIfInBounds_toArray, List.set_cons_zero, List.set_cons_succ]
    refine anyH_take (i := 10) (v := .slice A0 l0 c0) (some 50) rfl rfl (by kernel_rfl) (by kernel_rfl) (by kernel_rfl) (fun _ _ _ h => h) (Or.inl ⟨by rfl, fun _ hw => by (have hw2 := hw.2; go_simp)⟩) (by assumption) ?_
    simp only [Act.put, List.setIfInBounds_toArray, List.set_cons_zero, List.set_cons_succ]
    refine anyH_take (i := 12) (v := .slice A1 m1 c1) (some 52) rfl rfl (by kernel_rfl) (by kernel_rfl) (by kernel_rfl) (fun _ _ _ h => h) (Or.inl ⟨by rfl, fun _ hw => by rfl⟩) (by assumption) ?_
    simp only [Act.put, List.setIfInBounds_toArray, List.set_cons_zero, List.set_cons_succ]
    refine anyH_take (i := 14) (v := .agg ZL.toArray) (some 54) rfl rfl (by kernel_rfl) (by kernel_rfl) (by kernel_rfl) (fun _ _ _ h => h) (Or.inl ⟨by rfl, fun _ hw => by (rw [HZL.out]; go_simp; rfl)⟩) (by assumption) ?_
    simp only [Act.put, List.setIfInBounds_toArray, List.set_cons_zero, List.set_cons_succ]
    refine wpAnyH_ready (rs := [11, 15]) (by kernel_rfl) (by simp) ?_
    refine AllReadyH.cons rfl (fun KC hKC => ?_) (AllReadyH.cons rfl (fun KC hKC => ?_) AllReadyH.nil)
    · have hBa61 := hB50.alloc hB50.size (.cells #[] 26)
      rw [if_pos (by rfl)]
      go_simp
      refine hKC.out _ _ (keep5 hBa61) (fun hHeld61 => ?_)
      clear hKC KC
      try simp only [Act.put, List.setIfInBounds_toArray, List.set_cons_zero, List.set_cons_succ]
      change wpAnyH _ _ _ _ _ _ _ _ (wd.alloc (.cells #[] 26))
      have hd61 := DRow.empty wd w5.heap.size hB50.size
      have hb61 : Below wd.heap.size wd (wd.alloc (.cells #[] 26)) := (Below.refl _ _).alloc (Nat.le_refl _) _
      obtain ⟨g61, hg61⟩ : ∃ x, x = wd.heap.size := ⟨_, rfl⟩
      obtain ⟨w61, hw61⟩ : ∃ x, x = wd.alloc (.cells #[] 26) := ⟨_, rfl⟩
      rw [← hw61] at hb61 hd61 ⊢
      rw [← hg61] at hd61 ⊢
      have hB61 := hB50.trans (hb61.mono hB50.size)
      clear hw61 hg61
      refine wpAnyH_ready (rs := [13, 15]) (by kernel_rfl) (by simp) ?_
      refine AllReadyH.cons rfl (fun KC hKC => ?_) (AllReadyH.cons rfl (fun KC hKC => ?_) AllReadyH.nil)
      · rw [if_pos (by rfl)]
        refine wp_append_digs (some 53) rfl _ _ rfl hd61 hB61.size rfl A1 m1 c1 rfl _ HPl.out (hdg5.below hB61) (by simp; omega) (fun v62 w62 h62 hg62 => ?_)
        rw [List.nil_append] at h62
        have hB62 := hB61.trans ((Below.refl _ _).grown hg62 hB61.size (fun k hk => (hd61.lt k hk).1))
        simp only [Act.put, List.setIfInBounds_toArray, List.set_cons_zero, List.set_cons_succ]
        refine hKC.out _ _ (keep5 hB62) (fun hHeld62 => ?_)
        clear hKC KC
        try simp only [Act.put, List.setIfInBounds_toArray, List.set_cons_zero, List.set_cons_succ]
        refine wpAnyH_ready (rs := [15]) (by kernel_rfl) (by simp) ?_
        refine AllReadyH.cons rfl (fun KC hKC => ?_) AllReadyH.nil
        have hBa63 := hB62.alloc hB62.size (.cells ZL.toArray 26)
        rw [if_pos (by rfl)]
        refine wp_build_dig (some 55) rfl _ rfl ZL HZLl.out rfl ?_
        simp only [Act.put, List.setIfInBounds_toArray, List.set_cons_zero, List.set_cons_succ]
        refine hKC.out _ _ (keep5 hBa63) (fun hHeld63 => ?_)
        clear hKC KC
        try simp only [Act.put, List.setIfInBounds_toArray, List.set_cons_zero, List.set_cons_succ]
        obtain ⟨g63, hg63⟩ : ∃ x, x = w62.heap.size := ⟨_, rfl⟩
        have N63 := Arr.new w62 26 ZL
        have hb63 : Below w62.heap.size w62 (w62.alloc (.cells ZL.toArray 26)) := (Below.refl _ _).alloc (Nat.le_refl _) _
        obtain ⟨w63, hw63⟩ : ∃ x, x = w62.alloc (.cells ZL.toArray 26) := ⟨_, rfl⟩
        rw [← hw63] at hb63 N63 ⊢
        rw [← hg63] at N63 ⊢
        have hd63 := h62.up hb63
        have hB63 := hB62.trans (hb63.mono hB62.size)
        rw [HZL.out] at N63
        clear hw63 hg63
        refine wpAnyH_ready (rs := [16]) (by kernel_rfl) (by simp) ?_
        refine AllReadyH.cons rfl (fun KC hKC => ?_) AllReadyH.nil
        rw [if_pos (by rfl)]
        refine wp_append_digs (some 56) rfl _ _ rfl hd63 hB63.size rfl (some ⟨g63, 0, none⟩) 1 1 rfl [zeros] rfl (digs_one N63 rfl) (by rw [HPl.out]; omega) (fun v64 w64 h64 hg64 => ?_)
        have hB64 := hB63.trans ((Below.refl _ _).grown hg64 hB63.size (fun k hk => (hd63.lt k hk).1))
        obtain ⟨A2, c2, rfl, h21, h22, hdg2⟩ := h64.slice
        rw [Hq1.out] at h21 ⊢
        unfold maxLen at h22
        simp only [Act.put, List.setIfInBounds_toArray, List.set_cons_zero, List.set_cons_succ]
        refine hKC.out _ _ (keep5 hB64) (fun hHeld64 => ?_)
        clear hKC KC
        try simp only [Act.put, List.setIfInBounds_toArray, List.set_cons_zero, List.set_cons_succ]
        refine wpAnyH_ready (rs := [17]) (by kernel_rfl) (by simp) ?_
        refine AllReadyH.cons rfl (fun KC hKC => ?_) AllReadyH.nil
        go_simp
        go_at_call 16
        refine Calls.mono (verify_at (n : Int) (k : Int) (by omega) _ RL r0 (pf ++ [zeros]) A0 l0 c0 A2 (m1 + 1) c2 false _ ⟨rootF_length rs, HRL.out, Hl0.out, hl300, hlc0, hcm0, (hb0.below (hB5.trans (hB64.mono hB5.size)) (Nat.le_refl _)).more (hB5.trans (hB64.mono hB5.size)).size, Hq1.out, h21, by omega, hdg2⟩ Hv1.out) ?_
        rintro e w65 ⟨rfl, hb65⟩
        have hB65 := hB64.trans (hb65.mono hB64.size)
        go_wp2_with fail
        refine hKC.out _ _ (keep5 hB65) (fun hHeld65 => ?_)
        clear hKC KC
        try simp only [Act.put, List.setIfInBounds_toArray, List.set_cons_zero, List.set_cons_succ]
        refine anyH_take (i := 18) (v := .bool false) (some 58) rfl rfl (by kernel_rfl) (by kernel_rfl) (by kernel_rfl) (fun _ _ _ h => h) (Or.inl ⟨by rfl, fun _ hw => by go_simp⟩) (by assumption) ?_
        simp only [Act.put, List.setIfInBounds_toArray, List.set_cons_zero, List.set_cons_succ]
        refine wpAnyH_done (by kernel_rfl) ?_ _
        clear hHeld
        go_wp2_with fail
        go_meet
        exact ⟨rfl, hB65⟩
      · have hBa66 := hB61.alloc hB61.size (.cells ZL.toArray 26)
        rw [if_pos (by rfl)]
        refine wp_build_dig (some 55) rfl _ rfl ZL HZLl.out rfl ?_
        simp only [Act.put, List.setIfInBounds_toArray, List.set_cons_zero, List.set_cons_succ]
        refine hKC.out _ _ (keep5 hBa66) (fun hHeld66 => ?_)
        clear hKC KC
        try simp only [Act.put, List.setIfInBounds_toArray, List.set_cons_zero, List.set_cons_succ]
        obtain ⟨g66, hg66⟩ : ∃ x, x = w61.heap.size := ⟨_, rfl⟩
        have N66 := Arr.new w61 26 ZL
        have hb66 : Below w61.heap.size w61 (w61.alloc (.cells ZL.toArray 26)) := (Below.refl _ _).alloc (Nat.le_refl _) _
        have hne66 : g61 ≠ g66 := by have hlt : g61 < w61.heap.size := (hd61.lt _ rfl).2; omega
        obtain ⟨w66, hw66⟩ : ∃ x, x = w61.alloc (.cells ZL.toArray 26) := ⟨_, rfl⟩
        rw [← hw66] at hb66 N66 ⊢
        rw [← hg66] at N66 ⊢
        have hd66 := hd61.up hb66
        have hB66 := hB61.trans (hb66.mono hB61.size)
        rw [HZL.out] at N66
        clear hw66 hg66
        refine wpAnyH_ready (rs := [13]) (by kernel_rfl) (by simp) ?_
        refine AllReadyH.cons rfl (fun KC hKC => ?_) AllReadyH.nil
        rw [if_pos (by rfl)]
        refine wp_append_digs (some 53) rfl _ _ rfl hd66 hB66.size rfl A1 m1 c1 rfl _ HPl.out (hdg5.below hB66) (by simp; omega) (fun v67 w67 h67 hg67 => ?_)
        rw [List.nil_append] at h67
        have hB67 := hB66.trans ((Below.refl _ _).grown hg67 hB66.size (fun k hk => (hd66.lt k hk).1))
        have N67 : Arr w67 g66 26 (Lib.byteCells zeros) := (hg67.block g66 (Arr.lt N66) (by simp [Value.ownBlock]; exact fun h => hne66 h.symm)).trans N66
        have hns67 : ∀ j, (v67).ownBlock = some j → j ≠ j ∨ True := fun _ _ => .inr trivial
        simp only [Act.put, List.setIfInBounds_toArray, List.set_cons_zero, List.set_cons_succ]
        refine hKC.out _ _ (keep5 hB67) (fun hHeld67 => ?_)
        clear hKC KC
        try simp only [Act.put, List.setIfInBounds_toArray, List.set_cons_zero, List.set_cons_succ]
        refine wpAnyH_ready (rs := [16]) (by kernel_rfl) (by simp) ?_
        refine AllReadyH.cons rfl (fun KC hKC => ?_) AllReadyH.nil
        rw [if_pos (by rfl)]
        refine wp_append_digs (some 56) rfl _ _ rfl h67 hB67.size rfl (some ⟨g66, 0, none⟩) 1 1 rfl [zeros] rfl (digs_one N67 rfl) (by rw [HPl.out]; omega) (fun v68 w68 h68 hg68 => ?_)
        have hB68 := hB67.trans ((Below.refl _ _).grown hg68 hB67.size (fun k hk => (h67.lt k hk).1))
        obtain ⟨A2, c2, rfl, h21, h22, hdg2⟩ := h68.slice
        rw [Hq1.out] at h21 ⊢
        unfold maxLen at h22
        simp only [Act.put, List.setIfInBounds_toArray, List.set_cons_zero, List.set_cons_succ]
        refine hKC.out _ _ (keep5 hB68) (fun hHeld68 => ?_)
        clear hKC KC
        try simp only [Act.put, List.setIfInBounds_toArray, List.set_cons_zero, List.set_cons_succ]
        refine wpAnyH_ready (rs := [17]) (by kernel_rfl) (by simp) ?_
        refine AllReadyH.cons rfl (fun KC hKC => ?_) AllReadyH.nil
        go_simp
        go_at_call 16
        refine Calls.mono (verify_at (n : Int) (k : Int) (by omega) _ RL r0 (pf ++ [zeros]) A0 l0 c0 A2 (m1 + 1) c2 false _ ⟨rootF_length rs, HRL.out, Hl0.out, hl300, hlc0, hcm0, (hb0.below (hB5.trans (hB68.mono hB5.size)) (Nat.le_refl _)).more (hB5.trans (hB68.mono hB5.size)).size, Hq1.out, h21, by omega, hdg2⟩ Hv1.out) ?_
        rintro e w69 ⟨rfl, hb69⟩
        have hB69 := hB68.trans (hb69.mono hB68.size)
        go_wp2_with fail
        refine hKC.out _ _ (keep5 hB69) (fun hHeld69 => ?_)
        clear hKC KC
        try simp only [Act.put, List.setIfInBounds_toArray, List.set_cons_zero, List.set_cons_succ]
        refine anyH_take (i := 18) (v := .bool false) (some 58) rfl rfl (by kernel_rfl) (by kernel_rfl) (by kernel_rfl) (fun _ _ _ h => h) (Or.inl ⟨by rfl, fun _ hw => by go_simp⟩) (by assumption) ?_
        simp only [Act.put, List.setIfInBounds_toArray, List.set_cons_zero, List.set_cons_succ]
        refine wpAnyH_done (by kernel_rfl) ?_ _
        clear hHeld
        go_wp2_with fail
        go_meet
        exact ⟨rfl, hB69⟩
    · have hBa70 := hB50.alloc hB50.size (.cells ZL.toArray 26)
      rw [if_pos (by rfl)]
      refine wp_build_dig (some 55) rfl _ rfl ZL HZLl.out rfl ?_
      simp only [Act.put, List.setIfInBounds_toArray, List.set_cons_zero, List.set_cons_succ]
      refine hKC.out _ _ (keep5 hBa70) (fun hHeld70 => ?_)
      clear hKC KC
      try simp only [Act.put, List.setIfInBounds_toArray, List.set_cons_zero, List.set_cons_succ]
      obtain ⟨g70, hg70⟩ : ∃ x, x = wd.heap.size := ⟨_, rfl⟩
      have N70 := Arr.new wd 26 ZL
      have hb70 : Below wd.heap.size wd (wd.alloc (.cells ZL.toArray 26)) := (Below.refl _ _).alloc (Nat.le_refl _) _
      obtain ⟨w70, hw70⟩ : ∃ x, x = wd.alloc (.cells ZL.toArray 26) := ⟨_, rfl⟩
      rw [← hw70] at hb70 N70 ⊢
      rw [← hg70] at N70 ⊢
      have hB70 := hB50.trans (hb70.mono hB50.size)
      rw [HZL.out] at N70
      clear hw70 hg70
      refine wpAnyH_ready (rs := [11]) (by kernel_rfl) (by simp) ?_
      refine AllReadyH.cons rfl (fun KC hKC => ?_) AllReadyH.nil
      have hBa71 := hB70.alloc hB70.size (.cells #[] 26)
      rw [if_pos (by rfl)]
      go_simp
      refine hKC.out _ _ (keep5 hBa71) (fun hHeld71 => ?_)
      clear hKC KC
      try simp only [Act.put, List.setIfInBounds_toArray, List.set_cons_zero, List.set_cons_succ]
      change wpAnyH _ _ _ _ _ _ _ _ (w70.alloc (.cells #[] 26))
      have hd71 := DRow.empty w70 w5.heap.size hB70.size
      have hb71 : Below w70.heap.size w70 (w70.alloc (.cells #[] 26)) := (Below.refl _ _).alloc (Nat.le_refl _) _
      obtain ⟨g71, hg71⟩ : ∃ x, x = w70.heap.size := ⟨_, rfl⟩
      have hne71 : g71 ≠ g70 := by have := Arr.lt N70; omega
      obtain ⟨w71, hw71⟩ : ∃ x, x = w70.alloc (.cells #[] 26) := ⟨_, rfl⟩
      rw [← hw71] at hb71 hd71 ⊢
      rw [← hg71] at hd71 ⊢
      have hB71 := hB70.trans (hb71.mono hB70.size)
      have N71 := Arr.up N70 hb71
      clear hw71 hg71
      refine wpAnyH_ready (rs := [13]) (by kernel_rfl) (by simp) ?_
      refine AllReadyH.cons rfl (fun KC hKC => ?_) AllReadyH.nil
      rw [if_pos (by rfl)]
      refine wp_append_digs (some 53) rfl _ _ rfl hd71 hB71.size rfl A1 m1 c1 rfl _ HPl.out (hdg5.below hB71) (by simp; omega) (fun v72 w72 h72 hg72 => ?_)
      rw [List.nil_append] at h72
      have hB72 := hB71.trans ((Below.refl _ _).grown hg72 hB71.size (fun k hk => (hd71.lt k hk).1))
      have N72 : Arr w72 g70 26 (Lib.byteCells zeros) := (hg72.block g70 (Arr.lt N71) (by simp [Value.ownBlock]; exact fun h => hne71 h.symm)).trans N71
      have hns72 : ∀ j, (v72).ownBlock = some j → j ≠ j ∨ True := fun _ _ => .inr trivial
      simp only [Act.put, List.setIfInBounds_toArray, List.set_cons_zero, List.set_cons_succ]
      refine hKC.out _ _ (keep5 hB72) (fun hHeld72 => ?_)
      clear hKC KC
      try simp only [Act.put, List.setIfInBounds_toArray, List.set_cons_zero, List.set_cons_succ]
      refine wpAnyH_ready (rs := [16]) (by kernel_rfl) (by simp) ?_
      refine AllReadyH.cons rfl (fun KC hKC => ?_) AllReadyH.nil
      rw [if_pos (by rfl)]
      refine wp_append_digs (some 56) rfl _ _ rfl h72 hB72.size rfl (some ⟨g70, 0, none⟩) 1 1 rfl [zeros] rfl (digs_one N72 rfl) (by rw [HPl.out]; omega) (fun v73 w73 h73 hg73 => ?_)
      have hB73 := hB72.trans ((Below.refl _ _).grown hg73 hB72.size (fun k hk => (h72.lt k hk).1))
      obtain ⟨A2, c2, rfl, h21, h22, hdg2⟩ := h73.slice
      rw [Hq1.out] at h21 ⊢
      unfold maxLen at h22
      simp only [Act.put, List.setIfInBounds_toArray, List.set_cons_zero, List.set_cons_succ]
      refine hKC.out _ _ (keep5 hB73) (fun hHeld73 => ?_)
      clear hKC KC
      try simp only [Act.put, List.setIfInBounds_toArray, List.set_cons_zero, List.set_cons_succ]
      refine wpAnyH_ready (rs := [17]) (by kernel_rfl) (by simp) ?_
      refine AllReadyH.cons rfl (fun KC hKC => ?_) AllReadyH.nil
      go_simp
      go_at_call 16
      refine Calls.mono (verify_at (n : Int) (k : Int) (by omega) _ RL r0 (pf ++ [zeros]) A0 l0 c0 A2 (m1 + 1) c2 false _ ⟨rootF_length rs, HRL.out, Hl0.out, hl300, hlc0, hcm0, (hb0.below (hB5.trans (hB73.mono hB5.size)) (Nat.le_refl _)).more (hB5.trans (hB73.mono hB5.size)).size, Hq1.out, h21, by omega, hdg2⟩ Hv1.out) ?_
      rintro e w74 ⟨rfl, hb74⟩
      have hB74 := hB73.trans (hb74.mono hB73.size)
      go_wp2_with fail
      refine hKC.out _ _ (keep5 hB74) (fun hHeld74 => ?_)
      clear hKC KC
      try simp only [Act.put, List.setIfInBounds_toArray, List.set_cons_zero, List.set_cons_succ]
      refine anyH_take (i := 18) (v := .bool false) (some 58) rfl rfl (by kernel_rfl) (by kernel_rfl) (by kernel_rfl) (fun _ _ _ h => h) (Or.inl ⟨by rfl, fun _ hw => by go_simp⟩) (by assumption) ?_
      simp only [Act.put, List.setIfInBounds_toArray, List.set_cons_zero, List.set_cons_succ]
      refine wpAnyH_done (by kernel_rfl) ?_ _
      clear hHeld
      go_wp2_with fail
      go_meet
      exact ⟨rfl, hB74⟩
  case rest =>
    obtain ⟨rfl, hb6⟩ := hcut
    have hB6 := hB5.trans (hb6.mono hB5.size)
    have hP6 := Arr.up hP5 hb6
    have hdg6 := hdg5.below hb6
    have hr6 := (hrs.below hB6 (Nat.le_refl _)).more hB6.size
    obtain ⟨w6, hw6⟩ : ∃ x, x = wc := ⟨_, rfl⟩
    subst hw6
    have hc6 : w6.cell? ⟨blk, off + k, none⟩ = some (.slice A0 l0 c0) := (hB6.cell (p := ⟨blk, off + k, none⟩) hblk).trans hcell
    have hblk6 : blk < w6.heap.size := Nat.lt_of_lt_of_le hblk hB6.size
    have keep6 : ∀ {w' : World}, Below w6.heap.size w6 w' → w'.rangeAt g 0 RL ∧ w'.cell? ⟨blk, off + k, none⟩ = some (.slice A0 l0 c0) := fun h => ⟨(Arr.below hP6 h hP6.lt).range, (h.cell (p := ⟨blk, off + k, none⟩) hblk6).trans hc6⟩
    have hB60 : Below w6.heap.size w6 w6.drew := below_drew _ _
    clear keep5 hc5 hblk5 hP5 hdg5 hb6 hB5 hB50
    by_cases hm0 : m1 = 0
    · have hz : ((m1 : Int) == 0) = true := by rw [hm0]; rfl
      go_wp2_with fail
      go_ret
      exact ⟨rfl, hB6⟩
    · have hz : ((m1 : Int) == 0) = false := by rw [beq_eq_false_iff_ne]; omega
      obtain ⟨gp, c1', e⟩ := Hrow.out (by omega)
      injection e with e1 e2 e3
      subst e1
      clear e2 e3 Hrow
      have Hv2 := Lib.hid (Hv20.out (by omega))
      have hm1 : 1 ≤ m1 := by omega
      have hm1n : ¬ (m1 : Int) < 1 := by omega
      go_upto_region 12 with fail
      go_cut [72] (fun s wx => s = .bool false ∧ Below w6.heap.size w6 wx)
      case first =>
        by_cases hc1 : c1 = 1
        · have Hq20 := Lib.hid (show (pf.drop 1).length = 0 by rw [Hq2.out]; omega)
          have hm11 : m1 = 1 := by omega
          subst hc1
          subst hm11
          refine wp_region_held_drew (S := fun w' => w'.rangeAt g 0 RL ∧ w'.cell? ⟨blk, off + k, none⟩ = some (.slice A0 l0 c0)) (by kernel_rfl) (keep6 hB60) (fun hHeld => ?_)
          refine anyH_take (i := 0) (some 62) rfl rfl (by kernel_rfl) (by kernel_rfl) (by kernel_rfl) (fun _ _ _ h => h) (yieldsIf_load_mid (by rfl) 26 (.tmp 10) rfl g 0 rfl RL _ (fun _ h => h.1) Try.underlying26 rfl HRLi.out) (by assumption) ?_
          simp only [Act.put, List.setIfInBounds_toArray, List.set_cons_zero, List.set_cons_succ]
          refine anyH_take (i := 1) (v := .slice (some ⟨blk, off, none⟩) n c) (some 63) rfl rfl (by kernel_rfl) (by kernel_rfl) (by kernel_rfl) (fun _ _ _ h => h) (Or.inl ⟨by rfl, fun _ hw => by rfl⟩) (by assumption) ?_
          simp only [Act.put, List.setIfInBounds_toArray, List.set_cons_zero, List.set_cons_succ]
          refine anyH_take (i := 2) (v := .int .i64 (n : Nat)) (some 64) rfl rfl (by kernel_rfl) (by kernel_rfl) (by kernel_rfl) (fun _ _ _ h => h) (Or.inl ⟨by rfl, fun _ hw => by go_simp⟩) (by assumption) ?_
          simp only [Act.put, List.setIfInBounds_toArray, List.set_cons_zero, List.set_cons_succ]
          refine anyH_take (i := 3) (v := .int .i64 (k : Nat)) (some 65) rfl rfl (by kernel_rfl) (by kernel_rfl) (by kernel_rfl) (fun _ _ _ h => h) (Or.inl ⟨by rfl, fun _ hw => by rfl⟩) (by assumption) ?_
          simp only [Act.put, List.setIfInBounds_toArray, List.set_cons_zero, List.set_cons_succ]
          refine anyH_take (i := 4) (v := .slice (some ⟨blk, off, none⟩) n c) (some 66) rfl rfl (by kernel_rfl) (by kernel_rfl) (by kernel_rfl) (fun _ _ _ h => h) (Or.inl ⟨by rfl, fun _ hw => by rfl⟩) (by assumption) ?_
          simp only [Act.put, List.setIfInBounds_toArray, List.set_cons_zero, List.set_cons_succ]
          refine anyH_take (i := 5) (v := .int .i64 (k : Nat)) (some 67) rfl rfl (by kernel_rfl) (by kernel_rfl) (by kernel_rfl) (fun _ _ _ h => h) (Or.inl ⟨by rfl, fun _ hw => by rfl⟩) (by assumption) ?_
          simp only [Act.put, List.setIfInBounds_toArray, List.set_cons_zero, List.set_cons_succ]
          refine anyH_take (i := 6) (v := .pointer (some ⟨blk, off + k, none⟩)) (some 68) rfl rfl (by kernel_rfl) (by kernel_rfl) (by kernel_rfl) (fun _ _ _ h => h) (Or.inl ⟨by rfl, fun _ hw => by go_simp⟩) (by assumption) ?_
          simp only [Act.put, List.setIfInBounds_toArray, List.set_cons_zero, List.set_cons_succ]
          refine anyH_take (i := 7) (v := .slice A0 l0 c0) (some 69) rfl rfl (by kernel_rfl) (by kernel_rfl) (by kernel_rfl) (fun _ _ _ h => h) (Or.inl ⟨by rfl, fun _ hw => by (have hw2 := hw.2; go_simp)⟩) (by assumption) ?_
          simp only [Act.put, List.setIfInBounds_toArray, List.set_cons_zero, List.set_cons_succ]
          refine anyH_take (i := 8) (v := .slice (some ⟨gp, 0, none⟩) 1 1) (some 70) rfl rfl (by kernel_rfl) (by kernel_rfl) (by kernel_rfl) (fun _ _ _ h => h) (Or.inl ⟨by rfl, fun _ hw => by rfl⟩) (by assumption) ?_
          simp only [Act.put, List.setIfInBounds_toArray, List.set_cons_zero, List.set_cons_succ]
          refine anyH_take (i := 9) (v := .slice (some ⟨gp, 0, none⟩) 0 0) (some 71) rfl rfl (by kernel_rfl) (by kernel_rfl) (by kernel_rfl) (fun _ _ _ h => h) (Or.inl ⟨by rfl, fun _ hw => by go_simp⟩) (by assumption) ?_
          simp only [Act.put, List.setIfInBounds_toArray, List.set_cons_zero, List.set_cons_succ]
          refine wpAnyH_ready (rs := [10]) (by kernel_rfl) (by simp) ?_
          refine AllReadyH.cons rfl (fun KC hKC => ?_) AllReadyH.nil
          go_simp
          go_at_call 16
          refine Calls.mono (verify_at (n : Int) (k : Int) (by omega) _ RL r0 (pf.drop 1) A0 l0 c0 (some ⟨gp, 0, none⟩) 0 0 false _ ⟨rootF_length rs, HRL.out, Hl0.out, hl300, hlc0, hcm0, (hb0.below (hB6.trans (hB60.mono hB6.size)) (Nat.le_refl _)).more (hB6.trans (hB60.mono hB6.size)).size, Hq20.out, by omega, by omega, (fun h => absurd h (by rw [Hq20.out]; omega))⟩ Hv2.out) ?_
          rintro e w61 ⟨rfl, hb61⟩
          have hB61 := hB60.trans (hb61.mono hB60.size)
          go_wp2_with fail
          refine hKC.out _ _ (keep6 hB61) (fun hHeld61 => ?_)
          clear hKC KC
          try simp only [Act.put, List.setIfInBounds_toArray, List.set_cons_zero, List.set_cons_succ]
          refine wpAnyH_done (by kernel_rfl) ?_ _
          clear hHeld
          go_wp2_with fail
          go_meet
          exact ⟨rfl, hB61⟩
        · have hmI : (m1 : Int) - 1 = ((m1 - 1 : Nat) : Int) := by omega
          refine wp_region_held_drew (S := fun w' => w'.rangeAt g 0 RL ∧ w'.cell? ⟨blk, off + k, none⟩ = some (.slice A0 l0 c0)) (by kernel_rfl) (keep6 hB60) (fun hHeld => ?_)
          refine anyH_take (i := 0) (some 62) rfl rfl (by kernel_rfl) (by kernel_rfl) (by kernel_rfl) (fun _ _ _ h => h) (yieldsIf_load_mid (by rfl) 26 (.tmp 10) rfl g 0 rfl RL _ (fun _ h => h.1) Try.underlying26 rfl HRLi.out) (by assumption) ?_
          simp only [Act.put, List.setIfInBounds_toArray, List.set_cons_zero, List.set_cons_succ]
          refine anyH_take (i := 1) (v := .slice (some ⟨blk, off, none⟩) n c) (some 63) rfl rfl (by kernel_rfl) (by kernel_rfl) (by kernel_rfl) (fun _ _ _ h => h) (Or.inl ⟨by rfl, fun _ hw => by rfl⟩) (by assumption) ?_
          simp only [Act.put, List.setIfInBounds_toArray, List.set_cons_zero, List.set_cons_succ]
          refine anyH_take (i := 2) (v := .int .i64 (n : Nat)) (some 64) rfl rfl (by kernel_rfl) (by kernel_rfl) (by kernel_rfl) (fun _ _ _ h => h) (Or.inl ⟨by rfl, fun _ hw => by go_simp⟩) (by assumption) ?_
          simp only [Act.put, List.setIfInBounds_toArray, List.set_cons_zero, List.set_cons_succ]
          refine anyH_take (i := 3) (v := .int .i64 (k : Nat)) (some 65) rfl rfl (by kernel_rfl) (by kernel_rfl) (by kernel_rfl) (fun _ _ _ h => h) (Or.inl ⟨by rfl, fun _ hw => by rfl⟩) (by assumption) ?_
          simp only [Act.put, List.setIfInBounds_toArray, List.set_cons_zero, List.set_cons_succ]
          refine anyH_take (i := 4) (v := .slice (some ⟨blk, off, none⟩) n c) (some 66) rfl rfl (by kernel_rfl) (by kernel_rfl) (by kernel_rfl) (fun _ _ _ h => h) (Or.inl ⟨by rfl, fun _ hw => by rfl⟩) (by assumption) ?_
          simp only [Act.put, List.setIfInBounds_toArray, List.set_cons_zero, List.set_cons_succ]
          refine anyH_take (i := 5) (v := .int .i64 (k : Nat)) (some 67) rfl rfl (by kernel_rfl) (by kernel_rfl) (by kernel_rfl) (fun _ _ _ h => h) (Or.inl ⟨by rfl, fun _ hw => by rfl⟩) (by assumption) ?_
          simp only [Act.put, List.setIfInBounds_toArray, List.set_cons_zero, List.set_cons_succ]
          refine anyH_take (i := 6) (v := .pointer (some ⟨blk, off + k, none⟩)) (some 68) rfl rfl (by kernel_rfl) (by kernel_rfl) (by kernel_rfl) (fun _ _ _ h => h) (Or.inl ⟨by rfl, fun _ hw => by go_simp⟩) (by assumption) ?_
          simp only [Act.put, List.setIfInBounds_toArray, List.set_cons_zero, List.set_cons_succ]
          refine anyH_take (i := 7) (v := .slice A0 l0 c0) (some 69) rfl rfl (by kernel_rfl) (by kernel_rfl) (by kernel_rfl) (fun _ _ _ h => h) (Or.inl ⟨by rfl, fun _ hw => by (have hw2 := hw.2; go_simp)⟩) (by assumption) ?_
          simp only [Act.put, List.setIfInBounds_toArray, List.set_cons_zero, List.set_cons_succ]
          refine anyH_take (i := 8) (v := .slice (some ⟨gp, 0, none⟩) m1 c1) (some 70) rfl rfl (by kernel_rfl) (by kernel_rfl) (by kernel_rfl) (fun _ _ _ h => h) (Or.inl ⟨by rfl, fun _ hw => by rfl⟩) (by assumption) ?_
          simp only [Act.put, List.setIfInBounds_toArray, List.set_cons_zero, List.set_cons_succ]
          refine anyH_take (i := 9) (v := .slice (some ⟨gp, 32, none⟩) (m1 - 1) (c1 - 1)) (some 71) rfl rfl (by kernel_rfl) (by kernel_rfl) (by kernel_rfl) (fun _ _ _ h => h) (Or.inl ⟨by rfl, fun _ hw => by go_simp⟩) (by assumption) ?_
          simp only [Act.put, List.setIfInBounds_toArray, List.set_cons_zero, List.set_cons_succ]
          refine wpAnyH_ready (rs := [10]) (by kernel_rfl) (by simp) ?_
          refine AllReadyH.cons rfl (fun KC hKC => ?_) AllReadyH.nil
          go_simp
          go_at_call 16
          refine Calls.mono (verify_at (n : Int) (k : Int) (by omega) _ RL r0 (pf.drop 1) A0 l0 c0 (some ⟨gp, 32, none⟩) (m1 - 1) (c1 - 1) false _ ⟨rootF_length rs, HRL.out, Hl0.out, hl300, hlc0, hcm0, (hb0.below (hB6.trans (hB60.mono hB6.size)) (Nat.le_refl _)).more (hB6.trans (hB60.mono hB6.size)).size, Hq2.out, by omega, by omega, (by have h := DigsAt.tail (hdg6.below hB60); simpa using h)⟩ Hv2.out) ?_
          rintro e w61 ⟨rfl, hb61⟩
          have hB61 := hB60.trans (hb61.mono hB60.size)
          go_wp2_with fail
          refine hKC.out _ _ (keep6 hB61) (fun hHeld61 => ?_)
          clear hKC KC
          try simp only [Act.put, List.setIfInBounds_toArray, List.set_cons_zero, List.set_cons_succ]
          refine wpAnyH_done (by kernel_rfl) ?_ _
          clear hHeld
          go_wp2_with fail
          go_meet
          exact ⟨rfl, hB61⟩
      case rest =>
        obtain ⟨rfl, hb7⟩ := hcut
        have hB7 := hB6.trans (hb7.mono hB6.size)
        have hP7 := Arr.up hP6 hb7
        have hdg7 := hdg6.below hb7
        obtain ⟨w7, hw7⟩ : ∃ x, x = wc := ⟨_, rfl⟩
        subst hw7
        clear keep6 hc6 hblk6 hP6 hdg6 hb7 hB60 hr6 Hv20 Hv2 Hv1 Hq1 Hq2
        obtain ⟨Mw, hMw, hMwe⟩ := and_low wh 65535 (by omega)
        obtain ⟨j, hj31, hje⟩ := and_low (wh / 16) 31 (by omega)
        have hMwe' : bits .and .i64 wh 65535 = (Mw : Int) := hMwe
        have hje' : bits .and .i64 (wh / 16) 31 = (j : Int) := hje
        obtain ⟨i, hi⟩ : ∃ i : Nat, Mw % m1 = i := ⟨_, rfl⟩
        have him : i < m1 := by rw [← hi]; exact Nat.mod_lt _ hm1
        have hiI : (Mw : Int) % (m1 : Int) = (i : Int) := by rw [← hi]; omega
        have hiT : (Mw : Int).tmod (m1 : Int) = (i : Int) := by rw [Int.tmod_eq_emod_of_nonneg (by omega)]; exact hiI
        have hE := DRow.empty w7 w7.heap.size (Nat.le_refl _)
        have hba : Below w7.heap.size w7 (w7.alloc (.cells #[] 26)) := (Below.refl _ w7).alloc (Nat.le_refl _) _
        clear hMwe hje hi hMw
        go_wp2_with (refine wpList_append_digs rfl _ _ rfl hE hba.size rfl _ m1 c1 rfl pf HPl.out (hdg7.below hba) (by simp; omega) ?_; intro v8 wq hq hgq; rw [List.nil_append] at hq; have hbq := hba.trans ((Below.refl w7.heap.size _).grown hgq hba.size (fun k hk => (hE.lt k hk).1)); clear hgq hE hba)
        obtain ⟨gq, cq, rfl, hgq1, hgq2, hmq, hcq, hcells, hturn⟩ := hq.row (by rw [HPl.out]; omega)
        have hcell0 := hcells i j (by rw [HPl.out]; omega) (by omega)
        have hturn0 := hturn i j ((pf.getD i []).getD j 0 ^^^ tb) (by rw [HPl.out]; omega) (by omega)
        have hpi : (pf.getD i []).length = 32 := H32.out _ (by simp [List.getD, show i < pf.length by rw [HPl.out]; exact him])
        have hne : turnF pf i j ((pf.getD i []).getD j 0 ^^^ tb) ≠ pf := turnF_ne (by rw [HPl.out]; exact him) (by omega) (xor_ne (by omega))
        have hxor := xor_u8 ((pf.getD i []).getD j 0) tb
        rw [HPl.out] at hmq ⊢
        unfold maxLen at hcq
        obtain ⟨x, hx⟩ : ∃ x, (pf.getD i []).getD j 0 ^^^ tb = x := ⟨_, rfl⟩
        rw [hx] at hturn0 hne hxor
        obtain ⟨b0, hb0e⟩ : ∃ b, ((pf.getD i []).getD j 0).toNat = b := ⟨_, rfl⟩
        rw [hb0e, htb] at hxor
        rw [hb0e] at hcell0
        obtain ⟨hq15, hf15⟩ := hcell0
        obtain ⟨x0, hx0⟩ : ∃ y, x.toNat = y := ⟨_, rfl⟩
        rw [hx0] at hxor hturn0
        have hb256 : b0 < 256 := by rw [← hb0e]; exact UInt8.toNat_lt _
        have Hturn := Lib.hid hturn0
        have Hne := Lib.hid hne
        obtain ⟨qf, hqf⟩ : ∃ q, turnF pf i j x = q := ⟨_, rfl⟩
        have Hqf := Lib.hid (show qf.length = m1 by rw [← hqf, turnF_length]; exact HPl.out)
        rw [hqf] at Hturn Hne
        have him' : (i : Int) < (m1 : Int) := by omega
        have hj' : (j : Int) < 32 := by omega
        clear hx hb0e hpi hturn hcells hx0 hqf hq hne hturn0
        have htu : (tu : Int) < 256 := by rw [← htb]; have := UInt8.toNat_lt tb; omega
        go_still_tail 16, (by kernel_rfl)
        go_wp2_with fail
        have hq8 : DRow (wq.setCell ⟨gq, i * 32 + j, none⟩ (.int .u8 (x0 : Nat))).drew w7.heap.size (.slice (some ⟨gq, 0, none⟩) pf.length cq) qf := Hturn.out.1
        have hb8 := (hbq.trans Hturn.out.2).trans (below_drew _ _)
        obtain ⟨w8, hw8⟩ : ∃ x, x = (wq.setCell ⟨gq, i * 32 + j, none⟩ (.int .u8 (x0 : Nat))).drew := ⟨_, rfl⟩
        rw [← hw8] at hq8 hb8 ⊢
        obtain ⟨A', c', e, _, _, hdgq⟩ := hq8.slice
        injection e with e1 e2 e3
        subst e1
        subst e3
        clear hw8 Hturn hq15 hf15 hbq hq8 hxor e2
        have hB8 := hB7.trans (hb8.mono hB7.size)
        have hP8 := Arr.below hP7 hb8 hP7.lt
        have hV8 : VIn w8 (rootF rs) RL r0 qf A0 l0 c0 (some ⟨gq, 0, none⟩) m1 cq := ⟨rootF_length rs, HRL.out, Hl0.out, hl300, hlc0, hcm0, (hb0.below hB8 (Nat.le_refl _)).more hB8.size, Hqf.out, hmq, by omega, hdgq⟩
        have hc8 : w8.cell? ⟨blk, off + k, none⟩ = some (.slice A0 l0 c0) := (hB8.cell (p := ⟨blk, off + k, none⟩) hblk).trans hcell
        have hblk8 : blk < w8.heap.size := Nat.lt_of_lt_of_le hblk hB8.size
        have keep8 : ∀ {w' : World}, Below w8.heap.size w8 w' → w'.rangeAt g 0 RL ∧ w'.cell? ⟨blk, off + k, none⟩ = some (.slice A0 l0 c0) := fun h => ⟨(Arr.below hP8 h hP8.lt).range, (h.cell (p := ⟨blk, off + k, none⟩) hblk8).trans hc8⟩
        have hB80 : Below w8.heap.size w8 w8.drew := below_drew _ _
        obtain ⟨B, hBe⟩ : ∃ B, verF (rootF rs) (n : Int) (k : Int) r0 qf = B := ⟨_, rfl⟩
        have HBv := Lib.hid hBe
        clear hBe hdgq
        cases B
        · skip
          refine wp_region_held_drew (S := fun w' => w'.rangeAt g 0 RL ∧ w'.cell? ⟨blk, off + k, none⟩ = some (.slice A0 l0 c0)) (by kernel_rfl) (keep8 hB80) (fun hHeld => ?_)
          refine anyH_take (i := 0) (some 92) rfl rfl (by kernel_rfl) (by kernel_rfl) (by kernel_rfl) (fun _ _ _ h => h) (yieldsIf_load_mid (by rfl) 26 (.tmp 10) rfl g 0 rfl RL _ (fun _ h => h.1) Try.underlying26 rfl HRLi.out) (by assumption) ?_
          simp only [Act.put, List.setIfInBounds_toArray, List.set_cons_zero, List.set_cons_succ]
          refine anyH_take (i := 1) (v := .slice (some ⟨blk, off, none⟩) n c) (some 93) rfl rfl (by kernel_rfl) (by kernel_rfl) (by kernel_rfl) (fun _ _ _ h => h) (Or.inl ⟨by rfl, fun _ hw => by rfl⟩) (by assumption) ?_
          simp only [Act.put, List.setIfInBounds_toArray, List.set_cons_zero, List.set_cons_succ]
          refine anyH_take (i := 2) (v := .int .i64 (n : Nat)) (some 94) rfl rfl (by kernel_rfl) (by kernel_rfl) (by kernel_rfl) (fun _ _ _ h => h) (Or.inl ⟨by rfl, fun _ hw => by go_simp⟩) (by assumption) ?_
          simp only [Act.put, List.setIfInBounds_toArray, List.set_cons_zero, List.set_cons_succ]
          refine anyH_take (i := 3) (v := .int .i64 (k : Nat)) (some 95) rfl rfl (by kernel_rfl) (by kernel_rfl) (by kernel_rfl) (fun _ _ _ h => h) (Or.inl ⟨by rfl, fun _ hw => by rfl⟩) (by assumption) ?_
          simp only [Act.put, List.setIfInBounds_toArray, List.set_cons_zero, List.set_cons_succ]
          refine anyH_take (i := 4) (v := .slice (some ⟨blk, off, none⟩) n c) (some 96) rfl rfl (by kernel_rfl) (by kernel_rfl) (by kernel_rfl) (fun _ _ _ h => h) (Or.inl ⟨by rfl, fun _ hw => by rfl⟩) (by assumption) ?_
          simp only [Act.put, List.setIfInBounds_toArray, List.set_cons_zero, List.set_cons_succ]
          refine anyH_take (i := 5) (v := .int .i64 (k : Nat)) (some 97) rfl rfl (by kernel_rfl) (by kernel_rfl) (by kernel_rfl) (fun _ _ _ h => h) (Or.inl ⟨by rfl, fun _ hw => by rfl⟩) (by assumption) ?_
          simp only [Act.put, List.setIfInBounds_toArray, List.set_cons_zero, List.set_cons_succ]
          refine anyH_take (i := 6) (v := .pointer (some ⟨blk, off + k, none⟩)) (some 98) rfl rfl (by kernel_rfl) (by kernel_rfl) (by kernel_rfl) (fun _ _ _ h => h) (Or.inl ⟨by rfl, fun _ hw => by go_simp⟩) (by assumption) ?_
          simp only [Act.put, List.setIfInBounds_toArray, List.set_cons_zero, List.set_cons_succ]
          refine anyH_take (i := 7) (v := .slice A0 l0 c0) (some 99) rfl rfl (by kernel_rfl) (by kernel_rfl) (by kernel_rfl) (fun _ _ _ h => h) (Or.inl ⟨by rfl, fun _ hw => by (have hw2 := hw.2; go_simp)⟩) (by assumption) ?_
          simp only [Act.put, List.setIfInBounds_toArray, List.set_cons_zero, List.set_cons_succ]
          refine anyH_take (i := 8) (v := .slice (some ⟨gq, 0, none⟩) m1 cq) (some 100) rfl rfl (by kernel_rfl) (by kernel_rfl) (by kernel_rfl) (fun _ _ _ h => h) (Or.inl ⟨by rfl, fun _ hw => by rfl⟩) (by assumption) ?_
          simp only [Act.put, List.setIfInBounds_toArray, List.set_cons_zero, List.set_cons_succ]
          refine wpAnyH_ready (rs := [9]) (by kernel_rfl) (by simp) ?_
          refine AllReadyH.cons rfl (fun KC hKC => ?_) AllReadyH.nil
          go_simp
          go_at_call 16
          refine Calls.mono (verify_at (n : Int) (k : Int) (by omega) _ RL r0 qf A0 l0 c0 (some ⟨gq, 0, none⟩) m1 cq false _ (hV8.up hB80) HBv.out) ?_
          rintro e w61 ⟨rfl, hb61⟩
          have hB61 := hB80.trans (hb61.mono hB80.size)
          go_wp2_with fail
          refine hKC.out _ _ (keep8 hB61) (fun hHeld61 => ?_)
          clear hKC KC
          try simp only [Act.put, List.setIfInBounds_toArray, List.set_cons_zero, List.set_cons_succ]
          refine anyH_take (i := 10) (v := .bool true) (some 102) rfl rfl (by kernel_rfl) (by kernel_rfl) (by kernel_rfl) (fun _ _ _ h => h) (Or.inl ⟨by rfl, fun _ hw => by go_simp⟩) (by assumption) ?_
          simp only [Act.put, List.setIfInBounds_toArray, List.set_cons_zero, List.set_cons_succ]
          refine anyH_take (i := 11) (v := .bool true) (some 103) rfl rfl (by kernel_rfl) (by kernel_rfl) (by kernel_rfl) (fun _ _ _ h => h) (Or.inl ⟨by rfl, fun _ hw => by rfl⟩) (by assumption) ?_
          simp only [Act.put, List.setIfInBounds_toArray, List.set_cons_zero, List.set_cons_succ]
          refine anyH_take (i := 12) (v := undef) (some 104) rfl rfl (by kernel_rfl) (by kernel_rfl) (by kernel_rfl) (fun _ _ _ h => h) (Or.inr ⟨by rfl, rfl⟩) (by assumption) ?_
          simp only [Act.put, List.setIfInBounds_toArray, List.set_cons_zero, List.set_cons_succ]
          refine anyH_take (i := 13) (v := undef) (some 105) rfl rfl (by kernel_rfl) (by kernel_rfl) (by kernel_rfl) (fun _ _ _ h => h) (Or.inr ⟨by rfl, rfl⟩) (by assumption) ?_
          simp only [Act.put, List.setIfInBounds_toArray, List.set_cons_zero, List.set_cons_succ]
          refine anyH_take (i := 14) (v := undef) (some 106) rfl rfl (by kernel_rfl) (by kernel_rfl) (by kernel_rfl) (fun _ _ _ h => h) (Or.inr ⟨by rfl, rfl⟩) (by assumption) ?_
          simp only [Act.put, List.setIfInBounds_toArray, List.set_cons_zero, List.set_cons_succ]
          refine anyH_take (i := 15) (v := undef) (some 107) rfl rfl (by kernel_rfl) (by kernel_rfl) (by kernel_rfl) (fun _ _ _ h => h) (Or.inr ⟨by rfl, rfl⟩) (by assumption) ?_
          simp only [Act.put, List.setIfInBounds_toArray, List.set_cons_zero, List.set_cons_succ]
          refine anyH_take (i := 16) (v := undef) (some 108) rfl rfl (by kernel_rfl) (by kernel_rfl) (by kernel_rfl) (fun _ _ _ h => h) (Or.inr ⟨by rfl, rfl⟩) (by assumption) ?_
          simp only [Act.put, List.setIfInBounds_toArray, List.set_cons_zero, List.set_cons_succ]
          refine anyH_take (i := 17) (v := undef) (some 109) rfl rfl (by kernel_rfl) (by kernel_rfl) (by kernel_rfl) (fun _ _ _ h => h) (Or.inr ⟨by rfl, rfl⟩) (by assumption) ?_
          simp only [Act.put, List.setIfInBounds_toArray, List.set_cons_zero, List.set_cons_succ]
          refine anyH_take (i := 18) (v := undef) (some 110) rfl rfl (by kernel_rfl) (by kernel_rfl) (by kernel_rfl) (fun _ _ _ h => h) (Or.inr ⟨by rfl, rfl⟩) (by assumption) ?_
          simp only [Act.put, List.setIfInBounds_toArray, List.set_cons_zero, List.set_cons_succ]
          refine anyH_take (i := 19) (v := undef) (some 111) rfl rfl (by kernel_rfl) (by kernel_rfl) (by kernel_rfl) (fun _ _ _ h => h) (Or.inr ⟨by rfl, rfl⟩) (by assumption) ?_
          simp only [Act.put, List.setIfInBounds_toArray, List.set_cons_zero, List.set_cons_succ]
          refine anyH_take (i := 20) (v := .bool true) (some 112) rfl rfl (by kernel_rfl) (by kernel_rfl) (by kernel_rfl) (fun _ _ _ h => h) (Or.inl ⟨by rfl, fun _ hw => by go_simp⟩) (by assumption) ?_
          simp only [Act.put, List.setIfInBounds_toArray, List.set_cons_zero, List.set_cons_succ]
          refine anyH_take (i := 21) (v := .bool true) (some 8) rfl rfl (by kernel_rfl) (by kernel_rfl) (by kernel_rfl) (fun _ _ _ h => h) (Or.inl ⟨by rfl, fun _ hw => by rfl⟩) (by assumption) ?_
          simp only [Act.put, List.setIfInBounds_toArray, List.set_cons_zero, List.set_cons_succ]
          refine wpAnyH_done (by kernel_rfl) ?_ _
          clear hHeld
          have hBz := hB8.trans (hB61.mono hB8.size)
          go_wp2_with fail
          go_ret
          exact ⟨rfl, hBz⟩
        · have hled := Lib.hid (Hled.out qf HBv.out)
          refine wp_region_held_drew (S := fun w' => w'.rangeAt g 0 RL ∧ w'.cell? ⟨blk, off + k, none⟩ = some (.slice A0 l0 c0)) (by kernel_rfl) (keep8 hB80) (fun hHeld => ?_)
          refine anyH_take (i := 0) (some 92) rfl rfl (by kernel_rfl) (by kernel_rfl) (by kernel_rfl) (fun _ _ _ h => h) (yieldsIf_load_mid (by rfl) 26 (.tmp 10) rfl g 0 rfl RL _ (fun _ h => h.1) Try.underlying26 rfl HRLi.out) (by assumption) ?_
          simp only [Act.put, List.setIfInBounds_toArray, List.set_cons_zero, List.set_cons_succ]
          refine anyH_take (i := 1) (v := .slice (some ⟨blk, off, none⟩) n c) (some 93) rfl rfl (by kernel_rfl) (by kernel_rfl) (by kernel_rfl) (fun _ _ _ h => h) (Or.inl ⟨by rfl, fun _ hw => by rfl⟩) (by assumption) ?_
          simp only [Act.put, List.setIfInBounds_toArray, List.set_cons_zero, List.set_cons_succ]
          refine anyH_take (i := 2) (v := .int .i64 (n : Nat)) (some 94) rfl rfl (by kernel_rfl) (by kernel_rfl) (by kernel_rfl) (fun _ _ _ h => h) (Or.inl ⟨by rfl, fun _ hw => by go_simp⟩) (by assumption) ?_
          simp only [Act.put, List.setIfInBounds_toArray, List.set_cons_zero, List.set_cons_succ]
          refine anyH_take (i := 3) (v := .int .i64 (k : Nat)) (some 95) rfl rfl (by kernel_rfl) (by kernel_rfl) (by kernel_rfl) (fun _ _ _ h => h) (Or.inl ⟨by rfl, fun _ hw => by rfl⟩) (by assumption) ?_
          simp only [Act.put, List.setIfInBounds_toArray, List.set_cons_zero, List.set_cons_succ]
          refine anyH_take (i := 4) (v := .slice (some ⟨blk, off, none⟩) n c) (some 96) rfl rfl (by kernel_rfl) (by kernel_rfl) (by kernel_rfl) (fun _ _ _ h => h) (Or.inl ⟨by rfl, fun _ hw => by rfl⟩) (by assumption) ?_
          simp only [Act.put, List.setIfInBounds_toArray, List.set_cons_zero, List.set_cons_succ]
          refine anyH_take (i := 5) (v := .int .i64 (k : Nat)) (some 97) rfl rfl (by kernel_rfl) (by kernel_rfl) (by kernel_rfl) (fun _ _ _ h => h) (Or.inl ⟨by rfl, fun _ hw => by rfl⟩) (by assumption) ?_
          simp only [Act.put, List.setIfInBounds_toArray, List.set_cons_zero, List.set_cons_succ]
          refine anyH_take (i := 6) (v := .pointer (some ⟨blk, off + k, none⟩)) (some 98) rfl rfl (by kernel_rfl) (by kernel_rfl) (by kernel_rfl) (fun _ _ _ h => h) (Or.inl ⟨by rfl, fun _ hw => by go_simp⟩) (by assumption) ?_
          simp only [Act.put, List.setIfInBounds_toArray, List.set_cons_zero, List.set_cons_succ]
          refine anyH_take (i := 7) (v := .slice A0 l0 c0) (some 99) rfl rfl (by kernel_rfl) (by kernel_rfl) (by kernel_rfl) (fun _ _ _ h => h) (Or.inl ⟨by rfl, fun _ hw => by (have hw2 := hw.2; go_simp)⟩) (by assumption) ?_
          simp only [Act.put, List.setIfInBounds_toArray, List.set_cons_zero, List.set_cons_succ]
          refine anyH_take (i := 8) (v := .slice (some ⟨gq, 0, none⟩) m1 cq) (some 100) rfl rfl (by kernel_rfl) (by kernel_rfl) (by kernel_rfl) (fun _ _ _ h => h) (Or.inl ⟨by rfl, fun _ hw => by rfl⟩) (by assumption) ?_
          simp only [Act.put, List.setIfInBounds_toArray, List.set_cons_zero, List.set_cons_succ]
          refine wpAnyH_ready (rs := [9]) (by kernel_rfl) (by simp) ?_
          refine AllReadyH.cons rfl (fun KC hKC => ?_) AllReadyH.nil
          go_simp
          go_at_call 16
          refine Calls.mono (verify_at (n : Int) (k : Int) (by omega) _ RL r0 qf A0 l0 c0 (some ⟨gq, 0, none⟩) m1 cq true _ (hV8.up hB80) HBv.out) ?_
          rintro e w61 ⟨rfl, hb61⟩
          have hB61 := hB80.trans (hb61.mono hB80.size)
          go_wp2_with fail
          refine hKC.out _ _ (keep8 hB61) (fun hHeld61 => ?_)
          clear hKC KC
          try simp only [Act.put, List.setIfInBounds_toArray, List.set_cons_zero, List.set_cons_succ]
          refine anyH_take (i := 10) (v := .bool false) (some 102) rfl rfl (by kernel_rfl) (by kernel_rfl) (by kernel_rfl) (fun _ _ _ h => h) (Or.inl ⟨by rfl, fun _ hw => by go_simp⟩) (by assumption) ?_
          simp only [Act.put, List.setIfInBounds_toArray, List.set_cons_zero, List.set_cons_succ]
          refine anyH_take (i := 11) (v := .bool false) (some 103) rfl rfl (by kernel_rfl) (by kernel_rfl) (by kernel_rfl) (fun _ _ _ h => h) (Or.inl ⟨by rfl, fun _ hw => by rfl⟩) (by assumption) ?_
          simp only [Act.put, List.setIfInBounds_toArray, List.set_cons_zero, List.set_cons_succ]
          refine anyH_take (i := 12) (v := .slice (some ⟨blk, off, none⟩) n c) (some 104) rfl rfl (by kernel_rfl) (by kernel_rfl) (by kernel_rfl) (fun _ _ _ h => h) (Or.inl ⟨by rfl, fun _ hw => by rfl⟩) (by assumption) ?_
          simp only [Act.put, List.setIfInBounds_toArray, List.set_cons_zero, List.set_cons_succ]
          refine anyH_take (i := 13) (v := .int .i64 (k : Nat)) (some 105) rfl rfl (by kernel_rfl) (by kernel_rfl) (by kernel_rfl) (fun _ _ _ h => h) (Or.inl ⟨by rfl, fun _ hw => by rfl⟩) (by assumption) ?_
          simp only [Act.put, List.setIfInBounds_toArray, List.set_cons_zero, List.set_cons_succ]
          refine anyH_take (i := 14) (v := .slice (some ⟨blk, off, none⟩) n c) (some 106) rfl rfl (by kernel_rfl) (by kernel_rfl) (by kernel_rfl) (fun _ _ _ h => h) (Or.inl ⟨by rfl, fun _ hw => by rfl⟩) (by assumption) ?_
          simp only [Act.put, List.setIfInBounds_toArray, List.set_cons_zero, List.set_cons_succ]
          refine anyH_take (i := 15) (v := .int .i64 (k : Nat)) (some 107) rfl rfl (by kernel_rfl) (by kernel_rfl) (by kernel_rfl) (fun _ _ _ h => h) (Or.inl ⟨by rfl, fun _ hw => by rfl⟩) (by assumption) ?_
          simp only [Act.put, List.setIfInBounds_toArray, List.set_cons_zero, List.set_cons_succ]
          refine anyH_take (i := 16) (v := .pointer (some ⟨blk, off + k, none⟩)) (some 108) rfl rfl (by kernel_rfl) (by kernel_rfl) (by kernel_rfl) (fun _ _ _ h => h) (Or.inl ⟨by rfl, fun _ hw => by go_simp⟩) (by assumption) ?_
          simp only [Act.put, List.setIfInBounds_toArray, List.set_cons_zero, List.set_cons_succ]
          refine anyH_take (i := 17) (v := .slice A0 l0 c0) (some 109) rfl rfl (by kernel_rfl) (by kernel_rfl) (by kernel_rfl) (fun _ _ _ h => h) (Or.inl ⟨by rfl, fun _ hw => by (have hw2 := hw.2; go_simp)⟩) (by assumption) ?_
          simp only [Act.put, List.setIfInBounds_toArray, List.set_cons_zero, List.set_cons_succ]
          refine anyH_take (i := 18) (v := .slice (some ⟨gq, 0, none⟩) m1 cq) (some 110) rfl rfl (by kernel_rfl) (by kernel_rfl) (by kernel_rfl) (fun _ _ _ h => h) (Or.inl ⟨by rfl, fun _ hw => by rfl⟩) (by assumption) ?_
          simp only [Act.put, List.setIfInBounds_toArray, List.set_cons_zero, List.set_cons_succ]
          refine wpAnyH_ready (rs := [19]) (by kernel_rfl) (by simp) ?_
          refine AllReadyH.cons rfl (fun KC hKC => ?_) AllReadyH.nil
          go_simp
          go_at_call 22
          refine Calls.mono (clash_all n hn6 (by omega) rs _ c k r0 qf A0 l0 c0 (some ⟨gq, 0, none⟩) m1 cq _ Hn.out han hc hcm Hr300.out ((hrs.below (hB8.trans (hB61.mono hB8.size)) (Nat.le_refl _)).more (hB8.trans (hB61.mono hB8.size)).size) Hl0.out hl300 hlc0 hcm0 ((hb0.below (hB8.trans (hB61.mono hB8.size)) (Nat.le_refl _)).more (hB8.trans (hB61.mono hB8.size)).size) Hqf.out hmq (by omega) (hV8.hdg.below hB61) (.inr (by rw [HPf.out]; exact Hne.out)) hled.out) ?_
          rintro e w62 ⟨rfl, hb62⟩
          have hB62 := hB61.trans (hb62.mono hB61.size)
          go_wp2_with fail
          refine hKC.out _ _ (keep8 hB62) (fun hHeld62 => ?_)
          clear hKC KC
          try simp only [Act.put, List.setIfInBounds_toArray, List.set_cons_zero, List.set_cons_succ]
          refine anyH_take (i := 20) (v := .bool true) (some 112) rfl rfl (by kernel_rfl) (by kernel_rfl) (by kernel_rfl) (fun _ _ _ h => h) (Or.inl ⟨by rfl, fun _ hw => by go_simp⟩) (by assumption) ?_
          simp only [Act.put, List.setIfInBounds_toArray, List.set_cons_zero, List.set_cons_succ]
          refine anyH_take (i := 21) (v := .bool true) (some 8) rfl rfl (by kernel_rfl) (by kernel_rfl) (by kernel_rfl) (fun _ _ _ h => h) (Or.inl ⟨by rfl, fun _ hw => by rfl⟩) (by assumption) ?_
          simp only [Act.put, List.setIfInBounds_toArray, List.set_cons_zero, List.set_cons_succ]
          refine wpAnyH_done (by kernel_rfl) ?_ _
          clear hHeld
          have hBz := hB8.trans (hB62.mono hB8.size)
          go_wp2_with fail
          go_ret
          exact ⟨rfl, hBz⟩

theorem merkleTurned_walk (A : Option Addr) (n c : Nat) (rs : List (List UInt8)) (hn : rs.length = n) (hc : n ≤ c) (hcm : c ≤ maxLen) (a : Int) (ha1 : -9223372036854775808 ≤ a) (ha2 : a ≤ 9223372036854775807) (wh : Int) (hw1 : -9223372036854775808 ≤ wh) (hw2 : wh ≤ 9223372036854775807) (tu : Nat) (ht : tu < 256) (w : World) (hrs : RowsAt w w.heap.size A rs) :
    Calls Try.prog 8 #[.slice A n c, .int .i64 a, .int .i64 wh, .int .u8 (tu : Nat)] w fun e w' => e = .returned (.bool true) ∧ Below w.heap.size w w' := by
  unfold maxLen at hcm
  by_cases h : greatF rs = true ∨ n = 0 ∨ tu = 0
  · exact mturn_idle rs A n c a wh tu w hn hc (by omega) hrs h
  · exact mturn_in rs A n c a wh hw1 hw2 tu (UInt8.ofNat tu) (by rw [UInt8.toNat_ofNat_of_lt' (by simpa using ht)]) w hn hc (by omega) hrs (by cases hG : greatF rs <;> simp_all) (by omega) (by omega)


end Go.Proofs.Ytkpgbgiamekhaab

/-
  The walk of BlobFound.
-/
import Derived.Test.YtongmiebojilfaaBlobReadsWalk
import Derived.Test.YtongmiebojilfaaDiskSet
namespace Go.Proofs.Ytongmiebojilfaa
open Go.RowKit
set_option linter.unusedVariables false
set_option linter.unusedSimpArgs false

/-- Set on a disk without writes. -/
theorem set_fresh (F : Nat → Prop) (k n : Nat) (S L : List (List UInt8)) (fu : Bool) (left : Int) (a : Nat) (s : List UInt8) (SL : List Value) (w : World) (h : Disk w F k n S L [] fu left) (ha : a < n) (hs64 : s.length = 64) (hSL : SL = Lib.byteCells s) :
    Calls Try.prog 28 #[.pointer (some ⟨k, 0, none⟩), .int .i64 (a : Nat), .agg SL.toArray] w fun e w' => e = .returned (.int .i64 0) ∧ Disk w' F k n (S.set a s) (L.set a s) [] fu left ∧ Only F w w' := by
  obtain ⟨gs, gl, bm, vw, base, nm, D, hD, hK, hnm, hgone⟩ := h
  refine Calls.mono (set_any F k gs gl bm vw base nm n S L [] D fu left a s SL w hD hK.2.2 ha hs64 hSL) ?_
  rintro e w' ⟨rfl, hs, hl, hO, es, clock, es', he, he', hle⟩
  have hes0 : es.size = 0 := by
    obtain ⟨es1, clock1, h1, _, h2, _⟩ := hD.hm
    rw [he] at h1
    injection h1 with h1
    injection h1 with h1 _
    subst h1
    have : nm ≤ 0 := hnm
    omega
  have e1 : es = #[] := Array.eq_empty_of_size_eq_zero hes0
  have e2 : es' = #[] := Array.eq_empty_of_size_eq_zero (by omega)
  subst e1 e2
  have hoth : ∀ b, F b → b ≠ k → b ≠ gs → b ≠ gl → w'.heap[b]? = w.heap[b]? := fun b hF _ h2 h3 => by
    by_cases hb : b = bm
    · rw [hb, he', he]
    · exact hO.block b (hD.Flt b hF) (fun h => h.elim h2 (fun h => h.elim h3 (fun h => h.elim hb (fun h => absurd h.2 (by simp)))))
  have hk : Arr w' k 67 [.slice (some ⟨gs, 0, none⟩) n n, .slice (some ⟨gl, 0, none⟩) n n, vw, .map (some bm), .bool fu, .int .i64 left] := hD.hk.only hO (fun h => h.elim hD.ks (fun h => h.elim hD.kl (fun h => h.elim hD.km (fun h => absurd h.2 (by simp)))))
  refine ⟨rfl, ⟨gs, gl, bm, vw, base, nm, D, hD.turn hO.size hoth hk hs hl (by rw [List.length_set]; exact hD.lS) (by rw [List.length_set]; exact hD.lL) (fun x hx => (List.mem_or_eq_of_mem_set hx).elim (hD.s64 x) (fun e => e ▸ hs64)) (fun x hx => (List.mem_or_eq_of_mem_set hx).elim (hD.l64 x) (fun e => e ▸ hs64)) hD.f0 hD.f1, hK, hnm, hgone⟩, ?_⟩
  exact hO.more (fun b _ h => h.elim (fun e => e ▸ hD.Fs) (fun h => h.elim (fun e => e ▸ hD.Fl) (fun h => h.elim (fun e => e ▸ hD.Fm) (fun h => absurd h.2 (by simp)))))

set_option maxHeartbeats 8000000 in
set_option maxRecDepth 100000 in
theorem bfound_great (a : Int) (B : Option Addr) (nB cB : Nat) (A : Option Addr) (m c : Nat) (w : World) (h : a < 0 ∨ 1000 < nB ∨ m < 1 ∨ 60 < m) :
    Calls Try.prog 6 #[.int .i64 a, .slice B nB cB, .slice A m c] w fun e w' => e = .returned (.bool true) ∧ Below w.heap.size w w' := by
  have hd : decide (a < (0 : Int)) = true ∨ (decide (a < (0 : Int)) = false ∧ decide ((1000 : Int) < (nB : Int)) = true) ∨ (decide (a < (0 : Int)) = false ∧ decide ((1000 : Int) < (nB : Int)) = false ∧ decide ((m : Int) < (1 : Int)) = true) ∨ (decide (a < (0 : Int)) = false ∧ decide ((1000 : Int) < (nB : Int)) = false ∧ decide ((m : Int) < (1 : Int)) = false ∧ decide ((60 : Int) < (m : Int)) = true) := by
    simp only [decide_eq_true_eq, decide_eq_false_iff_not]
    omega
  clear h
  rcases hd with h1 | ⟨h1, h2⟩ | ⟨h1, h2, h3⟩ | ⟨h1, h2, h3, h4⟩
  all_goals
    go_enter Try.func6, Try.ntmps6
    go_wp2_with fail
    refine Calls.mono (bspeaks_true w) ?_
    rintro e w1 ⟨rfl, hB1⟩
    go_wp2_with fail
    go_ret
    exact ⟨rfl, hB1⟩

set_option maxHeartbeats 16000000 in
set_option maxRecDepth 100000 in
theorem bfound_in (a : Nat) (B : Option Addr) (n cB : Nat) (bs : List UInt8) (hbl : bs.length = n) (hnB : n ≤ cB) (hcB : cB ≤ maxLen) (A : Option Addr) (m c : Nat) (S : List (List UInt8)) (hSl : S.length = m) (hnc : m ≤ c) (hcm : c ≤ maxLen) (ha1 : a ≤ 9223372036854775807) (w : World) (hA : Bs w w.heap.size B bs) (hSA : SecsAt w A S) (hn1 : n ≤ 1000) (h1 : 1 ≤ m) (h60 : m ≤ 60) :
    Calls Try.prog 6 #[.int .i64 (a : Nat), .slice B n cB, .slice A m c] w fun e w' => e = .returned (.bool true) ∧ Below w.heap.size w w' := by
  have h64S := hSA.s64
  have hd1 : decide ((a : Int) < (0 : Int)) = false := by simp
  have hd2 : decide ((1000 : Int) < (n : Int)) = false := by simp; omega
  have hd3 : decide ((m : Int) < (1 : Int)) = false := by simp; omega
  have hd4 : decide ((60 : Int) < (m : Int)) = false := by simp; omega
  have Hbl := Lib.hid hbl
  clear hbl
  go_enter Try.func6, Try.ntmps6
  go_wp2_with fail
  refine Calls.mono (bspeaks_true w) ?_
  rintro e w1 ⟨rfl, hB1⟩
  go_wp2_with fail
  go_at_call 9
  refine Calls.mono (show Calls Try.prog 9 #[.int .i64 (m : Nat)] w1 (NewPost m w1) from new_yes m w1 h1 (by omega)) ?_
  rintro e w2 ⟨k, rfl, hD2, hb2⟩
  have hB2 : Below w.heap.size w w2 := hB1.trans (hb2.mono hB1.size)
  have hF2 : ∀ b, newF (fun _ => False) w1 w2 b → w.heap.size ≤ b := fun b h => h.elim (fun h => h.elim) (fun h => Nat.le_trans hB1.size h.1)
  rw [← firstS_zero S m] at hD2
  obtain ⟨F, hF⟩ : ∃ F, F = newF (fun _ => False) w1 w2 := ⟨_, rfl⟩
  rw [← hF] at hD2 hF2
  have hD2' : ∃ Z, Disk w2 F k m (firstS S m 0) Z [] false 0 := ⟨_, hD2⟩
  clear hb2 hB1 hD2 hd1 hd2 hd3 hd4 hF
  go_wp2_with fail
  go_loopw [47] (fun x wr => ∃ (j : Nat) (Z : List (List UInt8)), x = .int .i64 j ∧ j ≤ m ∧ Disk wr F k m (firstS S m j) Z [] false 0 ∧ Below w.heap.size w wr) (fun x _ => m - (intOf x).toNat)
  case atStart => obtain ⟨Z, hZ⟩ := hD2'; exact ⟨0, Z, rfl, Nat.zero_le _, hZ, hB2⟩
  case round =>
    clear hD2' hB2
    obtain ⟨j, Z, rfl, hjn, hDq, hBq⟩ := hrel
    obtain ⟨wq, hwq⟩ : ∃ x, x = wr := ⟨_, rfl⟩
    subst hwq
    have hBs := hBq.size
    by_cases hlt : j < m
    · obtain ⟨b, off, rfl, hbB, hrow⟩ := (hSA.below hBq) (by omega)
      obtain ⟨h64, hrng⟩ := hrow j (by omega)
      have hstep := firstS_step hSl hlt
      obtain ⟨X, hX⟩ : ∃ X, S.getD j [] = X := ⟨_, rfl⟩
      rw [hX] at h64 hrng hstep
      obtain ⟨XL, hXL⟩ : ∃ l, l = Lib.byteCells X := ⟨_, rfl⟩
      have hXl : XL.length = 64 := by rw [hXL, Lib.byteCells_length]; exact h64
      have HXi := Lib.hid (show (Try.prog.info? 30).map (·.size) = some XL.toArray.size by rw [List.size_toArray, hXl]; exact secInfo)
      have HXz := Lib.hid (show (Try.prog.info? 30).map (·.size) = some XL.length by rw [hXl]; exact secInfo)
      have HX1 := Lib.hid (show XL.toArray.all (·.oneCell') = true by rw [hXL]; exact sec_one _)
      have HXs := Lib.hid (show (Lib.byteCells zero64).toArray.size = XL.toArray.size by rw [List.size_toArray, List.size_toArray, hXl]; rfl)
      have hwr : wq.rangeAt b (off + j * 64) XL := fun i v hv => hrng i v (by rw [← hXL]; exact hv)
      have hjI : (j : Int) < (m : Int) := by omega
      have hd1 : decide (j < m) = true := by simp; omega
      have HXL := Lib.hid hXL
      have Hst := Lib.hid hstep
      clear hX hXL hXl hrow hrng hstep
      go_wp2_with (first
        | (refine wpList_load_mid rfl _ _ rfl b (off + j * 64) rfl XL _ hwr Try.underlying30 rfl HXz.out ?_)
        | (change wpList _ _ _ _ _ (wq.alloc (.cells (Lib.byteCells zero64).toArray 30)); refine wpList_store_row rfl _ _ _ rfl wq.heap.size XL.toArray rfl rfl 30 (Lib.byteCells zero64).toArray (heap_alloc_new wq _) HXi.out HXs.out HX1.out ?_; obtain ⟨w4, hw4⟩ : ∃ x, x = (wq.alloc (.cells (Lib.byteCells zero64).toArray 30)).setRow wq.heap.size XL.toArray := ⟨_, rfl⟩; rw [← hw4]; obtain ⟨hX4, hb4⟩ := alloc_rowD wq 30 (Lib.byteCells zero64).toArray XL; rw [← hw4] at hX4 hb4; clear hw4)
        | (refine wpList_load_row rfl _ _ rfl wq.heap.size rfl 30 XL.toArray (0, 0) _ hX4 Try.underlying30 rfl HXi.out ?_))
      have hD4 := hDq.below hb4
      have hB4 := hBq.trans (hb4.mono hBs)
      clear hwr hX4 hDq hBq
      refine Calls.mono (set_fresh F k m (firstS S m j) Z false 0 j X XL w4 hD4 hlt h64 HXL.out) ?_
      rintro e w5 ⟨rfl, hD5, hO5⟩
      rw [Hst.out] at hD5
      have hB5 : Below w.heap.size w w5 := hB4.trans (hO5.below hB4.size hF2)
      clear hD4 hB4 hO5 hb4
      go_wp2_with fail
      go_roundw
      case rel => exact ⟨j + 1, _, by go_num, by omega, hD5, hB5⟩
      case measure => simp [intOf]; omega
    · obtain rfl : j = m := by omega
      rw [firstS_all hSl] at hDq
      have hd1 : decide (j < j) = false := by simp
      obtain ⟨DL, hDL⟩ : ∃ x, x = refC (blobDig bs) (a : Nat) (n : Nat) := ⟨_, rfl⟩
      have hDl : DL.length = 34 := by rw [hDL]; exact refC_length (blobDig_length _) _ _
      have HD1 := Lib.hid (show DL.toArray.all (·.oneCell') = true by rw [hDL]; exact all_oneCell_toArray (refC_cell _ _ _))
      have HDi := Lib.hid (show (Try.prog.info? 36).map (·.size) = some DL.toArray.size by rw [List.size_toArray, hDl]; exact refSize)
      have HDn := Lib.hid (show (Try.prog.info? 36).map (·.size) = some DL.length by rw [hDl]; exact refSize)
      have HDs := Lib.hid (show refZ.toArray.size = DL.toArray.size by rw [List.size_toArray, List.size_toArray, hDl]; rfl)
      have HDL := Lib.hid hDL
      have hbsq : Bs wq wq.heap.size B bs := (hA.below hBq (Nat.le_refl _)).more hBs
      clear hDL
      go_wp2_with fail
      refine Calls.mono (rof_any (a : Nat) bs DL B n cB wq Hbl.out (by omega) hnB hcB hbsq (by omega) (by omega) HDL.out) ?_
      rintro e w5 ⟨rfl, hb5⟩
      have hD5 := hDq.below hb5
      have hB5 := hBq.trans (hb5.mono hBs)
      have hBs5 := hB5.size
      clear hDq hBq hbsq hb5
      go_wp2_with (first
        | (change wpList _ _ _ _ _ (w5.alloc (.cells refZ.toArray 36)); refine wpList_store_row rfl _ _ _ rfl w5.heap.size DL.toArray rfl rfl 36 refZ.toArray (heap_alloc_new w5 _) HDi.out HDs.out HD1.out ?_; obtain ⟨w6, hw6⟩ : ∃ x, x = (w5.alloc (.cells refZ.toArray 36)).setRow w5.heap.size DL.toArray := ⟨_, rfl⟩; rw [← hw6]; obtain ⟨hP6, hb6⟩ := alloc_rowD w5 36 refZ.toArray DL; rw [← hw6] at hP6 hb6; clear hw6)
        | (refine wpList_load_row rfl _ _ rfl w5.heap.size rfl 36 DL.toArray (0, 0) _ hP6 Try.underlying36 rfl HDi.out ?_))
      have hD6 := hD5.below hb6
      have hB6 := hB5.trans (hb6.mono hBs5)
      have hBs6 := hB6.size
      obtain ⟨gr, hgr⟩ : ∃ g, g = w5.heap.size := ⟨_, rfl⟩
      rw [← hgr] at hP6 ⊢
      clear hgr hD5 hB5 hb6 hBs5
      by_cases hin : a + secsF n ≤ j
      · obtain ⟨s, hs⟩ : ∃ s, secsF n = s := ⟨_, rfl⟩
        have Hs := Lib.hid hs
        by_cases hok : blobDig (gotF S a n (secsF n)) = blobDig bs
        · refine Calls.mono (bread_got F k j a S Z [] (blobDig bs) DL n w6 hD6 true (blobDig_length _) (by omega) hin HDL.out (by simpa using hok)) ?_
          rintro e w9 ⟨h9, _, hb9⟩
          obtain ⟨g9, rfl, hA9, hg9⟩ := h9 (by first | rfl | trivial)
          have hgl : (gotF S a n s).length = n := by rw [← hs]; exact gotF_length S a n h64S _ (Nat.le_refl _)
          rw [hs] at hA9 hok
          have hP9 := hP6.upD hb9
          have hB9 := hB6.trans (hb9.mono hBs6)
          have hBs9 := hB9.size
          have hP9d : Arr w9.drew gr 36 DL := hP9.drewN 1
          have hB9d : Below w.heap.size w w9.drew := Below.dN hB9 1
          have hbs9d : Bs w9.drew w9.drew.heap.size (some ⟨g9, 0, none⟩) (gotF S a n s) := (Arr.bsB hA9).drewN 1
          have HDL2 := Lib.hid (show DL = refC (blobDig (gotF S a n s)) (a : Nat) (n : Nat) by rw [hok]; exact HDL.out)
          have hgtR := gtR
          have hcmpD : ∀ w, (Op.equalIn 10000 36 (.agg DL.toArray) (.agg DL.toArray)).run Try.prog w = .ok true w := fun w => by
            rw [ref_eqv (blobDig bs) (blobDig bs) (blobDig_length _) (blobDig_length _) a n a n DL DL HDL.out HDL.out w]
            simp
          clear hs hok hD6 hB6 hP6 h9 hg9 hA9 hb9 hBs6
          go_wp2_with fail
          refine wp_region_held_drew (S := fun w' => w'.rangeAt gr 0 DL) (by kernel_rfl) hP9d.rangeD (fun hHeld => ?_)
          refine anyH_take (i := 0) (v := .int .i64 0) (some 66) rfl rfl (by kernel_rfl) (by kernel_rfl) (by kernel_rfl) (fun _ _ _ h => h) (Or.inl ⟨by rfl, fun _ _ => by rfl⟩) (by assumption) ?_
          simp only [Act.put, List.setIfInBounds_toArray, List.set_cons_zero, List.set_cons_succ]
          refine anyH_take (i := 1) (v := .bool false) (some 67) rfl rfl (by kernel_rfl) (by kernel_rfl) (by kernel_rfl) (fun _ _ _ h => h) (Or.inl ⟨by rfl, fun _ _ => by go_simp⟩) (by assumption) ?_
          simp only [Act.put, List.setIfInBounds_toArray, List.set_cons_zero, List.set_cons_succ]
          refine anyH_take (i := 2) (v := .bool false) (some 68) rfl rfl (by kernel_rfl) (by kernel_rfl) (by kernel_rfl) (fun _ _ _ h => h) (Or.inl ⟨by rfl, fun _ _ => by rfl⟩) (by assumption) ?_
          simp only [Act.put, List.setIfInBounds_toArray, List.set_cons_zero, List.set_cons_succ]
          refine anyH_take (i := 3) (v := undef) (some 69) rfl rfl (by kernel_rfl) (by kernel_rfl) (by kernel_rfl) (fun _ _ _ h => h) (Or.inr ⟨by rfl, rfl⟩) (by assumption) ?_
          simp only [Act.put, List.setIfInBounds_toArray, List.set_cons_zero, List.set_cons_succ]
          refine anyH_take (i := 4) (v := undef) (some 70) rfl rfl (by kernel_rfl) (by kernel_rfl) (by kernel_rfl) (fun _ _ _ h => h) (Or.inr ⟨by rfl, rfl⟩) (by assumption) ?_
          simp only [Act.put, List.setIfInBounds_toArray, List.set_cons_zero, List.set_cons_succ]
          refine anyH_take (i := 5) (v := undef) (some 71) rfl rfl (by kernel_rfl) (by kernel_rfl) (by kernel_rfl) (fun _ _ _ h => h) (Or.inr ⟨by rfl, rfl⟩) (by assumption) ?_
          simp only [Act.put, List.setIfInBounds_toArray, List.set_cons_zero, List.set_cons_succ]
          refine anyH_take (i := 6) (v := .bool false) (some 72) rfl rfl (by kernel_rfl) (by kernel_rfl) (by kernel_rfl) (fun _ _ _ h => h) (Or.inl ⟨by rfl, fun _ _ => by rfl⟩) (by assumption) ?_
          simp only [Act.put, List.setIfInBounds_toArray, List.set_cons_zero, List.set_cons_succ]
          refine anyH_take (i := 7) (v := .bool false) (some 73) rfl rfl (by kernel_rfl) (by kernel_rfl) (by kernel_rfl) (fun _ _ _ h => h) (Or.inl ⟨by rfl, fun _ _ => by rfl⟩) (by assumption) ?_
          simp only [Act.put, List.setIfInBounds_toArray, List.set_cons_zero, List.set_cons_succ]
          refine anyH_take (i := 8) (v := .int .i64 0) (some 74) rfl rfl (by kernel_rfl) (by kernel_rfl) (by kernel_rfl) (fun _ _ _ h => h) (Or.inl ⟨by rfl, fun _ _ => by rfl⟩) (by assumption) ?_
          simp only [Act.put, List.setIfInBounds_toArray, List.set_cons_zero, List.set_cons_succ]
          refine anyH_take (i := 9) (v := .bool true) (some 75) rfl rfl (by kernel_rfl) (by kernel_rfl) (by kernel_rfl) (fun _ _ _ h => h) (Or.inl ⟨by rfl, fun _ _ => by go_simp⟩) (by assumption) ?_
          simp only [Act.put, List.setIfInBounds_toArray, List.set_cons_zero, List.set_cons_succ]
          refine anyH_take (i := 10) (v := .bool true) (some 76) rfl rfl (by kernel_rfl) (by kernel_rfl) (by kernel_rfl) (fun _ _ _ h => h) (Or.inl ⟨by rfl, fun _ _ => by rfl⟩) (by assumption) ?_
          simp only [Act.put, List.setIfInBounds_toArray, List.set_cons_zero, List.set_cons_succ]
          refine anyH_take (i := 11) (v := .slice (some ⟨g9, 0, none⟩) n n) (some 77) rfl rfl (by kernel_rfl) (by kernel_rfl) (by kernel_rfl) (fun _ _ _ h => h) (Or.inl ⟨by rfl, fun _ _ => by rfl⟩) (by assumption) ?_
          simp only [Act.put, List.setIfInBounds_toArray, List.set_cons_zero, List.set_cons_succ]
          refine anyH_take (i := 12) (v := .int .i64 (n : Nat)) (some 78) rfl rfl (by kernel_rfl) (by kernel_rfl) (by kernel_rfl) (fun _ _ _ h => h) (Or.inl ⟨by rfl, fun _ _ => by go_simp⟩) (by assumption) ?_
          simp only [Act.put, List.setIfInBounds_toArray, List.set_cons_zero, List.set_cons_succ]
          refine anyH_take (i := 13) (v := .slice B n cB) (some 79) rfl rfl (by kernel_rfl) (by kernel_rfl) (by kernel_rfl) (fun _ _ _ h => h) (Or.inl ⟨by rfl, fun _ _ => by rfl⟩) (by assumption) ?_
          simp only [Act.put, List.setIfInBounds_toArray, List.set_cons_zero, List.set_cons_succ]
          refine anyH_take (i := 14) (v := .int .i64 (n : Nat)) (some 80) rfl rfl (by kernel_rfl) (by kernel_rfl) (by kernel_rfl) (fun _ _ _ h => h) (Or.inl ⟨by rfl, fun _ _ => by go_simp⟩) (by assumption) ?_
          simp only [Act.put, List.setIfInBounds_toArray, List.set_cons_zero, List.set_cons_succ]
          refine anyH_take (i := 15) (v := .bool true) (some 81) rfl rfl (by kernel_rfl) (by kernel_rfl) (by kernel_rfl) (fun _ _ _ h => h) (Or.inl ⟨by rfl, fun _ _ => by go_simp⟩) (by assumption) ?_
          simp only [Act.put, List.setIfInBounds_toArray, List.set_cons_zero, List.set_cons_succ]
          refine anyH_take (i := 16) (v := .bool true) (some 82) rfl rfl (by kernel_rfl) (by kernel_rfl) (by kernel_rfl) (fun _ _ _ h => h) (Or.inl ⟨by rfl, fun _ _ => by rfl⟩) (by assumption) ?_
          simp only [Act.put, List.setIfInBounds_toArray, List.set_cons_zero, List.set_cons_succ]
          refine anyH_take (i := 17) (v := .bool true) (some 83) rfl rfl (by kernel_rfl) (by kernel_rfl) (by kernel_rfl) (fun _ _ _ h => h) (Or.inl ⟨by rfl, fun _ _ => by rfl⟩) (by assumption) ?_
          simp only [Act.put, List.setIfInBounds_toArray, List.set_cons_zero, List.set_cons_succ]
          refine anyH_take (i := 18) (v := .int .i64 (a : Nat)) (some 84) rfl rfl (by kernel_rfl) (by kernel_rfl) (by kernel_rfl) (fun _ _ _ h => h) (Or.inl ⟨by rfl, fun _ _ => by rfl⟩) (by assumption) ?_
          simp only [Act.put, List.setIfInBounds_toArray, List.set_cons_zero, List.set_cons_succ]
          refine anyH_take (i := 19) (v := .slice (some ⟨g9, 0, none⟩) n n) (some 85) rfl rfl (by kernel_rfl) (by kernel_rfl) (by kernel_rfl) (fun _ _ _ h => h) (Or.inl ⟨by rfl, fun _ _ => by rfl⟩) (by assumption) ?_
          simp only [Act.put, List.setIfInBounds_toArray, List.set_cons_zero, List.set_cons_succ]
          refine anyH_take (i := 21) (some 87) rfl rfl (by kernel_rfl) (by kernel_rfl) (by kernel_rfl) (fun _ _ _ h => h) (yieldsIf_load_mid (by rfl) 36 (.tmp 11) rfl gr 0 rfl DL _ (fun _ h => h) Try.underlying36 rfl HDn.out) (by assumption) ?_
          simp only [Act.put, List.setIfInBounds_toArray, List.set_cons_zero, List.set_cons_succ]
          refine wpAnyH_ready (rs := [20]) (by kernel_rfl) (by simp) ?_
          refine AllReadyH.cons rfl (fun K hK => ?_) AllReadyH.nil
          go_simp
          go_at_call 15
          refine Calls.mono (rof_any a (gotF S a n s) DL (some ⟨g9, 0, none⟩) n n w9.drew hgl (by omega) (Nat.le_refl _) (by unfold maxLen; omega) hbs9d (by omega) (by omega) HDL2.out) ?_
          rintro e wa ⟨rfl, hba⟩
          have hPa := hP9d.upD hba
          have hBa : Below w.heap.size w wa := hB9d.trans (hba.mono hBs9)
          dsimp only
          go_wp2_with fail
          refine hK.out _ _ hPa.rangeD (fun hHeld => ?_)
          clear hK K
          try simp only [Act.put, List.setIfInBounds_toArray, List.set_cons_zero, List.set_cons_succ]
          refine wpAnyH_ready (rs := [22]) (by kernel_rfl) (by simp) ?_
          refine AllReadyH.cons rfl (fun K hK => ?_) AllReadyH.nil
          go_simp
          refine hK.out _ _ hPa.rangeD (fun hHeld => ?_)
          clear hK K
          try simp only [Act.put, List.setIfInBounds_toArray, List.set_cons_zero, List.set_cons_succ]
          refine anyH_take (i := 23) (v := .bool true) (some 89) rfl rfl (by kernel_rfl) (by kernel_rfl) (by kernel_rfl) (fun _ _ _ h => h) (Or.inl ⟨by rfl, fun _ _ => by rfl⟩) (by assumption) ?_
          simp only [Act.put, List.setIfInBounds_toArray, List.set_cons_zero, List.set_cons_succ]
          refine anyH_take (i := 24) (v := .bool true) (some 90) rfl rfl (by kernel_rfl) (by kernel_rfl) (by kernel_rfl) (fun _ _ _ h => h) (Or.inl ⟨by rfl, fun _ _ => by rfl⟩) (by assumption) ?_
          simp only [Act.put, List.setIfInBounds_toArray, List.set_cons_zero, List.set_cons_succ]
          refine anyH_take (i := 25) (v := .bool true) (some 6) rfl rfl (by kernel_rfl) (by kernel_rfl) (by kernel_rfl) (fun _ _ _ h => h) (Or.inl ⟨by rfl, fun _ _ => by rfl⟩) (by assumption) ?_
          simp only [Act.put, List.setIfInBounds_toArray, List.set_cons_zero, List.set_cons_succ]
          refine wpAnyH_done (by kernel_rfl) ?_ _
          go_wp2_with fail
          go_ret
          exact ⟨rfl, hBa⟩
        · refine Calls.mono (bread_got F k j a S Z [] (blobDig bs) DL n w6 hD6 false (blobDig_length _) (by omega) hin HDL.out (by simpa using hok)) ?_
          rintro e w9 ⟨_, h9, hb9⟩
          obtain rfl := h9 (by first | rfl | trivial)
          have hB9 := hB6.trans (hb9.mono hBs6)
          clear hs hok hD6 hB6 hP6 h9 hb9 hBs6
          go_wp2_with fail
          go_quiet (fail)
          go_wp2_with fail
          go_ret
          exact ⟨rfl, Below.dN hB9 _⟩
      · have hc0 : ∃ gs, w6.cell? ⟨k, 0, none⟩ = some (.slice (some ⟨gs, 0, none⟩) j j) ∧ k < w6.heap.size := by
          obtain ⟨gs, gl, bm, vw, base, nm, D, hDD, hr⟩ := hD6
          exact ⟨gs, hDD.c0, hDD.Flt k hDD.Fk⟩
        obtain ⟨gs, hc0, hkl⟩ := hc0
        refine Calls.mono (bread_bad k gs j (blobDig bs) (a : Nat) (n : Nat) DL w6 hc0 hkl (by omega) (blobDig_length _) (by omega) (.inr (.inr ⟨n, rfl, by omega, .inr (by omega)⟩)) HDL.out) ?_
        rintro e w9 ⟨rfl, hb9⟩
        have hB9 := hB6.trans (hb9.mono hBs6)
        clear hD6 hB6 hP6 hb9 hBs6 hc0 hkl
        go_wp2_with fail
        go_quiet (fail)
        go_wp2_with fail
        go_ret
        exact ⟨rfl, Below.dN hB9 _⟩

theorem blobFound_walk (a : Int) (ha0 : -9223372036854775808 ≤ a) (ha1 : a ≤ 9223372036854775807) (B : Option Addr) (cB : Nat) (bs : List UInt8) (hnB : bs.length ≤ cB) (hcB : cB ≤ maxLen) (A : Option Addr) (m c : Nat) (S : List (List UInt8)) (hSl : S.length = m) (hnc : m ≤ c) (hcm : c ≤ maxLen) (w : World) (hA : Bs w w.heap.size B bs) (hSA : SecsAt w A S) :
    Calls Try.prog 6 #[.int .i64 a, .slice B bs.length cB, .slice A m c] w fun e w' => e = .returned (.bool true) ∧ Below w.heap.size w w' := by
  by_cases h : a < 0 ∨ 1000 < bs.length ∨ m < 1 ∨ 60 < m
  · exact bfound_great a B _ cB A m c w h
  · obtain ⟨x, rfl⟩ : ∃ x : Nat, a = (x : Int) := ⟨a.toNat, by omega⟩
    exact bfound_in x B _ cB bs rfl hnB hcB A m c S hSl hnc hcm (by omega) w hA hSA (by omega) (by omega) (by omega)

end Go.Proofs.Ytongmiebojilfaa

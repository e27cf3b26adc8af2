/-
  The walk of BlobReads.
-/
import Derived.Test.YtongmiebojilfaaBlobSpeaks
import Derived.Test.YtongmiebojilfaaBlobRRead
import Derived.Test.YtongmiebojilfaaSame
namespace Go.Proofs.Ytongmiebojilfaa
open Go.RowKit
set_option linter.unusedVariables false
set_option linter.unusedSimpArgs false

/-- The first i sectors are written, the others are as they were. -/
def firstS (S : List (List UInt8)) (n i : Nat) : List (List UInt8) := S.take i ++ List.replicate (n - i) zero64
theorem firstS_zero (S : List (List UInt8)) (n : Nat) : firstS S n 0 = List.replicate n zero64 := by simp [firstS]
theorem firstS_all {S : List (List UInt8)} {n : Nat} (h : S.length = n) : firstS S n n = S := by
  unfold firstS
  rw [← h, List.take_length, Nat.sub_self, List.replicate_zero, List.append_nil]
theorem firstS_step {S : List (List UInt8)} {n i : Nat} (h : S.length = n) (hi : i < n) : (firstS S n i).set i (S.getD i []) = firstS S n (i + 1) := by
  unfold firstS
  have hl : (S.take i).length = i := by rw [List.length_take]; omega
  rw [List.set_append_right _ _ (by omega), hl, Nat.sub_self, show n - i = (n - (i + 1)) + 1 by omega, List.replicate_succ, List.set_cons_zero, List.take_succ_eq_append_getElem (by omega), List.append_assoc]
  simp [List.getD, show i < S.length by omega]

/-- A Read's answer, as a value: these bytes, this error. -/
def RdPost (L : List UInt8) (code : Int) (w : World) (e : Ending) (w' : World) : Prop :=
  ∃ X m c, e = .returned (.tuple #[.slice X m c, .int .i64 code]) ∧ L.length = m ∧ m ≤ 65536 ∧ Bs w' w'.heap.size X L ∧ Below w.heap.size w w'

theorem getF_length2 {S : List (List UInt8)} {a n : Nat} (h64 : ∀ s ∈ S, s.length = 64) (h : a + secsF n ≤ S.length) : (getF S a n).length = n := getF_length h64 h

/-- Both Reads, the program's and the document's, tell the same. -/
theorem reads_both (S : List (List UInt8)) (n : Nat) (hS : S.length = n) (h64 : ∀ s ∈ S, s.length = 64) (hn : n ≤ 65536) (d : List UInt8) (hd : d.length = 32) (a z : Int) (ha : a ≤ 9223372036854775807) (DL : List Value) (hDL : DL = refC d a z) :
    ∃ (L : List UInt8) (code : Int), (code = 0 ∨ code = 7) ∧
      (∀ (F : Nat → Prop) (k : Nat) (S2 : List (List UInt8)) (W : List WrF) (w : World), Disk w F k n S S2 W false 0 → Calls Try.prog 14 #[.pointer (some ⟨k, 0, none⟩), .agg DL.toArray] w (RdPost L code w)) ∧
      (∀ (A : Option Addr) (c : Nat) (w : World), SecsAt w A S → n ≤ c → c ≤ maxLen → Calls Try.prog 19 #[.slice A n c, .agg DL.toArray] w (RdPost L code w)) := by
  by_cases hbad : z < 0 ∨ 65536 < z ∨ ∃ m : Nat, z = (m : Int) ∧ m ≤ 65536 ∧ (a < 0 ∨ (n : Int) < a + secsF m)
  · refine ⟨[], 7, .inr rfl, fun F k S2 W w h => ?_, fun A c w h h1 h2 => ?_⟩
    · obtain ⟨gs, gl, bm, vw, base, nm, D, hD, hr⟩ := h
      refine Calls.mono (bread_bad k gs n d a z DL w hD.c0 (hD.Flt k hD.Fk) hn hd ha hbad hDL) ?_
      rintro e w' ⟨rfl, hb⟩
      exact ⟨none, 0, 0, rfl, rfl, by omega, Bs.nil _ _ _, hb⟩
    · refine Calls.mono (rread_bad A n c d a z DL w hn hd ha hbad hDL) ?_
      rintro e w' ⟨rfl, hb⟩
      exact ⟨none, 0, 0, rfl, rfl, by omega, Bs.nil _ _ _, hb⟩
  · obtain ⟨m, rfl⟩ : ∃ m : Nat, z = (m : Int) := ⟨z.toNat, by omega⟩
    have hm : m ≤ 65536 := by omega
    have hna : ¬ (a < 0 ∨ (n : Int) < a + secsF m) := fun h => hbad (.inr (.inr ⟨m, rfl, hm, h⟩))
    obtain ⟨b, rfl⟩ : ∃ b : Nat, a = (b : Int) := ⟨a.toNat, by omega⟩
    have hf : b + secsF m ≤ n := by omega
    have hgl := getF_length (S := S) (a := b) (n := m) h64 (by omega)
    by_cases hok : blobDig (getF S b m) = d
    · refine ⟨getF S b m, 0, .inl rfl, fun F k S2 W w h => ?_, fun A c w h h1 h2 => ?_⟩
      · refine Calls.mono (bread_got F k n b S S2 W d DL m w h true hd hm hf hDL (by rw [gotF_all h64 (by omega)]; simpa using hok)) ?_
        rintro e w' ⟨h8, _, hb8⟩
        obtain ⟨g, rfl, hA8, hg8⟩ := h8 rfl
        rw [gotF_all h64 (by omega)] at hA8
        exact ⟨_, m, m, rfl, hgl, hm, Arr.bsB hA8, hb8⟩
      · refine Calls.mono (rread_got A n c S d b m DL true w h hS hn h1 h2 hd hm hf hDL (by simpa using hok)) ?_
        rintro e w' ⟨h8, _, hb8⟩
        obtain ⟨v, rfl, hown⟩ := h8 rfl
        obtain ⟨X, c6, rfl, h61, h62, h63⟩ := hown.slice
        exact ⟨X, _, c6, rfl, rfl, by omega, h63, hb8⟩
    · refine ⟨[], 7, .inr rfl, fun F k S2 W w h => ?_, fun A c w h h1 h2 => ?_⟩
      · refine Calls.mono (bread_got F k n b S S2 W d DL m w h false hd hm hf hDL (by rw [gotF_all h64 (by omega)]; simpa using hok)) ?_
        rintro e w' ⟨_, h8, hb8⟩
        obtain rfl := h8 rfl
        exact ⟨none, 0, 0, rfl, rfl, by omega, Bs.nil _ _ _, hb8⟩
      · refine Calls.mono (rread_got A n c S d b m DL false w h hS hn h1 h2 hd hm hf hDL (by simpa using hok)) ?_
        rintro e w' ⟨_, h8, hb8⟩
        obtain rfl := h8 rfl
        exact ⟨none, 0, 0, rfl, rfl, by omega, Bs.nil _ _ _, hb8⟩

theorem sectors_both (q : Int) (h : q ≤ 65536) : ∃ s : Nat, s ≤ 2000000 ∧ (∀ w, Calls Try.prog 18 #[.int .i64 q] w fun e w' => e = .returned (.int .i64 (s : Nat)) ∧ w' = w) ∧ (∀ w, Calls Try.prog 20 #[.int .i64 q] w fun e w' => e = .returned (.int .i64 (s : Nat)) ∧ w' = w) := by
  by_cases hq : q < 0
  · exact ⟨0, by omega, fun w => sectors_neg q hq w, fun w => rsectors_neg q hq w⟩
  · obtain ⟨n, rfl⟩ : ∃ n : Nat, q = (n : Int) := ⟨q.toNat, by omega⟩
    exact ⟨secsF n, by unfold secsF; omega, fun w => sectors_any n (by omega) w, fun w => rsectors_any n (by omega) w⟩

set_option maxHeartbeats 8000000 in
set_option maxRecDepth 100000 in
theorem breads_great (A : Option Addr) (n c : Nat) (d : List UInt8) (hd : d.length = 32) (a z q : Int) (DL : List Value) (w : World) (h : n < 1 ∨ 60 < n) :
    Calls Try.prog 4 #[.slice A n c, .agg DL.toArray, .int .i64 q] w fun e w' => e = .returned (.bool true) ∧ Below w.heap.size w w' := by
  obtain ⟨W1, hW1⟩ : ∃ x, x = w.alloc (.cells DL.toArray 36) := ⟨_, rfl⟩
  have hb1 : Below w.heap.size w W1 := by rw [hW1]; exact (Below.refl _ w).alloc (Nat.le_refl _) _
  have HW1 := Lib.hid hW1
  clear hW1
  by_cases h1 : n < 1
  · have hd1 : decide ((n : Int) < (1 : Int)) = true := by simp; omega
    go_enter Try.func4, Try.ntmps4
    go_upto_region 1 with fail
    change Code.wp _ _ _ _ (w.alloc (.cells DL.toArray 36))
    rw [← HW1.out]
    clear HW1
    go_wp2_with fail
    refine Calls.mono (bspeaks_true W1) ?_
    rintro e w1 ⟨rfl, hB1⟩
    go_wp2_with fail
    go_ret
    exact ⟨rfl, hb1.trans (hB1.mono hb1.size)⟩
  · have hd1 : decide ((n : Int) < (1 : Int)) = false := by simp; omega
    have hd2 : decide ((60 : Int) < (n : Int)) = true := by simp; omega
    go_enter Try.func4, Try.ntmps4
    go_upto_region 1 with fail
    change Code.wp _ _ _ _ (w.alloc (.cells DL.toArray 36))
    rw [← HW1.out]
    clear HW1
    go_wp2_with fail
    refine Calls.mono (bspeaks_true W1) ?_
    rintro e w1 ⟨rfl, hB1⟩
    go_wp2_with fail
    go_ret
    exact ⟨rfl, hb1.trans (hB1.mono hb1.size)⟩

set_option maxHeartbeats 16000000 in
set_option maxRecDepth 100000 in
theorem breads_in (A : Option Addr) (n c : Nat) (S : List (List UInt8)) (hSl : S.length = n) (hnc : n ≤ c) (hcm : c ≤ maxLen) (d : List UInt8) (hd : d.length = 32) (a z q : Int) (ha : a ≤ 9223372036854775807) (hq0 : -9223372036854775808 ≤ q) (hq1 : q ≤ 9223372036854775807) (DL : List Value) (hDL : DL = refC d a z) (w : World) (hSA : SecsAt w A S) (h1 : 1 ≤ n) (h60 : n ≤ 60) :
    Calls Try.prog 4 #[.slice A n c, .agg DL.toArray, .int .i64 q] w fun e w' => e = .returned (.bool true) ∧ Below w.heap.size w w' := by
  obtain ⟨L, code, hcode, hrd, hrr⟩ := reads_both S n hSl hSA.s64 (by omega) d hd a z ha DL hDL
  obtain ⟨W1, hW1⟩ : ∃ x, x = w.alloc (.cells DL.toArray 36) := ⟨_, rfl⟩
  have hR1 : Arr W1 w.heap.size 36 DL := by rw [hW1]; exact Arr.new w _ _
  have hW1s : W1.heap.size = w.heap.size + 1 := by rw [hW1]; simp
  have hb1 : Below w.heap.size w W1 := by rw [hW1]; exact (Below.refl _ w).alloc (Nat.le_refl _) _
  have HDi := Lib.hid (show (Try.prog.info? 36).map (·.size) = some DL.toArray.size by rw [List.size_toArray, hDL, refC_length hd]; exact refSize)
  have HW1 := Lib.hid hW1
  have hd1 : decide ((n : Int) < (1 : Int)) = false := by simp; omega
  have hd2 : decide ((60 : Int) < (n : Int)) = false := by simp; omega
  clear hW1 hDL
  go_enter Try.func4, Try.ntmps4
  go_upto_region 1 with fail
  change Code.wp _ _ _ _ (w.alloc (.cells DL.toArray 36))
  rw [← HW1.out]
  clear HW1
  go_wp2_with fail
  refine Calls.mono (bspeaks_true W1) ?_
  rintro e w1 ⟨rfl, hB1⟩
  go_wp2_with fail
  go_at_call 9
  refine Calls.mono (show Calls Try.prog 9 #[.int .i64 (n : Nat)] w1 (NewPost n w1) from new_yes n w1 h1 (by omega)) ?_
  rintro e w2 ⟨k, rfl, hD2, hb2⟩
  obtain ⟨B, hB⟩ : ∃ B, B = w.heap.size + 1 := ⟨_, rfl⟩
  have hBw : B ≤ w1.heap.size := by have := hB1.size; omega
  have hR2 : Arr w2 w.heap.size 36 DL := (hR1.below hB1 hR1.lt).below hb2 (by omega)
  have hB2 : Below B W1 w2 := (hB1.mono (by omega)).trans (hb2.mono hBw)
  have hF2 : ∀ b, newF (fun _ => False) w1 w2 b → B ≤ b := fun b h => h.elim (fun h => h.elim) (fun h => Nat.le_trans hBw h.1)
  rw [← firstS_zero S n] at hD2
  obtain ⟨Z, hZ⟩ : ∃ Z, Z = firstS S n 0 := ⟨_, rfl⟩
  have hD2' : Disk w2 (newF (fun _ => False) w1 w2) k n (firstS S n 0) Z [] false 0 := by rw [hZ]; exact hD2
  have hWB : W1.heap.size = B := by omega
  have hwB : w.heap.size < B := by omega
  have hR1x := hR1
  clear hb2 hB1 hZ hD2 hd1 hd2 hR1 hW1s hB hBw
  go_wp2_with fail
  go_loopw [39] (fun x wr => ∃ (j : Nat) (F : Nat → Prop) (W : List WrF), x = .int .i64 j ∧ j ≤ n ∧ Disk wr F k n (firstS S n j) Z W false 0 ∧ W.length ≤ j ∧ (∀ b, F b → B ≤ b) ∧ Below B W1 wr) (fun x _ => n - (intOf x).toNat)
  case atStart => exact ⟨0, _, _, rfl, Nat.zero_le _, hD2', Nat.le_refl _, hF2, hB2⟩
  case round =>
    clear hD2' hF2 hB2 hR2
    obtain ⟨j, F, W, rfl, hjn, hDq, hWj, hFb, hBq⟩ := hrel
    obtain ⟨wq, hwq⟩ : ∃ x, x = wr := ⟨_, rfl⟩
    subst hwq
    have hBwq : Below w.heap.size w wq := hb1.trans (hBq.mono (Nat.le_of_lt hwB))
    by_cases hlt : j < n
    · obtain ⟨b, off, rfl, hbB, hrow⟩ := (hSA.below hBwq) (by omega)
      obtain ⟨h64, hrng⟩ := hrow j (by omega)
      have hstep := firstS_step hSl hlt
      obtain ⟨X, hX⟩ : ∃ X, S.getD j [] = X := ⟨_, rfl⟩
      rw [hX] at h64 hrng hstep
      obtain ⟨XL, hXL⟩ : ∃ l, l = Lib.byteCells X := ⟨_, rfl⟩
      have hXl : XL.length = 64 := by rw [hXL, Lib.byteCells_length]; exact h64
      have HXi := Lib.hid (show (Try.prog.info? 30).map (·.size) = some XL.toArray.size by rw [List.size_toArray, hXl]; exact secInfo)
      have HXz := Lib.hid (show (Try.prog.info? 30).map (·.size) = some XL.length by rw [hXl]; exact secInfo)
      have HX1 := Lib.hid (show XL.toArray.all (·.oneCell') = true by rw [hXL]; exact sec_one _)
      have HXs := Lib.hid (show (Lib.byteCells zero64).toArray.size = XL.toArray.size by rw [List.size_toArray, List.size_toArray, hXl]; rfl)
      have hwr : wq.rangeAt b (off + j * 64) XL := fun i v hv => hrng i v (by rw [← hXL]; exact hv)
      have hjI : (j : Int) < (n : Int) := by omega
      have hd1 : decide (j < n) = true := by simp; omega
      have HXL := Lib.hid hXL
      have Hst := Lib.hid hstep
      clear hX hXL hXl hrow hrng hstep
      go_wp2_with (first
        | (refine wpList_load_mid rfl _ _ rfl b (off + j * 64) rfl XL _ hwr Try.underlying30 rfl HXz.out ?_)
        | (change wpList _ _ _ _ _ (wq.alloc (.cells (Lib.byteCells zero64).toArray 30)); refine wpList_store_row rfl _ _ _ rfl wq.heap.size XL.toArray rfl rfl 30 (Lib.byteCells zero64).toArray (heap_alloc_new wq _) HXi.out HXs.out HX1.out ?_; obtain ⟨w4, hw4⟩ : ∃ x, x = (wq.alloc (.cells (Lib.byteCells zero64).toArray 30)).setRow wq.heap.size XL.toArray := ⟨_, rfl⟩; rw [← hw4]; obtain ⟨hX4, hb4⟩ := alloc_rowD wq 30 (Lib.byteCells zero64).toArray XL; rw [← hw4] at hX4 hb4; clear hw4)
        | (refine wpList_load_row rfl _ _ rfl wq.heap.size rfl 30 XL.toArray (0, 0) _ hX4 Try.underlying30 rfl HXi.out ?_))
      have hD4 := hDq.below hb4
      have hB4 := hBq.trans (hb4.mono (Nat.le_trans (Nat.le_of_eq hWB.symm) hBq.size))
      clear hwr hX4 hDq hBq hBwq
      refine Calls.mono (write_live F k n j (firstS S n j) Z W false 0 X XL w4 hD4 rfl hlt h64 HXL.out (by omega)) ?_
      rintro e w5 ⟨rfl, hD5, hO5⟩
      rw [Hst.out] at hD5
      have hB5 : Below B W1 w5 := hB4.trans (hO5.below (Nat.le_trans (Nat.le_of_eq hWB.symm) hB4.size) hFb)
      have hF5 : ∀ b, newF F w4 w5 b → B ≤ b := fun b h => h.elim (hFb b) (fun h => Nat.le_trans (Nat.le_trans (Nat.le_of_eq hWB.symm) hB4.size) h.1)
      clear hD4 hB4 hO5 hb4
      go_wp2_with fail
      go_roundw
      case rel => exact ⟨j + 1, _, _, by go_num, by omega, hD5, by rw [List.length_append]; simp; omega, hF5, hB5⟩
      case measure => simp [intOf]; omega
    · obtain rfl : j = n := by omega
      rw [firstS_all hSl] at hDq
      have hd1 : decide (j < j) = false := by simp
      have hRq : Arr wq w.heap.size 36 DL := hR1x.below hBq hwB
      go_wp2_with (first
        | (refine wpList_load_row rfl _ _ rfl w.heap.size rfl 36 DL.toArray (0, 0) _ hRq Try.underlying36 rfl HDi.out ?_))
      refine Calls.mono (hrd F k Z W wq hDq) ?_
      rintro e w3 ⟨X, m, cx, rfl, hLm, hm6, hbX, hb3⟩
      have hR3 : Arr w3 w.heap.size 36 DL := hRq.below hb3 hRq.lt
      have hBw3 := hBwq.trans (hb3.mono hBwq.size)
      clear hDq hRq hBq hR1x
      go_wp2_with (first
        | (refine wpList_load_row rfl _ _ rfl w.heap.size rfl 36 DL.toArray (0, 0) _ hR3 Try.underlying36 rfl HDi.out ?_))
      refine Calls.mono (hrr A c w3 (hSA.below hBw3) hnc hcm) ?_
      rintro e w4 ⟨Y, m2, cy, rfl, hLm2, _, hbY, hb4⟩
      obtain rfl : m = m2 := by omega
      have hBw4 := hBw3.trans (hb4.mono hBw3.size)
      clear hR3 hBw3 hBwq hb3
      have hbX4 := (hbX.below hb4 (Nat.le_refl _)).more hb4.size
      clear hbX hb4
      by_cases hq : q ≤ 65536
      · have hdq : decide (q ≤ 65536) = true := by simp; exact hq
        obtain ⟨s, hs2, hsb, hsr⟩ := sectors_both q hq
        go_wp2_with fail
        refine Calls.mono (hsb w4) ?_
        rintro e w5 ⟨rfl, rfl⟩
        go_wp2_with fail
        refine Calls.mono (hsr w5) ?_
        rintro e w6 ⟨rfl, rfl⟩
        go_wp2_with fail
        refine Calls.mono (same_n w6.heap.size w6.heap.size X Y cx cy m m L L w6 true hbX4 hbY hLm hLm (by unfold maxLen; omega) (by unfold maxLen; omega) (by simp)) ?_
        rintro e w8 ⟨rfl, nd, rfl⟩
        go_wp2_with fail
        go_ret
        exact ⟨rfl, Below.dN hBw4 nd⟩
      · have hdq : decide (q ≤ 65536) = false := by simp; omega
        go_wp2_with fail
        refine Calls.mono (same_n w4.heap.size w4.heap.size X Y cx cy m m L L w4 true hbX4 hbY hLm hLm (by unfold maxLen; omega) (by unfold maxLen; omega) (by simp)) ?_
        rintro e w8 ⟨rfl, nd, rfl⟩
        go_wp2_with fail
        go_ret
        exact ⟨rfl, Below.dN hBw4 nd⟩

theorem blobReads_walk (A : Option Addr) (n c : Nat) (S : List (List UInt8)) (hSl : S.length = n) (hnc : n ≤ c) (hcm : c ≤ maxLen) (d : List UInt8) (a z : Int) (hd : d.length = 32) (ha0 : -9223372036854775808 ≤ a) (ha : a ≤ 9223372036854775807) (q : Int) (hq0 : -9223372036854775808 ≤ q) (hq1 : q ≤ 9223372036854775807) (w : World) (hSA : SecsAt w A S) :
    Calls Try.prog 4 #[.slice A n c, .agg (refC d a z).toArray, .int .i64 q] w fun e w' => e = .returned (.bool true) ∧ Below w.heap.size w w' := by
  by_cases h : n < 1 ∨ 60 < n
  · exact breads_great A n c d hd a z q _ w h
  · exact breads_in A n c S hSl hnc hcm d hd a z q ha hq0 hq1 _ rfl w hSA (by omega) (by omega)

end Go.Proofs.Ytongmiebojilfaa

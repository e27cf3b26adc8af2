/-
  bin's Read.
-/
import Derived.Test.YtccccpadnaocfaaBinStand
import Derived.Test.YtccccpadnaocfaaBinFinger
namespace Go.Proofs.Ytccccpadnaocfaa
open Go.RowKit
set_option linter.unusedVariables false
set_option linter.unusedSimpArgs false

theorem Arr.rangeN {w : World} {g : Nat} {T : TypeId} {cs : List Value} (h : Arr w g T cs) : w.rangeAt g 0 cs := fun j v hj => by rw [Nat.zero_add, h.cell]; exact hj
theorem rangeN_below {w w' : World} {B g o : Nat} {cs : List Value} (h : w.rangeAt g o cs) (hb : Below B w w') (hg : g < B) : w'.rangeAt g o cs := fun j v hj => (hb.cell (p := ⟨g, _, none⟩) hg).trans (h j v hj)
theorem gtDN : Try.prog.eqGuardType Try.prog.depth 29 = false := by kernel_rfl
theorem gtBN : Try.prog.eqGuardType Try.prog.depth 40 = false := by kernel_rfl

set_option maxHeartbeats 16000000 in
set_option maxRecDepth 100000 in
theorem nread_at (k gs n : Nat) (S : List (List UInt8)) (num : Int) (a m slot : Nat) (rd fd : List UInt8) (DL FL BL : List Value) (ok : Bool) (w : World) (hS : SeenN w k gs n S) (hrd : rd.length = 32) (hfd : fd.length = 32) (hDL : DL = binC num a m rd) (hFL : FL = Lib.byteCells fd)
    (hsl : slot < m) (ha : a + m ≤ n) (hok : decide (fingF (standF S (a + slot)) = fd) = ok) (hBL : BL = Lib.byteCells (if ok then standF S (a + slot) else z48)) :
    Calls Try.prog 11 #[.pointer (some ⟨k, 0, none⟩), .agg DL.toArray, .int .i64 (slot : Nat), .agg FL.toArray] w fun e w' => e = .returned (.tuple #[.agg BL.toArray, .int .i64 (if ok then 0 else 7)]) ∧ Below w.heap.size w w' := by
  have hn2 := hS.n2
  have hd0 : decide ((slot : Int) < (0 : Int)) = false := by simp
  have hd1 : decide ((m : Int) ≤ (slot : Int)) = false := by simp; omega
  have hd1n : decide (m ≤ slot) = false := by simp; omega
  obtain ⟨W1, hW1⟩ : ∃ x, x = ((w.alloc (.cells DL.toArray 31)).alloc (.cells FL.toArray 29)).alloc (.cells (Lib.byteCells z48).toArray 40) := ⟨_, rfl⟩
  have hX1 : Arr W1 w.heap.size 31 DL := by rw [hW1]; exact ((Arr.new w _ DL).alloc _).alloc _
  have hF1 : Arr W1 (w.heap.size + 1) 29 FL := by
    have h1 := Arr.new (w.alloc (.cells DL.toArray 31)) 29 FL
    rw [show (w.alloc (.cells DL.toArray 31)).heap.size = w.heap.size + 1 from by simp] at h1
    rw [hW1]; exact h1.alloc _
  have hR1 : Arr W1 (w.heap.size + 1 + 1) 40 (Lib.byteCells z48) := by
    have h1 := Arr.new ((w.alloc (.cells DL.toArray 31)).alloc (.cells FL.toArray 29)) 40 (Lib.byteCells z48)
    rw [show ((w.alloc (.cells DL.toArray 31)).alloc (.cells FL.toArray 29)).heap.size = w.heap.size + 1 + 1 from by simp] at h1
    rw [hW1]; exact h1
  have hb1 : Below w.heap.size w W1 := by rw [hW1]; exact (((Below.refl _ w).alloc (Nat.le_refl _) _).alloc (by simp) _).alloc (by simp; omega) _
  obtain ⟨g, hg⟩ : ∃ g, g = w.heap.size + 1 + 1 := ⟨_, rfl⟩
  obtain ⟨gf, hgf⟩ : ∃ g, g = w.heap.size + 1 := ⟨_, rfl⟩
  rw [← hg] at hR1
  rw [← hgf] at hF1
  have hgw : w.heap.size ≤ g := by omega
  have Hg := Lib.hid hg
  have Hgf := Lib.hid hgf
  have hS1 := hS.below hb1
  have hc1 : W1.cell? ⟨w.heap.size, 1, none⟩ = some (.int .i64 (a : Nat)) := by rw [hX1.cell, hDL]; rfl
  have hc2 : W1.cell? ⟨w.heap.size, 2, none⟩ = some (.int .i64 (m : Nat)) := by rw [hX1.cell, hDL]; rfl
  have hFl : FL.length = 32 := by rw [hFL, Lib.byteCells_length, hfd]
  have HFLn := Lib.hid (show (Try.prog.info? 29).map (·.size) = some FL.length by rw [hFl]; exact digInfo)
  obtain ⟨q, hq⟩ : ∃ q, a + slot = q := ⟨_, rfl⟩
  rw [hq] at hok hBL
  have hqI : (a : Int) + (slot : Int) = (q : Int) := by omega
  have hqn : q < n := by omega
  obtain ⟨XL, hXL⟩ : ∃ XL, XL = Lib.byteCells (standF S q) := ⟨_, rfl⟩
  have hx48 : (standF S q).length = 48 := standF_length hS.s64 (by rw [hS.lS]; exact hqn)
  have hXl : XL.length = 48 := by rw [hXL, Lib.byteCells_length, hx48]
  have hBl : BL.length = 48 := by rw [hBL, Lib.byteCells_length]; split; exact hx48; rfl
  have HXLi := Lib.hid (show (Try.prog.info? 40).map (·.size) = some XL.toArray.size by rw [List.size_toArray, hXl]; exact blkInfo)
  have HXLn := Lib.hid (show (Try.prog.info? 40).map (·.size) = some XL.length by rw [hXl]; exact blkInfo)
  have HXLs := Lib.hid (show (Lib.byteCells z48).toArray.size = XL.toArray.size by rw [List.size_toArray, List.size_toArray, hXl]; rfl)
  have HXL1 := Lib.hid (show XL.toArray.all (·.oneCell') = true by rw [hXL]; exact sec_one _)
  have HBLi := Lib.hid (show (Try.prog.info? 40).map (·.size) = some BL.toArray.size by rw [List.size_toArray, hBl]; exact blkInfo)
  have HBLn := Lib.hid (show (Try.prog.info? 40).map (·.size) = some BL.length by rw [hBl]; exact blkInfo)
  have HBLs := Lib.hid (show (Lib.byteCells z48).toArray.size = BL.toArray.size by rw [List.size_toArray, List.size_toArray, hBl]; rfl)
  have HBL1 := Lib.hid (show BL.toArray.all (·.oneCell') = true by rw [hBL]; exact sec_one _)
  obtain ⟨GL, hGL⟩ : ∃ GL, GL = Lib.byteCells (fingF (standF S q)) := ⟨_, rfl⟩
  have hcmp : ∀ w, (Op.equalIn 10000 29 (.agg GL.toArray) (.agg FL.toArray)).run Try.prog w = .ok ok w := fun w => by
    rw [eqv_at Try.underlying29 _ fd (fingF_length _) hfd GL FL hGL hFL w, hok]
  have He1 := Lib.hid (show ok = true → XL = BL from fun e => by rw [hXL, hBL, if_pos e])
  have He2 := Lib.hid (show ok = false → BL = Lib.byteCells z48 from fun e => by rw [hBL, e]; rfl)
  have HXL := Lib.hid hXL
  have HGL := Lib.hid hGL
  have HW1 := Lib.hid hW1
  have hgt := gtDN
  have hsl63 : (slot : Int) + 1 ≤ 65536 := by omega
  clear hW1 hg hgf hDL hFL hXL hGL hBL hok hq hX1
  go_enter Try.func11, Try.ntmps11
  go_upto_region 1 with fail
  change Code.wp _ _ _ _ (((w.alloc (.cells DL.toArray 31)).alloc (.cells FL.toArray 29)).alloc (.cells (Lib.byteCells z48).toArray 40))
  rw [← HW1.out, ← Hg.out, ← Hgf.out]
  clear HW1 Hg Hgf
  go_wp2_with fail
  refine Calls.mono (nthere_is k gs n a _ true W1 hS1.c0 hn2 (by omega) (by simp; omega)) ?_
  rintro e w2 ⟨rfl, rfl⟩
  go_wp2_with fail
  refine Calls.mono (standing_at k gs n q S w2 hS1 hqn XL HXL.out) ?_
  rintro e w3 ⟨rfl, hb3⟩
  have hF3 := hF1.below hb3 hF1.lt
  have hR3 := hR1.below hb3 hR1.lt
  have hB3 := hb1.trans (hb3.mono hb1.size)
  clear hb3 hF1 hR1 hb1 hc1 hc2 hS1
  go_wp2_with (first
    | (change wpList _ _ _ _ _ (w3.alloc (.cells (Lib.byteCells z48).toArray 40)); refine wpList_store_row rfl _ _ _ rfl w3.heap.size XL.toArray rfl rfl 40 (Lib.byteCells z48).toArray (heap_alloc_new w3 _) HXLi.out HXLs.out HXL1.out ?_; obtain ⟨w4, hw4⟩ : ∃ x, x = (w3.alloc (.cells (Lib.byteCells z48).toArray 40)).setRow w3.heap.size XL.toArray := ⟨_, rfl⟩; rw [← hw4]; obtain ⟨hXa, hba⟩ := alloc_rowD w3 40 (Lib.byteCells z48).toArray XL; rw [← hw4] at hXa hba; clear hw4))
  have hF4 := hF3.below hba hF3.lt
  have hR4 := hR3.below hba hR3.lt
  have hB4 := hB3.trans (hba.mono hB3.size)
  have hX5 : (w4.drew).rangeAt w3.heap.size 0 XL := (hXa.drewN 1).rangeN
  have hF5 : (w4.drew).rangeAt gf 0 FL := (hF4.drewN 1).rangeN
  have hX3l : w3.heap.size < w4.drew.heap.size := hXa.lt
  have hF3l : gf < w4.drew.heap.size := hF4.lt
  refine wp_region_held_drew (S := fun w' => w'.rangeAt w3.heap.size 0 XL ∧ w'.rangeAt gf 0 FL) (by kernel_rfl) ⟨hX5, hF5⟩ (fun hHeld => ?_)
  refine anyH_take (i := 0) (some 34) rfl rfl (by kernel_rfl) (by kernel_rfl) (by kernel_rfl) (fun _ _ _ h => h) (yieldsIf_load_mid (by rfl) 40 (.tmp 10) rfl w3.heap.size 0 rfl XL _ (fun _ h => h.1) Try.underlying40 rfl HXLn.out) (by assumption) ?_
  simp only [Act.put, List.setIfInBounds_toArray, List.set_cons_zero, List.set_cons_succ]
  refine anyH_take (i := 2) (some 36) rfl rfl (by kernel_rfl) (by kernel_rfl) (by kernel_rfl) (fun _ _ _ h => h) (yieldsIf_load_mid (by rfl) 29 (.tmp 7) rfl gf 0 rfl FL _ (fun _ h => h.2) Try.underlying29 rfl HFLn.out) (by assumption) ?_
  simp only [Act.put, List.setIfInBounds_toArray, List.set_cons_zero, List.set_cons_succ]
  refine wpAnyH_ready (rs := [1]) (by kernel_rfl) (by simp) ?_
  refine AllReadyH.cons rfl (fun K hK => ?_) AllReadyH.nil
  go_simp
  go_at_call 13
  refine Calls.mono (finger_at (standF S q) hx48 XL GL HXL.out HGL.out w4.drew) ?_
  rintro e w6 ⟨rfl, hb6⟩
  dsimp only
  go_wp2_with fail
  refine hK.out _ _ ⟨rangeN_below hX5 hb6 hX3l, rangeN_below hF5 hb6 hF3l⟩ (fun hHeld => ?_)
  clear hK K
  try simp only [Act.put, List.setIfInBounds_toArray, List.set_cons_zero, List.set_cons_succ]
  refine wpAnyH_ready (rs := [3]) (by kernel_rfl) (by simp) ?_
  refine AllReadyH.cons rfl (fun K hK => ?_) AllReadyH.nil
  go_simp
  refine hK.out _ _ ⟨rangeN_below hX5 hb6 hX3l, rangeN_below hF5 hb6 hF3l⟩ (fun hHeld => ?_)
  clear hK K
  try simp only [Act.put, List.setIfInBounds_toArray, List.set_cons_zero, List.set_cons_succ]
  have hR6 : Arr w6 g 40 (Lib.byteCells z48) := (hR4.drewN 1).below hb6 hR4.lt
  have hX6 := rangeN_below hX5 hb6 hX3l
  have hB4d : Below w.heap.size w w4.drew := Below.dN hB4 1
  have hB6 := hB4d.trans (hb6.mono hB4d.size)
  have hR6h := Lib.hid hR6
  clear hHeld hF3 hF4 hF5 hX5 hR3 hR4 hR6 hB3 hB4 hB4d hXa hX3l hF3l hcmp hgt hqI hsl63 hb6
  cases ok
  · obtain ⟨V, hV⟩ : ∃ V, V = Value.tuple #[.agg BL.toArray, .int .i64 7] := ⟨_, rfl⟩
    have HV := Lib.hid hV
    clear hV
    have e := He2.out (by first | rfl | trivial)
    have HZ0 := Lib.hid (show Try.prog.built 40 [] = some BL.toArray by rw [e]; exact blk_built0)
    clear e hX6
    refine wpAnyH_done (by kernel_rfl) ?_ _
    go_wp2_with (first
      | (refine wpList_builtD rfl _ _ rfl [] rfl BL.toArray HZ0.out ?_)
      | (refine wpList_store_row rfl _ _ _ rfl g BL.toArray rfl rfl 40 (Lib.byteCells z48).toArray hR6h.out HBLi.out HBLs.out HBL1.out ?_))
    have hset := Arr.setRow hR6h.out BL
    have hfin : Below w.heap.size w (w6.setRow g BL.toArray) := hB6.trans (((Only.refl (fun k => k = g) w6).setRow (.inl rfl) BL.toArray).below hB6.size (by rintro k rfl; exact hgw))
    refine bodyPost_ret (v := V) ?_ rfl ⟨by rw [HV.out], hfin⟩
    rw [HV.out]
    exact results_cell2 (fn := Try.f11) (by rfl) _ _ g 40 BL.toArray (0, 0) _ (by rfl) _ (by rfl) hset Try.underlying40 rfl HBLi.out
  · obtain ⟨V, hV⟩ : ∃ V, V = Value.tuple #[.agg BL.toArray, .int .i64 0] := ⟨_, rfl⟩
    have HV := Lib.hid hV
    clear hV
    have e := He1.out (by first | rfl | trivial)
    have hX7 := Lib.hid (show w6.rangeAt w3.heap.size 0 BL by rw [← e]; exact hX6)
    clear e hX6
    refine wpAnyH_done (by kernel_rfl) ?_ _
    go_wp2_with (first
      | (refine wpList_load_mid rfl _ _ rfl w3.heap.size 0 rfl BL _ hX7.out Try.underlying40 rfl HBLn.out ?_)
      | (refine wpList_store_row rfl _ _ _ rfl g BL.toArray rfl rfl 40 (Lib.byteCells z48).toArray hR6h.out HBLi.out HBLs.out HBL1.out ?_))
    have hset := Arr.setRow hR6h.out BL
    have hfin : Below w.heap.size w (w6.setRow g BL.toArray) := hB6.trans (((Only.refl (fun k => k = g) w6).setRow (.inl rfl) BL.toArray).below hB6.size (by rintro k rfl; exact hgw))
    refine bodyPost_ret (v := V) ?_ rfl ⟨by rw [HV.out], hfin⟩
    rw [HV.out]
    exact results_cell2 (fn := Try.f11) (by rfl) _ _ g 40 BL.toArray (0, 0) _ (by rfl) _ (by rfl) hset Try.underlying40 rfl HBLi.out

theorem nread_yes (k gs n : Nat) (S : List (List UInt8)) (num : Int) (a m slot : Nat) (rd fd : List UInt8) (DL FL BL : List Value) (w : World) (hS : SeenN w k gs n S) (hrd : rd.length = 32) (hfd : fd.length = 32) (hDL : DL = binC num a m rd) (hFL : FL = Lib.byteCells fd)
    (hsl : slot < m) (ha : a + m ≤ n) (hok : fingF (standF S (a + slot)) = fd) (hBL : BL = Lib.byteCells (standF S (a + slot))) :
    Calls Try.prog 11 #[.pointer (some ⟨k, 0, none⟩), .agg DL.toArray, .int .i64 (slot : Nat), .agg FL.toArray] w fun e w' => e = .returned (.tuple #[.agg BL.toArray, .int .i64 0]) ∧ Below w.heap.size w w' :=
  nread_at k gs n S num a m slot rd fd DL FL BL true w hS hrd hfd hDL hFL hsl ha (by simpa using hok) hBL
theorem nread_no (k gs n : Nat) (S : List (List UInt8)) (num : Int) (a m slot : Nat) (rd fd : List UInt8) (DL FL BL : List Value) (w : World) (hS : SeenN w k gs n S) (hrd : rd.length = 32) (hfd : fd.length = 32) (hDL : DL = binC num a m rd) (hFL : FL = Lib.byteCells fd)
    (hsl : slot < m) (ha : a + m ≤ n) (hok : fingF (standF S (a + slot)) ≠ fd) (hBL : BL = Lib.byteCells z48) :
    Calls Try.prog 11 #[.pointer (some ⟨k, 0, none⟩), .agg DL.toArray, .int .i64 (slot : Nat), .agg FL.toArray] w fun e w' => e = .returned (.tuple #[.agg BL.toArray, .int .i64 7]) ∧ Below w.heap.size w w' :=
  nread_at k gs n S num a m slot rd fd DL FL BL false w hS hrd hfd hDL hFL hsl ha (by simpa using hok) hBL


end Go.Proofs.Ytccccpadnaocfaa

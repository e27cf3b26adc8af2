/-
  The law SlotsApart.
-/
import Derived.Test.YtkepfigoeaheaaaSlotLib
namespace Go.Proofs.Ytkepfigoeaheaaa
open Go.RowKit
set_option linter.unusedVariables false
set_option linter.unusedSimpArgs false


set_option maxHeartbeats 16000000 in
set_option maxRecDepth 100000 in
theorem sapart_walk (ep : Nat) (hep : ep < 18446744073709551616) (da : List UInt8) (aa na : Int) (hda : da.length = 32) (ha1 : -9223372036854775808 ≤ aa) (ha2 : aa ≤ 9223372036854775807) (ha3 : -9223372036854775808 ≤ na) (ha4 : na ≤ 9223372036854775807)
    (db : List UInt8) (ab nb : Int) (hdb : db.length = 32) (hb1 : -9223372036854775808 ≤ ab) (hb2 : ab ≤ 9223372036854775807) (hb3 : -9223372036854775808 ≤ nb) (hb4 : nb ≤ 9223372036854775807) (w : World) :
    Calls Try.prog 7 #[.int .u64 (ep : Nat), .agg (refC da aa na).toArray, .agg (refC db ab nb).toArray] w fun e w' => e = .returned (.bool true) ∧ Below w.heap.size w w' := by
  obtain ⟨ra, hra⟩ : ∃ r : RefF, r = ⟨da, aa, na⟩ := ⟨_, rfl⟩
  obtain ⟨rb, hrb⟩ : ∃ r : RefF, r = ⟨db, ab, nb⟩ := ⟨_, rfl⟩
  have hwa : RefW ra := by rw [hra]; exact ⟨hda, ⟨ha1, ha2⟩, ⟨ha3, ha4⟩⟩
  have hwb : RefW rb := by rw [hrb]; exact ⟨hdb, ⟨hb1, hb2⟩, ⟨hb3, hb4⟩⟩
  obtain ⟨AL, hAL⟩ : ∃ z, z = rC ra := ⟨_, rfl⟩
  obtain ⟨BL, hBL⟩ : ∃ z, z = rC rb := ⟨_, rfl⟩
  have eA : refC da aa na = AL := by rw [hAL, hra]; rfl
  have eB : refC db ab nb = BL := by rw [hBL, hrb]; rfl
  rw [eA, eB]
  clear eA eB hra hrb hda hdb ha1 ha2 ha3 ha4 hb1 hb2 hb3 hb4
  obtain ⟨W1, hW1⟩ : ∃ z, z = w.alloc (.cells AL.toArray 26) := ⟨_, rfl⟩
  obtain ⟨W2, hW2⟩ : ∃ z, z = W1.alloc (.cells BL.toArray 26) := ⟨_, rfl⟩
  have hb1 : Below w.heap.size w W1 := by rw [hW1]; exact (Below.refl _ _).alloc (Nat.le_refl _) _
  have hb2 : Below W1.heap.size W1 W2 := by rw [hW2]; exact (Below.refl _ _).alloc (Nat.le_refl _) _
  have z1 : W1.heap.size = w.heap.size + 1 := by rw [hW1]; simp
  have hA : Arr W2 w.heap.size 26 AL := Arr.up (by rw [hW1]; exact Arr.new w _ _) hb2
  have hB : Arr W2 W1.heap.size 26 BL := by rw [hW2]; exact Arr.new W1 _ _
  have hb : Below w.heap.size w W2 := hb1.trans (hb2.mono (by omega))
  obtain ⟨ga, hga⟩ : ∃ z, w.heap.size = z := ⟨_, rfl⟩
  obtain ⟨gb, hgb⟩ : ∃ z, W1.heap.size = z := ⟨_, rfl⟩
  rw [hga] at hA
  rw [hgb] at hB
  have HW := Lib.hid (show W2 = (w.alloc (.cells AL.toArray 26)).alloc (.cells BL.toArray 26) by rw [hW2, hW1])
  have Hga := Lib.hid (show w.heap.size = ga ∧ w.heap.size + 1 = gb from ⟨hga, by omega⟩)
  have Hb0 := Lib.hid hb
  have HAn := Lib.hid (show (Try.prog.info? 26).map (·.size) = some AL.length by rw [hAL, rC_length hwa]; exact refSize)
  have HBn := Lib.hid (show (Try.prog.info? 26).map (·.size) = some BL.length by rw [hBL, rC_length hwb]; exact refSize)
  obtain ⟨ZL, hZL⟩ : ∃ z, z = refZ := ⟨_, rfl⟩
  have HAi := Lib.hid (show (Try.prog.info? 26).map (·.size) = some AL.toArray.size ∧ ZL.toArray.size = AL.toArray.size by rw [List.size_toArray, List.size_toArray, hAL, rC_length hwa, hZL]; exact ⟨refSize, rfl⟩)
  have HBi := Lib.hid (show (Try.prog.info? 26).map (·.size) = some BL.toArray.size ∧ ZL.toArray.size = BL.toArray.size by rw [List.size_toArray, List.size_toArray, hBL, rC_length hwb, hZL]; exact ⟨refSize, rfl⟩)
  have HA1 := Lib.hid (show AL.toArray.all (·.oneCell') = true by rw [hAL]; exact all_oneC (rC_one _))
  have HB1 := Lib.hid (show BL.toArray.all (·.oneCell') = true by rw [hBL]; exact all_oneC (rC_one _))
  have HZ0 := Lib.hid (fun w : World => show (zeroValue 26).run Try.prog w = .ok (.agg ZL.toArray) w by rw [hZL]; exact refZero w)
  obtain ⟨XA, hXA⟩ : ∃ z, z = Lib.byteCells ra.d := ⟨_, rfl⟩
  obtain ⟨XB, hXB⟩ : ∃ z, z = Lib.byteCells rb.d := ⟨_, rfl⟩
  have HXAn := Lib.hid (show (Try.prog.info? 24).map (·.size) = some XA.length by rw [hXA, Lib.byteCells_length, hwa.d]; exact digInfo)
  have HXBn := Lib.hid (show (Try.prog.info? 24).map (·.size) = some XB.length by rw [hXB, Lib.byteCells_length, hwb.d]; exact digInfo)
  have HXAr := Lib.hid (fun (w' : World) (h : Arr w' ga 26 AL) => show w'.rangeAt ga 0 XA from fun j v hj => by rw [h.cell]; exact rC_dig hwa.d hAL j v (by rw [← hXA]; exact hj))
  have HXBr := Lib.hid (fun (w' : World) (h : Arr w' gb 26 BL) => show w'.rangeAt gb 0 XB from fun j v hj => by rw [h.cell]; exact rC_dig hwb.d hBL j v (by rw [← hXB]; exact hj))
  have HwA := Lib.hid hwa
  have HwB := Lib.hid hwb
  have HAL := Lib.hid hAL
  have HBL := Lib.hid hBL
  have HXA := Lib.hid hXA
  have HXB := Lib.hid hXB
  have Hep := Lib.hid hep
  obtain ⟨qd, hqd⟩ : ∃ z, decide (ra.d = rb.d) = z := ⟨_, rfl⟩
  have Hqd := Lib.hid hqd
  have Heq := Lib.hid (fun w : World => show (Op.equalIn 10000 24 (.agg XA.toArray) (.agg XB.toArray)).run Try.prog w = .ok qd w by rw [← hqd]; exact dig_eqvS hwa.d hwb.d hXA hXB w)
  have HqA := Lib.hid (ref_eqvS hwa.d hwa.d hAL hAL rfl)
  have HqB := Lib.hid (ref_eqvS hwb.d hwb.d hBL hBL rfl)
  clear hwa hwb hAL hBL hXA hXB hqd hZL hW1 hW2 hb1 hb2 z1 hb hga hgb hep
  go_enter Try.func7, Try.ntmps7
  go_wp2_with fail
  rw [← HW.out, Hga.out.2, Hga.out.1]
  clear HW
  refine Calls.mono (speaks14_any W2) ?_
  rintro e w3 ⟨rfl, hb3⟩
  have HA3 := Lib.hid (hA.up hb3)
  have HB3 := Lib.hid (hB.up hb3)
  have Hb3 := Lib.hid (Hb0.out.trans (hb3.mono Hb0.out.size))
  have HA3r := Lib.hid (show w3.rangeAt ga 0 AL from HA3.out.range)
  clear hA hB hb3 Hb0
  have Hm := Lib.hid (may14_any ra HwA.out AL HAL.out w3)
  obtain ⟨ba, hba⟩ : ∃ z, okR ra = z := ⟨_, rfl⟩
  rw [hba] at Hm
  have Hba := Lib.hid hba
  clear hba
  go_wp2_with (first | ((with_reducible refine wpList_at 15 (by rfl) ?_); refine wpList_load_mid_ifC (by rfl) 26 _ rfl ga 0 rfl AL _ HA3r.out Try.underlying26 rfl HAn.out ?_))
  refine Calls.mono Hm.out ?_
  rintro e w4 ⟨rfl, hb4⟩
  have HA4 := Lib.hid (HA3.out.up hb4)
  have HB4 := Lib.hid (HB3.out.up hb4)
  have Hb4 := Lib.hid (Hb3.out.trans (hb4.mono Hb3.out.size))
  have HB4r := Lib.hid (show w4.rangeAt gb 0 BL from HB4.out.range)
  clear hb4 HA3 HB3 Hb3 HA3r Hm
  cases ba with
  | false =>
    go_wp2_with fail
    go_ret
    exact ⟨rfl, Hb4.out⟩
  | true =>
  have HokA := Lib.hid (okR_iff.1 Hba.out)
  have Hm := Lib.hid (may14_any rb HwB.out BL HBL.out w4)
  obtain ⟨bb, hbb⟩ : ∃ z, okR rb = z := ⟨_, rfl⟩
  rw [hbb] at Hm
  have Hbb := Lib.hid hbb
  clear hbb
  go_wp2_with (first | ((with_reducible refine wpList_at 19 (by rfl) ?_); refine wpList_load_mid_ifC (by rfl) 26 _ rfl gb 0 rfl BL _ HB4r.out Try.underlying26 rfl HBn.out ?_))
  refine Calls.mono Hm.out ?_
  rintro e w5 ⟨rfl, hb5⟩
  have HA5 := Lib.hid (HA4.out.up hb5)
  have HB5 := Lib.hid (HB4.out.up hb5)
  have Hb5 := Lib.hid (Hb4.out.trans (hb5.mono Hb4.out.size))
  clear hb5 HA4 HB4 Hb4 HB4r Hm
  cases bb with
  | false =>
    go_wp2_with fail
    go_ret
    exact ⟨rfl, Hb5.out⟩
  | true =>
  have HokB := Lib.hid (okR_iff.1 Hbb.out)
  have HXA5 := Lib.hid (HXAr.out w5 HA5.out)
  have HXB5 := Lib.hid (HXBr.out w5 HB5.out)
  cases qd with
  | true =>
    go_wp2_with (first
      | ((with_reducible refine wpList_at 25 (by rfl) ?_); refine wpList_load_mid_ifC (by rfl) 24 _ rfl ga 0 rfl XA _ HXA5.out Try.underlying24 rfl HXAn.out ?_)
      | ((with_reducible refine wpList_at 27 (by rfl) ?_); refine wpList_load_mid_ifC (by rfl) 24 _ rfl gb 0 rfl XB _ HXB5.out Try.underlying24 rfl HXBn.out ?_)
      | ((with_reducible refine wpList_at 28 (by rfl) ?_); refine wpList_eql_ifC (by rfl) 24 _ _ _ rfl XA XB rfl rfl true Heq.out gtDg ?_))
    go_ret
    exact ⟨rfl, Hb5.out⟩
  | false =>
  have Hne := Lib.hid (show ra.d ≠ rb.d from of_decide_eq_false Hqd.out)
  go_wp2_with (first
    | ((with_reducible refine wpList_at 25 (by rfl) ?_); refine wpList_load_mid_ifC (by rfl) 24 _ rfl ga 0 rfl XA _ HXA5.out Try.underlying24 rfl HXAn.out ?_)
    | ((with_reducible refine wpList_at 27 (by rfl) ?_); refine wpList_load_mid_ifC (by rfl) 24 _ rfl gb 0 rfl XB _ HXB5.out Try.underlying24 rfl HXBn.out ?_)
    | ((with_reducible refine wpList_at 28 (by rfl) ?_); refine wpList_eql_ifC (by rfl) 24 _ _ _ rfl XA XB rfl rfl false Heq.out gtDg ?_))
  refine Calls.mono (show Calls Try.prog 20 #[.int .i64 4] w5 (NewPost 4 w5) from new_yes 4 w5 (by omega) (by omega)) ?_
  rintro e w6 ⟨k, rfl, hD6, hb6⟩
  obtain ⟨F, hF⟩ : ∃ F, F = newF (fun _ => False) w5 w6 := ⟨_, rfl⟩
  have hK6 := sdk_new hD6
  rw [← hF] at hK6
  have HF := Lib.hid (show ∀ b, F b → w5.heap.size ≤ b ∧ b < w6.heap.size from fun b hb => by rw [hF] at hb; exact hb.elim (fun h => h.elim) id)
  obtain ⟨S, hS⟩ : ∃ S, S = List.replicate 4 zero64 := ⟨_, rfl⟩
  rw [← hS] at hK6
  have HS := Lib.hid hS
  have HK6 := Lib.hid hK6
  have Hlt := Lib.hid (show ga < w5.heap.size ∧ gb < w5.heap.size from ⟨HA5.out.lt, HB5.out.lt⟩)
  have HA6 := Lib.hid (HA5.out.up hb6)
  have HB6 := Lib.hid (HB5.out.up hb6)
  have Hb6 := Lib.hid (Hb5.out.trans (hb6.mono Hb5.out.size))
  have Hs56 := Lib.hid hb6.size
  have HA6r := Lib.hid (show w6.rangeAt ga 0 AL from HA6.out.range)
  have Hw5 := Lib.hid Hb5.out.size
  have Hwr := Lib.hid (swr_any F k 4 S [] w6 HK6.out (by omega) ep Hep.out ra HwA.out AL HAL.out (by simp))
  clear hD6 hb6 hF hK6 hS HA5 HB5 Hb5 HXA5 HXB5
  go_wp2_with (first | ((with_reducible refine wpList_at 42 (by rfl) ?_); refine wpList_load_mid_ifC (by rfl) 26 _ rfl ga 0 rfl AL _ HA6r.out Try.underlying26 rfl HAn.out ?_))
  refine Calls.mono Hwr.out ?_
  rintro e w7 ⟨hO7, hres⟩
  obtain ⟨i1, hi1⟩ : ∃ i, ep % 2 = i := ⟨_, rfl⟩
  rw [hi1] at hres
  obtain ⟨rfl, hK7⟩ : e = .returned (.int .i64 0) ∧ SDk (newF F w6 w7) w7 k 4 (S.set i1 (layR ra)) ([] ++ [(i1, layR ra, false)]) := by
    rcases hres with ⟨_, he, hk⟩ | ⟨h, _⟩
    · exact ⟨he, hk⟩
    · exact absurd HokA.out h
  have HF7 := Lib.hid (show ∀ b, newF F w6 w7 b → w5.heap.size ≤ b from fun b hb => hb.elim (fun h => (HF.out b h).1) (fun h => by have := Hs56.out; omega))
  have HA7 := Lib.hid (HA6.out.only hO7 (fun h => by have := (HF.out ga h).1; have := Hlt.out; omega))
  have HB7 := Lib.hid (HB6.out.only hO7 (fun h => by have := (HF.out gb h).1; have := Hlt.out; omega))
  have Hb7 := Lib.hid (show Below w.heap.size w w7 from Hb6.out.trans (hO7.below Hb6.out.size (fun b hb => Nat.le_trans Hw5.out (HF.out b hb).1)))
  have HK7 := Lib.hid hK7
  have HB7r := Lib.hid (show w7.rangeAt gb 0 BL from HB7.out.range)
  obtain ⟨e2, he2⟩ : ∃ e, (ep + 1) % 18446744073709551616 = e := ⟨_, rfl⟩
  have hew : IntKind.u64.wrap ((ep : Int) + 1) = (e2 : Int) := by
    have : IntKind.u64.wrap ((ep : Int) + 1) = ((ep : Int) + 1) % 18446744073709551616 := by simp [IntKind.wrap_u64]
    rw [this]; omega
  have He2 := Lib.hid (show e2 < 18446744073709551616 ∧ e2 % 2 = 1 - i1 ∧ i1 < 2 from by have := Hep.out; omega)
  have q0 : ((0 : Int) != 0) = false := by simp
  have Hwr2 := Lib.hid (swr_any _ k 4 _ _ w7 HK7.out (by omega) e2 He2.out.1 rb HwB.out BL HBL.out (by simp))
  have Hi1 := Lib.hid hi1
  clear hO7 hres hK7 HA6 HB6 Hb6 HA6r Hwr hi1 he2
  go_wp2_with (first | ((with_reducible refine wpList_at 49 (by rfl) ?_); refine wpList_load_mid_ifC (by rfl) 26 _ rfl gb 0 rfl BL _ HB7r.out Try.underlying26 rfl HBn.out ?_))
  refine Calls.mono Hwr2.out ?_
  rintro e w8 ⟨hO8, hres⟩
  rw [He2.out.2.1] at hres
  obtain ⟨S2, hS2⟩ : ∃ S2, (S.set i1 (layR ra)).set (1 - i1) (layR rb) = S2 := ⟨_, rfl⟩
  rw [hS2] at hres
  obtain ⟨rfl, F8, W8, hF8, hK8⟩ : e = .returned (.int .i64 0) ∧ ∃ F8 W8, (∀ b, F8 b → w5.heap.size ≤ b) ∧ SDk F8 w8 k 4 S2 W8 := by
    rcases hres with ⟨_, he, hk⟩ | ⟨h, _⟩
    · exact ⟨he, _, _, fun b hb => hb.elim (HF7.out b) (fun h => by have := Hb7.out.size; have h7 := HK7.out.facts; have := HF7.out k h7.2.2.2.2; have := h7.2.2.2.1; omega), hk⟩
    · exact absurd HokB.out h
  have HA8 := Lib.hid (HA7.out.only hO8 (fun h => by have := HF7.out ga h; have := Hlt.out; omega))
  have HB8 := Lib.hid (HB7.out.only hO8 (fun h => by have := HF7.out gb h; have := Hlt.out; omega))
  have Hb8 := Lib.hid (show Below w.heap.size w w8 from Hb7.out.trans (hO8.below Hb7.out.size (fun b hb => Nat.le_trans Hw5.out (HF7.out b hb))))
  have HK8 := Lib.hid hK8
  have hSa : S2.getD i1 [] = layR ra := by rw [← hS2, getD_set_other _ _ (by have := He2.out; omega), getD_set_same _ _ (by rw [HS.out]; simp; have := He2.out; omega)]
  have hSb : S2.getD (1 - i1) [] = layR rb := by rw [← hS2, getD_set_same _ _ (by rw [List.length_set, HS.out]; simp; have := He2.out; omega)]
  have Hfa := Lib.hid (show (ra, 0) = findF S2 ra.d from (find_there HokA.out HwA.out.d i1 He2.out.2.2 hSa (fun e1 h => by
    subst e1
    rw [show (0 : Nat) = 1 - 1 from rfl, hSb, tell_lay HokB.out HwB.out.d] at h
    exact Hne.out h.2.symm)).symm)
  have Hfb := Lib.hid (show (rb, 0) = findF S2 rb.d from (find_there HokB.out HwB.out.d (1 - i1) (by omega) hSb (fun e1 h => by
    have e0 : i1 = 0 := by omega
    subst e0
    rw [hSa, tell_lay HokA.out HwA.out.d] at h
    exact Hne.out h.2)).symm)
  have HXA8 := Lib.hid (HXAr.out w8 HA8.out)
  have Hf := Lib.hid (sfind_any F8 k 4 S2 W8 w8 HK8.out (by omega) ra.d HwA.out.d XA HXA.out (ra, 0) Hfa.out AL HAL.out)
  clear hO8 hres hK8 HA7 HB7 Hb7 HK7 HB7r Hwr2 hew hSa hSb hS2
  go_wp2_with (first | ((with_reducible refine wpList_at 56 (by rfl) ?_); refine wpList_load_mid_ifC (by rfl) 24 _ rfl ga 0 rfl XA _ HXA8.out Try.underlying24 rfl HXAn.out ?_))
  refine Calls.mono Hf.out ?_
  rintro e w9 ⟨rfl, hb9⟩
  have HA9 := Lib.hid (HA8.out.up hb9)
  have HB9 := Lib.hid (HB8.out.up hb9)
  have HK9 := Lib.hid (HK8.out.up hb9)
  have Hb9 := Lib.hid (Hb8.out.trans (hb9.mono Hb8.out.size))
  obtain ⟨g9, hg9⟩ : ∃ z, z = w9.heap.size := ⟨_, rfl⟩
  have Hg9 := Lib.hid hg9
  clear hb9 HA8 HB8 HK8 Hb8 HXA8 Hf hg9
  go_upto_region 11 with (first | (refine wpList_allocZC rfl 26 rfl ZL.toArray (HZ0.out _) ?_) | (change wpList _ _ _ _ _ (w9.alloc (.cells ZL.toArray 26)); refine wpList_store_row rfl _ _ _ rfl w9.heap.size AL.toArray rfl rfl 26 ZL.toArray (heap_alloc_new w9 _) HAi.out.1 HAi.out.2 HA1.out ?_; obtain ⟨w10, hw10⟩ : ∃ x, x = (w9.alloc (.cells ZL.toArray 26)).setRow w9.heap.size AL.toArray := ⟨_, rfl⟩; rw [← hw10]; obtain ⟨hP10, hb10⟩ := alloc_row w9 26 ZL.toArray AL; rw [← hw10] at hP10 hb10; clear hw10))
  rw [← Hg9.out] at hP10 ⊢
  have HA10 := Lib.hid (HA9.out.up hb10)
  have HB10 := Lib.hid (HB9.out.up hb10)
  have HK10 := Lib.hid (HK9.out.up hb10)
  have Hb10 := Lib.hid (Hb9.out.trans (hb10.mono Hb9.out.size))
  have HXB10 := Lib.hid (HXBr.out w10 HB10.out)
  have HP10 := Lib.hid hP10
  have Hf := Lib.hid (sfind_any F8 k 4 S2 W8 w10 HK10.out (by omega) rb.d HwB.out.d XB HXB.out (rb, 0) Hfb.out BL HBL.out)
  clear hb10 HA9 HB9 HK9 Hb9 hP10
  go_wp2_with (first | ((with_reducible refine wpList_at 63 (by rfl) ?_); refine wpList_load_mid_ifC (by rfl) 24 _ rfl gb 0 rfl XB _ HXB10.out Try.underlying24 rfl HXBn.out ?_))
  refine Calls.mono Hf.out ?_
  rintro e w11 ⟨rfl, hb11⟩
  have HA11 := Lib.hid (HA10.out.up hb11)
  have HB11 := Lib.hid (HB10.out.up hb11)
  have HP11 := Lib.hid (HP10.out.up hb11)
  have Hb11 := Lib.hid (Hb10.out.trans (hb11.mono Hb10.out.size))
  obtain ⟨g11, hg11⟩ : ∃ z, z = w11.heap.size := ⟨_, rfl⟩
  have Hg11 := Lib.hid hg11
  clear hb11 HA10 HB10 HK10 Hb10 HXB10 HP10 Hf hg11
  go_upto_region 12 with (first | (refine wpList_allocZC rfl 26 rfl ZL.toArray (HZ0.out _) ?_) | (change wpList _ _ _ _ _ (w11.alloc (.cells ZL.toArray 26)); refine wpList_store_row rfl _ _ _ rfl w11.heap.size BL.toArray rfl rfl 26 ZL.toArray (heap_alloc_new w11 _) HBi.out.1 HBi.out.2 HB1.out ?_; obtain ⟨w12, hw12⟩ : ∃ x, x = (w11.alloc (.cells ZL.toArray 26)).setRow w11.heap.size BL.toArray := ⟨_, rfl⟩; rw [← hw12]; obtain ⟨hP12, hb12⟩ := alloc_row w11 26 ZL.toArray BL; rw [← hw12] at hP12 hb12; clear hw12))
  rw [← Hg11.out] at hP12 ⊢
  have HA12 := Lib.hid (show w12.rangeAt ga 0 AL from (HA11.out.up hb12).range)
  have HB12 := Lib.hid (show w12.rangeAt gb 0 BL from (HB11.out.up hb12).range)
  have HP12a := Lib.hid (show w12.rangeAt g9 0 AL from (HP11.out.up hb12).range)
  have HP12b := Lib.hid (show w12.rangeAt g11 0 BL from hP12.range)
  have Hb12 := Lib.hid (Hb11.out.trans (hb12.mono Hb11.out.size))
  have q2 : ((0 : Int) == 0) = true := by simp
  clear hb12 HA11 HB11 HP11 Hb11 hP12 q0
  go_wp2_with (first
    | ((with_reducible refine wpList_at 74 (by rfl) ?_); refine wpList_load_mid_ifC (by rfl) 26 _ rfl g9 0 rfl AL _ HP12a.out Try.underlying26 rfl HAn.out ?_)
    | ((with_reducible refine wpList_at 75 (by rfl) ?_); refine wpList_load_mid_ifC (by rfl) 26 _ rfl ga 0 rfl AL _ HA12.out Try.underlying26 rfl HAn.out ?_)
    | ((with_reducible refine wpList_at 76 (by rfl) ?_); refine wpList_eql_ifC (by rfl) 26 _ _ _ rfl AL AL rfl rfl true HqA.out gtR ?_)
    | ((with_reducible refine wpList_at 79 (by rfl) ?_); refine wpList_load_mid_ifC (by rfl) 26 _ rfl g11 0 rfl BL _ HP12b.out Try.underlying26 rfl HBn.out ?_)
    | ((with_reducible refine wpList_at 80 (by rfl) ?_); refine wpList_load_mid_ifC (by rfl) 26 _ rfl gb 0 rfl BL _ HB12.out Try.underlying26 rfl HBn.out ?_)
    | ((with_reducible refine wpList_at 81 (by rfl) ?_); refine wpList_eql_ifC (by rfl) 26 _ _ _ rfl BL BL rfl rfl true HqB.out gtR ?_))
  go_ret
  exact ⟨rfl, Hb12.out⟩

end Go.Proofs.Ytkepfigoeaheaaa

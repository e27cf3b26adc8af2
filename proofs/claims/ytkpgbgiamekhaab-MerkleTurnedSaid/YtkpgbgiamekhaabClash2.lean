/-
  The law's clash, of more rows.
-/
import Derived.Test.YtkpgbgiamekhaabClash
import Derived.Deep.DeepCutAuto
import Derived.Deep.CutBlock
namespace Go.Proofs.Ytkpgbgiamekhaab
open Go.RowKit
set_option linter.unusedVariables false
set_option linter.unusedSimpArgs false

set_option maxHeartbeats 40000000 in
set_option maxRecDepth 100000 in
theorem clash_two (n : Nat) (h2 : 2 ≤ n) (hn6 : n ≤ 1000000) (ih : ∀ m, m < n → 1 ≤ m → ClashC m) : ClashC n := by
  intro rs A c a row ds Ar lr cr Ap m cp w hn ha hc hcm63 hr hrs hrl hr0 hlc hcm hbs hds hmc hcp hdg hne hled
  have hsp := splitF_facts h2
  have hfirst := fun w => rsplit_any n h2 (by omega) w
  have hlen := leadF_ok n a row ds
  rw [hled, hds] at hlen
  have hmp : m = plenF n a := of_decide_eq_true hlen.symm
  have hpos : 0 < m := by
    by_cases hb : a < splitF n
    · have := plenF_lo h2 hb; omega
    · have := plenF_hi h2 (show splitF n ≤ a by omega); omega
  have hlo := fun h => leadF_lo (n := n) (a := a) (row := row) (ds := ds) h2 (by omega) h
  have hhi := fun h => leadF_hi (n := n) (a := a) (row := row) (ds := ds) h2 (by omega) h
  rw [hds] at hlo hhi
  obtain ⟨K, hK⟩ : ∃ K, splitF n = K := ⟨_, rfl⟩
  rw [hK] at hsp hfirst hlo hhi
  obtain ⟨hK0, hKn, _⟩ := hsp
  obtain ⟨q, hq⟩ : ∃ q, m - 1 = q := ⟨_, rfl⟩
  rw [hq] at hlo hhi
  have hqm : q < m := by omega
  have hqc : q ≤ cp := by omega
  have hqI : (m : Int) - 1 = (q : Int) := by omega
  have hqn : decide ((q : Int) < 0) = false := by simp
  obtain ⟨b, off, rfl, hb, hdd⟩ := hdg (by omega)
  obtain ⟨hpl, hrg⟩ := hdd q (by omega)
  clear hdd
  obtain ⟨pv, hpv⟩ : ∃ pv, ds.getD q [] = pv := ⟨_, rfl⟩
  rw [hpv] at hlo hhi hpl hrg
  obtain ⟨PL, hPL⟩ : ∃ V, V = Lib.byteCells (pv) := ⟨_, rfl⟩
  have HPLl := Lib.hid (show PL.length = 32 by rw [hPL, Lib.byteCells_length]; exact hpl)
  have HPLi := Lib.hid (show (Try.prog.info? 26).map (·.size) = some PL.toArray.size by rw [List.size_toArray, HPLl.out]; exact digInfo)
  have HPL1 := Lib.hid (show PL.toArray.all (·.oneCell') = true by rw [hPL]; exact dig_one _)
  have HPLs := Lib.hid (show (Lib.byteCells zeros).toArray.size = PL.toArray.size by rw [List.size_toArray, List.size_toArray, HPLl.out]; rfl)
  have HPL := Lib.hid hPL
  clear hPL
  obtain ⟨LL, hLL⟩ : ∃ V, V = Lib.byteCells (rootF (rs.take K)) := ⟨_, rfl⟩
  have HLLl := Lib.hid (show LL.length = 32 by rw [hLL, Lib.byteCells_length]; exact rootF_length _)
  have HLLi := Lib.hid (show (Try.prog.info? 26).map (·.size) = some LL.toArray.size by rw [List.size_toArray, HLLl.out]; exact digInfo)
  have HLL1 := Lib.hid (show LL.toArray.all (·.oneCell') = true by rw [hLL]; exact dig_one _)
  have HLLs := Lib.hid (show (Lib.byteCells zeros).toArray.size = LL.toArray.size by rw [List.size_toArray, List.size_toArray, HLLl.out]; rfl)
  have HLL := Lib.hid hLL
  clear hLL
  obtain ⟨RR, hRR⟩ : ∃ V, V = Lib.byteCells (rootF (rs.drop K)) := ⟨_, rfl⟩
  have HRRl := Lib.hid (show RR.length = 32 by rw [hRR, Lib.byteCells_length]; exact rootF_length _)
  have HRRi := Lib.hid (show (Try.prog.info? 26).map (·.size) = some RR.toArray.size by rw [List.size_toArray, HRRl.out]; exact digInfo)
  have HRR1 := Lib.hid (show RR.toArray.all (·.oneCell') = true by rw [hRR]; exact dig_one _)
  have HRRs := Lib.hid (show (Lib.byteCells zeros).toArray.size = RR.toArray.size by rw [List.size_toArray, List.size_toArray, HRRl.out]; rfl)
  have HRR := Lib.hid hRR
  clear hRR
  have HPLz := Lib.hid (show (Try.prog.info? 26).map (·.size) = some PL.length by rw [HPLl.out]; exact digInfo)
  have HLLz := Lib.hid (show (Try.prog.info? 26).map (·.size) = some LL.length by rw [HLLl.out]; exact digInfo)
  have HRRz := Lib.hid (show (Try.prog.info? 26).map (·.size) = some RR.length by rw [HRRl.out]; exact digInfo)
  rw [← HPL.out] at hrg
  obtain ⟨blk, off0, rfl, hblk, hrow⟩ := hrs (by omega)
  clear hrow
  have Htq := Lib.hid (show (ds.take q).length = q by rw [List.length_take]; omega)
  have Hlk := Lib.hid (show (rs.take K).length = K by rw [List.length_take]; omega)
  have Hld := Lib.hid (show (rs.drop K).length = n - K by rw [List.length_drop, hn])
  have Hrk := Lib.hid (show ∀ r ∈ rs.take K, r.length ≤ 300 from fun r h => hr r (List.mem_of_mem_take h))
  have Hrd := Lib.hid (show ∀ r ∈ rs.drop K, r.length ≤ 300 from fun r h => hr r (List.mem_of_mem_drop h))
  have hKrs : K < rs.length := by omega
  have hKc : K ≤ c := by omega
  have hNc : n - K ≤ c - K := by omega
  have hnec : ¬ c = K := by omega
  have hKn1 : K ≤ n := by omega
  have hd1 : ((n : Int) == 1) = false := by rw [beq_eq_false_iff_ne]; omega
  have Hn := Lib.hid hn
  have Hr := Lib.hid hr
  have HF := Lib.hid hfirst
  have Hlo := Lib.hid hlo
  have Hhi := Lib.hid hhi
  have Hled := Lib.hid hled
  have HneLo := Lib.hid (fun (h : a < K) (h' : pv = rootF (rs.drop K)) => ne_lo h2 hn hK hds hpos hq hpv hne h h')
  have HneHi := Lib.hid (fun (h : K ≤ a) (h' : pv = rootF (rs.take K)) => ne_hi h2 hn hK hds hpos hq hpv hne h h')
  have hrl := Lib.hid hrl
  have hds := Lib.hid hds
  have hgt := gt32
  clear hn hr hfirst hlo hhi hlen hmp hq hpv hK hled hne
  go_enter Try.func22, Try.ntmps22
  go_wp2_with fail
  refine Calls.mono (HF.out w) ?_
  rintro e w1 ⟨rfl, rfl⟩
  clear hqI
  go_upto_region 7 with fail
  go_cut [11, 12] (fun s11 s12 wx => ∃ g11 g12 : Nat, s11 = .pointer (some ⟨g11, 0, none⟩) ∧ s12 = .pointer (some ⟨g12, 0, none⟩) ∧ Arr wx g11 26 LL ∧ Arr wx g12 26 RR ∧ Below w1.heap.size w1 wx)
  case first =>
    refine wp_region_held_drew (S := fun _ => True) (by kernel_rfl) trivial (fun hHeld => ?_)
    have hB9 : Below w1.heap.size w1 w1.drew := below_drew _ _
    obtain ⟨w9, hw9⟩ : ∃ x, x = w1.drew := ⟨_, rfl⟩
    rw [← hw9] at hB9 ⊢
    try rw [← hw9] at hHeld
    clear hw9
    refine anyH_take (i := 0) (v := .slice (some ⟨blk, off0, none⟩) n c) (some 45) rfl rfl (by kernel_rfl) (by kernel_rfl) (by kernel_rfl) (fun _ _ _ h => h) (Or.inl ⟨by rfl, fun _ hw => by rfl⟩) (by assumption) ?_
    simp only [Act.put, List.setIfInBounds_toArray, List.set_cons_zero, List.set_cons_succ]
    refine anyH_take (i := 1) (v := .int .i64 (K : Nat)) (some 46) rfl rfl (by kernel_rfl) (by kernel_rfl) (by kernel_rfl) (fun _ _ _ h => h) (Or.inl ⟨by rfl, fun _ hw => by rfl⟩) (by assumption) ?_
    simp only [Act.put, List.setIfInBounds_toArray, List.set_cons_zero, List.set_cons_succ]
    refine anyH_take (i := 2) (v := .slice (some ⟨blk, off0, none⟩) K c) (some 47) rfl rfl (by kernel_rfl) (by kernel_rfl) (by kernel_rfl) (fun _ _ _ h => h) (Or.inl ⟨by rfl, fun _ hw => by go_simp⟩) (by assumption) ?_
    simp only [Act.put, List.setIfInBounds_toArray, List.set_cons_zero, List.set_cons_succ]
    refine anyH_take (i := 4) (v := .slice (some ⟨blk, off0, none⟩) n c) (some 49) rfl rfl (by kernel_rfl) (by kernel_rfl) (by kernel_rfl) (fun _ _ _ h => h) (Or.inl ⟨by rfl, fun _ hw => by rfl⟩) (by assumption) ?_
    simp only [Act.put, List.setIfInBounds_toArray, List.set_cons_zero, List.set_cons_succ]
    refine anyH_take (i := 5) (v := .int .i64 (K : Nat)) (some 50) rfl rfl (by kernel_rfl) (by kernel_rfl) (by kernel_rfl) (fun _ _ _ h => h) (Or.inl ⟨by rfl, fun _ hw => by rfl⟩) (by assumption) ?_
    simp only [Act.put, List.setIfInBounds_toArray, List.set_cons_zero, List.set_cons_succ]
    refine anyH_take (i := 6) (v := .slice (some ⟨blk, off0 + K, none⟩) (n - K) (c - K)) (some 51) rfl rfl (by kernel_rfl) (by kernel_rfl) (by kernel_rfl) (fun _ _ _ h => h) (Or.inl ⟨by rfl, fun _ hw => by go_simp⟩) (by assumption) ?_
    simp only [Act.put, List.setIfInBounds_toArray, List.set_cons_zero, List.set_cons_succ]
    refine wpAnyH_ready (rs := [3, 8, 9]) (by kernel_rfl) (by simp) ?_
    refine AllReadyH.cons rfl (fun KC hKC => ?_) (AllReadyH.cons rfl (fun KC hKC => ?_) (AllReadyH.cons rfl (fun KC hKC => ?_) AllReadyH.nil))
    · go_simp
      go_at_call 15
      refine Calls.mono (rroot_at (rs.take K) LL _ K c _ Hlk.out HLL.out (by omega) hKc hcm63 Hrk.out (((hrs.below hB9 (Nat.le_refl _)).take K).more hB9.size)) ?_
      rintro e w21 ⟨rfl, hb21⟩
      have hB21 := hB9.trans (hb21.mono hB9.size)
      go_wp2_with fail
      refine hKC.out _ _ trivial (fun hHeld21 => ?_)
      clear hKC KC
      try simp only [Act.put, List.setIfInBounds_toArray, List.set_cons_zero, List.set_cons_succ]
      refine wpAnyH_ready (rs := [7, 8, 9]) (by kernel_rfl) (by simp) ?_
      refine AllReadyH.cons rfl (fun KC hKC => ?_) (AllReadyH.cons rfl (fun KC hKC => ?_) (AllReadyH.cons rfl (fun KC hKC => ?_) AllReadyH.nil))
      · go_simp
        go_at_call 15
        refine Calls.mono (rroot_at (rs.drop K) RR _ (n - K) (c - K) _ Hld.out HRR.out (by omega) hNc (by omega) Hrd.out (((hrs.below hB21 (Nat.le_refl _)).drop hKrs).more hB21.size)) ?_
        rintro e w22 ⟨rfl, hb22⟩
        have hB22 := hB21.trans (hb22.mono hB21.size)
        go_wp2_with fail
        refine hKC.out _ _ trivial (fun hHeld22 => ?_)
        clear hKC KC
        try simp only [Act.put, List.setIfInBounds_toArray, List.set_cons_zero, List.set_cons_succ]
        refine wpAnyH_ready (rs := [8, 9]) (by kernel_rfl) (by simp) ?_
        refine AllReadyH.cons rfl (fun KC hKC => ?_) (AllReadyH.cons rfl (fun KC hKC => ?_) AllReadyH.nil)
        · go_simp
          refine hKC.out _ _ trivial (fun hHeld23 => ?_)
          clear hKC KC
          try simp only [Act.put, List.setIfInBounds_toArray, List.set_cons_zero, List.set_cons_succ]
          change wpAnyH _ _ _ _ _ _ _ _ (w22.alloc (.cells (Lib.byteCells zeros).toArray 26))
          obtain ⟨g23, hg23⟩ : ∃ x, x = w22.heap.size := ⟨_, rfl⟩
          have N23 := Arr.new w22 26 (Lib.byteCells zeros)
          have hb23 : Below w22.heap.size w22 (w22.alloc (.cells (Lib.byteCells zeros).toArray 26)) := (Below.refl _ _).alloc (Nat.le_refl _) _
          have hwg23 : w1.heap.size ≤ g23 := by have := hB22.size; omega
          obtain ⟨w23, hw23⟩ : ∃ x, x = w22.alloc (.cells (Lib.byteCells zeros).toArray 26) := ⟨_, rfl⟩
          rw [← hw23] at hb23 N23 ⊢
          have hB23 := hB22.trans (hb23.mono hB22.size)
          rw [← hg23] at N23
          try rw [← hg23]
          clear hw23 hg23
          refine wpAnyH_ready (rs := [9]) (by kernel_rfl) (by simp) ?_
          refine AllReadyH.cons rfl (fun KC hKC => ?_) AllReadyH.nil
          go_simp
          refine hKC.out _ _ trivial (fun hHeld24 => ?_)
          clear hKC KC
          try simp only [Act.put, List.setIfInBounds_toArray, List.set_cons_zero, List.set_cons_succ]
          change wpAnyH _ _ _ _ _ _ _ _ (w23.alloc (.cells (Lib.byteCells zeros).toArray 26))
          obtain ⟨g24, hg24⟩ : ∃ x, x = w23.heap.size := ⟨_, rfl⟩
          have N24 := Arr.new w23 26 (Lib.byteCells zeros)
          have hb24 : Below w23.heap.size w23 (w23.alloc (.cells (Lib.byteCells zeros).toArray 26)) := (Below.refl _ _).alloc (Nat.le_refl _) _
          have hdp24 : g23 ≠ g24 := by have := Arr.lt N23; omega
          have hwg24 : w1.heap.size ≤ g24 := by have := hB23.size; omega
          obtain ⟨w24, hw24⟩ : ∃ x, x = w23.alloc (.cells (Lib.byteCells zeros).toArray 26) := ⟨_, rfl⟩
          rw [← hw24] at hb24 N24 ⊢
          have Fp24 := Arr.up N23 hb24
          clear N23
          have hB24 := hB23.trans (hb24.mono hB23.size)
          rw [← hg24] at N24
          try rw [← hg24]
          clear hw24 hg24
          refine wpAnyH_ready (rs := [10]) (by kernel_rfl) (by simp) ?_
          refine AllReadyH.cons rfl (fun KC hKC => ?_) AllReadyH.nil
          rw [if_pos (by rfl)]
          obtain ⟨hth25, hs25, ho25⟩ := put_arr Fp24 (show (Lib.byteCells zeros).length = LL.length by rw [HLLl.out]; rfl)
          refine wp_store_mid 26 _ _ rfl g23 0 LL.toArray rfl rfl (by rw [List.size_toArray]; exact hth25) HLLi.out HLL1.out ?_
          refine hKC.out _ _ trivial (fun hHeld25 => ?_)
          clear hKC KC
          try simp only [Act.put, List.setIfInBounds_toArray, List.set_cons_zero, List.set_cons_succ]
          try rw [show LL.toArray.toList = LL from rfl]
          have hB25 := hB24.trans (ho25.below hB24.size (by rintro j rfl; exact hwg23))
          have Fq25 := N24.only ho25 (show ¬ g24 = g23 by omega)
          obtain ⟨w25, hw25⟩ : ∃ x, x = w24.setCells g23 0 LL := ⟨_, rfl⟩
          rw [← hw25] at hB25 Fq25 hs25 ⊢
          clear hw25 ho25 hth25
          refine wpAnyH_ready (rs := [11]) (by kernel_rfl) (by simp) ?_
          refine AllReadyH.cons rfl (fun KC hKC => ?_) AllReadyH.nil
          rw [if_pos (by rfl)]
          obtain ⟨hth26, hs26, ho26⟩ := put_arr Fq25 (show (Lib.byteCells zeros).length = RR.length by rw [HRRl.out]; rfl)
          refine wp_store_mid 26 _ _ rfl g24 0 RR.toArray rfl rfl (by rw [List.size_toArray]; exact hth26) HRRi.out HRR1.out ?_
          refine hKC.out _ _ trivial (fun hHeld26 => ?_)
          clear hKC KC
          try simp only [Act.put, List.setIfInBounds_toArray, List.set_cons_zero, List.set_cons_succ]
          try rw [show RR.toArray.toList = RR from rfl]
          have hB26 := hB25.trans (ho26.below hB25.size (by rintro j rfl; exact hwg24))
          have Fp26 := hs25.only ho26 (show ¬ g23 = g24 by omega)
          obtain ⟨w26, hw26⟩ : ∃ x, x = w25.setCells g24 0 RR := ⟨_, rfl⟩
          rw [← hw26] at hB26 Fp26 hs26 ⊢
          clear hw26 ho26 hth26
          refine wpAnyH_done (by kernel_rfl) ?_ _
          clear hHeld
          go_wp2_with fail
          go_meet
          exact ⟨_, _, rfl, rfl, Fp26, hs26, hB26⟩
        · go_simp
          refine hKC.out _ _ trivial (fun hHeld27 => ?_)
          clear hKC KC
          try simp only [Act.put, List.setIfInBounds_toArray, List.set_cons_zero, List.set_cons_succ]
          change wpAnyH _ _ _ _ _ _ _ _ (w22.alloc (.cells (Lib.byteCells zeros).toArray 26))
          obtain ⟨g27, hg27⟩ : ∃ x, x = w22.heap.size := ⟨_, rfl⟩
          have N27 := Arr.new w22 26 (Lib.byteCells zeros)
          have hb27 : Below w22.heap.size w22 (w22.alloc (.cells (Lib.byteCells zeros).toArray 26)) := (Below.refl _ _).alloc (Nat.le_refl _) _
          have hwg27 : w1.heap.size ≤ g27 := by have := hB22.size; omega
          obtain ⟨w27, hw27⟩ : ∃ x, x = w22.alloc (.cells (Lib.byteCells zeros).toArray 26) := ⟨_, rfl⟩
          rw [← hw27] at hb27 N27 ⊢
          have hB27 := hB22.trans (hb27.mono hB22.size)
          rw [← hg27] at N27
          try rw [← hg27]
          clear hw27 hg27
          refine wpAnyH_ready (rs := [8]) (by kernel_rfl) (by simp) ?_
          refine AllReadyH.cons rfl (fun KC hKC => ?_) AllReadyH.nil
          go_simp
          refine hKC.out _ _ trivial (fun hHeld28 => ?_)
          clear hKC KC
          try simp only [Act.put, List.setIfInBounds_toArray, List.set_cons_zero, List.set_cons_succ]
          change wpAnyH _ _ _ _ _ _ _ _ (w27.alloc (.cells (Lib.byteCells zeros).toArray 26))
          obtain ⟨g28, hg28⟩ : ∃ x, x = w27.heap.size := ⟨_, rfl⟩
          have N28 := Arr.new w27 26 (Lib.byteCells zeros)
          have hb28 : Below w27.heap.size w27 (w27.alloc (.cells (Lib.byteCells zeros).toArray 26)) := (Below.refl _ _).alloc (Nat.le_refl _) _
          have hdq28 : g27 ≠ g28 := by have := Arr.lt N27; omega
          have hwg28 : w1.heap.size ≤ g28 := by have := hB27.size; omega
          obtain ⟨w28, hw28⟩ : ∃ x, x = w27.alloc (.cells (Lib.byteCells zeros).toArray 26) := ⟨_, rfl⟩
          rw [← hw28] at hb28 N28 ⊢
          have Fq28 := Arr.up N27 hb28
          clear N27
          have hB28 := hB27.trans (hb28.mono hB27.size)
          rw [← hg28] at N28
          try rw [← hg28]
          clear hw28 hg28
          refine wpAnyH_ready (rs := [10]) (by kernel_rfl) (by simp) ?_
          refine AllReadyH.cons rfl (fun KC hKC => ?_) AllReadyH.nil
          rw [if_pos (by rfl)]
          obtain ⟨hth29, hs29, ho29⟩ := put_arr N28 (show (Lib.byteCells zeros).length = LL.length by rw [HLLl.out]; rfl)
          refine wp_store_mid 26 _ _ rfl g28 0 LL.toArray rfl rfl (by rw [List.size_toArray]; exact hth29) HLLi.out HLL1.out ?_
          refine hKC.out _ _ trivial (fun hHeld29 => ?_)
          clear hKC KC
          try simp only [Act.put, List.setIfInBounds_toArray, List.set_cons_zero, List.set_cons_succ]
          try rw [show LL.toArray.toList = LL from rfl]
          have hB29 := hB28.trans (ho29.below hB28.size (by rintro j rfl; exact hwg28))
          have Fq29 := Fq28.only ho29 (show ¬ g27 = g28 by omega)
          obtain ⟨w29, hw29⟩ : ∃ x, x = w28.setCells g28 0 LL := ⟨_, rfl⟩
          rw [← hw29] at hB29 Fq29 hs29 ⊢
          clear hw29 ho29 hth29
          refine wpAnyH_ready (rs := [11]) (by kernel_rfl) (by simp) ?_
          refine AllReadyH.cons rfl (fun KC hKC => ?_) AllReadyH.nil
          rw [if_pos (by rfl)]
          obtain ⟨hth30, hs30, ho30⟩ := put_arr Fq29 (show (Lib.byteCells zeros).length = RR.length by rw [HRRl.out]; rfl)
          refine wp_store_mid 26 _ _ rfl g27 0 RR.toArray rfl rfl (by rw [List.size_toArray]; exact hth30) HRRi.out HRR1.out ?_
          refine hKC.out _ _ trivial (fun hHeld30 => ?_)
          clear hKC KC
          try simp only [Act.put, List.setIfInBounds_toArray, List.set_cons_zero, List.set_cons_succ]
          try rw [show RR.toArray.toList = RR from rfl]
          have hB30 := hB29.trans (ho30.below hB29.size (by rintro j rfl; exact hwg27))
          have Fp30 := hs29.only ho30 (show ¬ g28 = g27 by omega)
          obtain ⟨w30, hw30⟩ : ∃ x, x = w29.setCells g27 0 RR := ⟨_, rfl⟩
          rw [← hw30] at hB30 Fp30 hs30 ⊢
          clear hw30 ho30 hth30
          refine wpAnyH_done (by kernel_rfl) ?_ _
          clear hHeld
          go_wp2_with fail
          go_meet
          exact ⟨_, _, rfl, rfl, Fp30, hs30, hB30⟩
      · go_simp
        refine hKC.out _ _ trivial (fun hHeld31 => ?_)
        clear hKC KC
        try simp only [Act.put, List.setIfInBounds_toArray, List.set_cons_zero, List.set_cons_succ]
        change wpAnyH _ _ _ _ _ _ _ _ (w21.alloc (.cells (Lib.byteCells zeros).toArray 26))
        obtain ⟨g31, hg31⟩ : ∃ x, x = w21.heap.size := ⟨_, rfl⟩
        have N31 := Arr.new w21 26 (Lib.byteCells zeros)
        have hb31 : Below w21.heap.size w21 (w21.alloc (.cells (Lib.byteCells zeros).toArray 26)) := (Below.refl _ _).alloc (Nat.le_refl _) _
        have hwg31 : w1.heap.size ≤ g31 := by have := hB21.size; omega
        obtain ⟨w31, hw31⟩ : ∃ x, x = w21.alloc (.cells (Lib.byteCells zeros).toArray 26) := ⟨_, rfl⟩
        rw [← hw31] at hb31 N31 ⊢
        have hB31 := hB21.trans (hb31.mono hB21.size)
        rw [← hg31] at N31
        try rw [← hg31]
        clear hw31 hg31
        refine wpAnyH_ready (rs := [7, 9]) (by kernel_rfl) (by simp) ?_
        refine AllReadyH.cons rfl (fun KC hKC => ?_) (AllReadyH.cons rfl (fun KC hKC => ?_) AllReadyH.nil)
        · go_simp
          go_at_call 15
          refine Calls.mono (rroot_at (rs.drop K) RR _ (n - K) (c - K) _ Hld.out HRR.out (by omega) hNc (by omega) Hrd.out (((hrs.below hB31 (Nat.le_refl _)).drop hKrs).more hB31.size)) ?_
          rintro e w32 ⟨rfl, hb32⟩
          have hB32 := hB31.trans (hb32.mono hB31.size)
          have Fp32 := Arr.up N31 hb32
          clear N31
          go_wp2_with fail
          refine hKC.out _ _ trivial (fun hHeld32 => ?_)
          clear hKC KC
          try simp only [Act.put, List.setIfInBounds_toArray, List.set_cons_zero, List.set_cons_succ]
          refine wpAnyH_ready (rs := [9]) (by kernel_rfl) (by simp) ?_
          refine AllReadyH.cons rfl (fun KC hKC => ?_) AllReadyH.nil
          go_simp
          refine hKC.out _ _ trivial (fun hHeld33 => ?_)
          clear hKC KC
          try simp only [Act.put, List.setIfInBounds_toArray, List.set_cons_zero, List.set_cons_succ]
          change wpAnyH _ _ _ _ _ _ _ _ (w32.alloc (.cells (Lib.byteCells zeros).toArray 26))
          obtain ⟨g33, hg33⟩ : ∃ x, x = w32.heap.size := ⟨_, rfl⟩
          have N33 := Arr.new w32 26 (Lib.byteCells zeros)
          have hb33 : Below w32.heap.size w32 (w32.alloc (.cells (Lib.byteCells zeros).toArray 26)) := (Below.refl _ _).alloc (Nat.le_refl _) _
          have hdp33 : g31 ≠ g33 := by have := Arr.lt Fp32; omega
          have hwg33 : w1.heap.size ≤ g33 := by have := hB32.size; omega
          obtain ⟨w33, hw33⟩ : ∃ x, x = w32.alloc (.cells (Lib.byteCells zeros).toArray 26) := ⟨_, rfl⟩
          rw [← hw33] at hb33 N33 ⊢
          have Fp33 := Arr.up Fp32 hb33
          clear Fp32
          have hB33 := hB32.trans (hb33.mono hB32.size)
          rw [← hg33] at N33
          try rw [← hg33]
          clear hw33 hg33
          refine wpAnyH_ready (rs := [10]) (by kernel_rfl) (by simp) ?_
          refine AllReadyH.cons rfl (fun KC hKC => ?_) AllReadyH.nil
          rw [if_pos (by rfl)]
          obtain ⟨hth34, hs34, ho34⟩ := put_arr Fp33 (show (Lib.byteCells zeros).length = LL.length by rw [HLLl.out]; rfl)
          refine wp_store_mid 26 _ _ rfl g31 0 LL.toArray rfl rfl (by rw [List.size_toArray]; exact hth34) HLLi.out HLL1.out ?_
          refine hKC.out _ _ trivial (fun hHeld34 => ?_)
          clear hKC KC
          try simp only [Act.put, List.setIfInBounds_toArray, List.set_cons_zero, List.set_cons_succ]
          try rw [show LL.toArray.toList = LL from rfl]
          have hB34 := hB33.trans (ho34.below hB33.size (by rintro j rfl; exact hwg31))
          have Fq34 := N33.only ho34 (show ¬ g33 = g31 by omega)
          obtain ⟨w34, hw34⟩ : ∃ x, x = w33.setCells g31 0 LL := ⟨_, rfl⟩
          rw [← hw34] at hB34 Fq34 hs34 ⊢
          clear hw34 ho34 hth34
          refine wpAnyH_ready (rs := [11]) (by kernel_rfl) (by simp) ?_
          refine AllReadyH.cons rfl (fun KC hKC => ?_) AllReadyH.nil
          rw [if_pos (by rfl)]
          obtain ⟨hth35, hs35, ho35⟩ := put_arr Fq34 (show (Lib.byteCells zeros).length = RR.length by rw [HRRl.out]; rfl)
          refine wp_store_mid 26 _ _ rfl g33 0 RR.toArray rfl rfl (by rw [List.size_toArray]; exact hth35) HRRi.out HRR1.out ?_
          refine hKC.out _ _ trivial (fun hHeld35 => ?_)
          clear hKC KC
          try simp only [Act.put, List.setIfInBounds_toArray, List.set_cons_zero, List.set_cons_succ]
          try rw [show RR.toArray.toList = RR from rfl]
          have hB35 := hB34.trans (ho35.below hB34.size (by rintro j rfl; exact hwg33))
          have Fp35 := hs34.only ho35 (show ¬ g31 = g33 by omega)
          obtain ⟨w35, hw35⟩ : ∃ x, x = w34.setCells g33 0 RR := ⟨_, rfl⟩
          rw [← hw35] at hB35 Fp35 hs35 ⊢
          clear hw35 ho35 hth35
          refine wpAnyH_done (by kernel_rfl) ?_ _
          clear hHeld
          go_wp2_with fail
          go_meet
          exact ⟨_, _, rfl, rfl, Fp35, hs35, hB35⟩
        · go_simp
          refine hKC.out _ _ trivial (fun hHeld36 => ?_)
          clear hKC KC
          try simp only [Act.put, List.setIfInBounds_toArray, List.set_cons_zero, List.set_cons_succ]
          change wpAnyH _ _ _ _ _ _ _ _ (w31.alloc (.cells (Lib.byteCells zeros).toArray 26))
          obtain ⟨g36, hg36⟩ : ∃ x, x = w31.heap.size := ⟨_, rfl⟩
          have N36 := Arr.new w31 26 (Lib.byteCells zeros)
          have hb36 : Below w31.heap.size w31 (w31.alloc (.cells (Lib.byteCells zeros).toArray 26)) := (Below.refl _ _).alloc (Nat.le_refl _) _
          have hdp36 : g31 ≠ g36 := by have := Arr.lt N31; omega
          have hwg36 : w1.heap.size ≤ g36 := by have := hB31.size; omega
          obtain ⟨w36, hw36⟩ : ∃ x, x = w31.alloc (.cells (Lib.byteCells zeros).toArray 26) := ⟨_, rfl⟩
          rw [← hw36] at hb36 N36 ⊢
          have Fp36 := Arr.up N31 hb36
          clear N31
          have hB36 := hB31.trans (hb36.mono hB31.size)
          rw [← hg36] at N36
          try rw [← hg36]
          clear hw36 hg36
          refine wpAnyH_ready (rs := [7]) (by kernel_rfl) (by simp) ?_
          refine AllReadyH.cons rfl (fun KC hKC => ?_) AllReadyH.nil
          go_simp
          go_at_call 15
          refine Calls.mono (rroot_at (rs.drop K) RR _ (n - K) (c - K) _ Hld.out HRR.out (by omega) hNc (by omega) Hrd.out (((hrs.below hB36 (Nat.le_refl _)).drop hKrs).more hB36.size)) ?_
          rintro e w37 ⟨rfl, hb37⟩
          have hB37 := hB36.trans (hb37.mono hB36.size)
          have Fp37 := Arr.up Fp36 hb37
          clear Fp36
          have Fq37 := Arr.up N36 hb37
          clear N36
          go_wp2_with fail
          refine hKC.out _ _ trivial (fun hHeld37 => ?_)
          clear hKC KC
          try simp only [Act.put, List.setIfInBounds_toArray, List.set_cons_zero, List.set_cons_succ]
          refine wpAnyH_ready (rs := [10]) (by kernel_rfl) (by simp) ?_
          refine AllReadyH.cons rfl (fun KC hKC => ?_) AllReadyH.nil
          rw [if_pos (by rfl)]
          obtain ⟨hth38, hs38, ho38⟩ := put_arr Fp37 (show (Lib.byteCells zeros).length = LL.length by rw [HLLl.out]; rfl)
          refine wp_store_mid 26 _ _ rfl g31 0 LL.toArray rfl rfl (by rw [List.size_toArray]; exact hth38) HLLi.out HLL1.out ?_
          refine hKC.out _ _ trivial (fun hHeld38 => ?_)
          clear hKC KC
          try simp only [Act.put, List.setIfInBounds_toArray, List.set_cons_zero, List.set_cons_succ]
          try rw [show LL.toArray.toList = LL from rfl]
          have hB38 := hB37.trans (ho38.below hB37.size (by rintro j rfl; exact hwg31))
          have Fq38 := Fq37.only ho38 (show ¬ g36 = g31 by omega)
          obtain ⟨w38, hw38⟩ : ∃ x, x = w37.setCells g31 0 LL := ⟨_, rfl⟩
          rw [← hw38] at hB38 Fq38 hs38 ⊢
          clear hw38 ho38 hth38
          refine wpAnyH_ready (rs := [11]) (by kernel_rfl) (by simp) ?_
          refine AllReadyH.cons rfl (fun KC hKC => ?_) AllReadyH.nil
          rw [if_pos (by rfl)]
          obtain ⟨hth39, hs39, ho39⟩ := put_arr Fq38 (show (Lib.byteCells zeros).length = RR.length by rw [HRRl.out]; rfl)
          refine wp_store_mid 26 _ _ rfl g36 0 RR.toArray rfl rfl (by rw [List.size_toArray]; exact hth39) HRRi.out HRR1.out ?_
          refine hKC.out _ _ trivial (fun hHeld39 => ?_)
          clear hKC KC
          try simp only [Act.put, List.setIfInBounds_toArray, List.set_cons_zero, List.set_cons_succ]
          try rw [show RR.toArray.toList = RR from rfl]
          have hB39 := hB38.trans (ho39.below hB38.size (by rintro j rfl; exact hwg36))
          have Fp39 := hs38.only ho39 (show ¬ g31 = g36 by omega)
          obtain ⟨w39, hw39⟩ : ∃ x, x = w38.setCells g36 0 RR := ⟨_, rfl⟩
          rw [← hw39] at hB39 Fp39 hs39 ⊢
          clear hw39 ho39 hth39
          refine wpAnyH_done (by kernel_rfl) ?_ _
          clear hHeld
          go_wp2_with fail
          go_meet
          exact ⟨_, _, rfl, rfl, Fp39, hs39, hB39⟩
      · go_simp
        refine hKC.out _ _ trivial (fun hHeld40 => ?_)
        clear hKC KC
        try simp only [Act.put, List.setIfInBounds_toArray, List.set_cons_zero, List.set_cons_succ]
        change wpAnyH _ _ _ _ _ _ _ _ (w21.alloc (.cells (Lib.byteCells zeros).toArray 26))
        obtain ⟨g40, hg40⟩ : ∃ x, x = w21.heap.size := ⟨_, rfl⟩
        have N40 := Arr.new w21 26 (Lib.byteCells zeros)
        have hb40 : Below w21.heap.size w21 (w21.alloc (.cells (Lib.byteCells zeros).toArray 26)) := (Below.refl _ _).alloc (Nat.le_refl _) _
        have hwg40 : w1.heap.size ≤ g40 := by have := hB21.size; omega
        obtain ⟨w40, hw40⟩ : ∃ x, x = w21.alloc (.cells (Lib.byteCells zeros).toArray 26) := ⟨_, rfl⟩
        rw [← hw40] at hb40 N40 ⊢
        have hB40 := hB21.trans (hb40.mono hB21.size)
        rw [← hg40] at N40
        try rw [← hg40]
        clear hw40 hg40
        refine wpAnyH_ready (rs := [7, 8]) (by kernel_rfl) (by simp) ?_
        refine AllReadyH.cons rfl (fun KC hKC => ?_) (AllReadyH.cons rfl (fun KC hKC => ?_) AllReadyH.nil)
        · go_simp
          go_at_call 15
          refine Calls.mono (rroot_at (rs.drop K) RR _ (n - K) (c - K) _ Hld.out HRR.out (by omega) hNc (by omega) Hrd.out (((hrs.below hB40 (Nat.le_refl _)).drop hKrs).more hB40.size)) ?_
          rintro e w41 ⟨rfl, hb41⟩
          have hB41 := hB40.trans (hb41.mono hB40.size)
          have Fq41 := Arr.up N40 hb41
          clear N40
          go_wp2_with fail
          refine hKC.out _ _ trivial (fun hHeld41 => ?_)
          clear hKC KC
          try simp only [Act.put, List.setIfInBounds_toArray, List.set_cons_zero, List.set_cons_succ]
          refine wpAnyH_ready (rs := [8]) (by kernel_rfl) (by simp) ?_
          refine AllReadyH.cons rfl (fun KC hKC => ?_) AllReadyH.nil
          go_simp
          refine hKC.out _ _ trivial (fun hHeld42 => ?_)
          clear hKC KC
          try simp only [Act.put, List.setIfInBounds_toArray, List.set_cons_zero, List.set_cons_succ]
          change wpAnyH _ _ _ _ _ _ _ _ (w41.alloc (.cells (Lib.byteCells zeros).toArray 26))
          obtain ⟨g42, hg42⟩ : ∃ x, x = w41.heap.size := ⟨_, rfl⟩
          have N42 := Arr.new w41 26 (Lib.byteCells zeros)
          have hb42 : Below w41.heap.size w41 (w41.alloc (.cells (Lib.byteCells zeros).toArray 26)) := (Below.refl _ _).alloc (Nat.le_refl _) _
          have hdq42 : g40 ≠ g42 := by have := Arr.lt Fq41; omega
          have hwg42 : w1.heap.size ≤ g42 := by have := hB41.size; omega
          obtain ⟨w42, hw42⟩ : ∃ x, x = w41.alloc (.cells (Lib.byteCells zeros).toArray 26) := ⟨_, rfl⟩
          rw [← hw42] at hb42 N42 ⊢
          have Fq42 := Arr.up Fq41 hb42
          clear Fq41
          have hB42 := hB41.trans (hb42.mono hB41.size)
          rw [← hg42] at N42
          try rw [← hg42]
          clear hw42 hg42
          refine wpAnyH_ready (rs := [10]) (by kernel_rfl) (by simp) ?_
          refine AllReadyH.cons rfl (fun KC hKC => ?_) AllReadyH.nil
          rw [if_pos (by rfl)]
          obtain ⟨hth43, hs43, ho43⟩ := put_arr N42 (show (Lib.byteCells zeros).length = LL.length by rw [HLLl.out]; rfl)
          refine wp_store_mid 26 _ _ rfl g42 0 LL.toArray rfl rfl (by rw [List.size_toArray]; exact hth43) HLLi.out HLL1.out ?_
          refine hKC.out _ _ trivial (fun hHeld43 => ?_)
          clear hKC KC
          try simp only [Act.put, List.setIfInBounds_toArray, List.set_cons_zero, List.set_cons_succ]
          try rw [show LL.toArray.toList = LL from rfl]
          have hB43 := hB42.trans (ho43.below hB42.size (by rintro j rfl; exact hwg42))
          have Fq43 := Fq42.only ho43 (show ¬ g40 = g42 by omega)
          obtain ⟨w43, hw43⟩ : ∃ x, x = w42.setCells g42 0 LL := ⟨_, rfl⟩
          rw [← hw43] at hB43 Fq43 hs43 ⊢
          clear hw43 ho43 hth43
          refine wpAnyH_ready (rs := [11]) (by kernel_rfl) (by simp) ?_
          refine AllReadyH.cons rfl (fun KC hKC => ?_) AllReadyH.nil
          rw [if_pos (by rfl)]
          obtain ⟨hth44, hs44, ho44⟩ := put_arr Fq43 (show (Lib.byteCells zeros).length = RR.length by rw [HRRl.out]; rfl)
          refine wp_store_mid 26 _ _ rfl g40 0 RR.toArray rfl rfl (by rw [List.size_toArray]; exact hth44) HRRi.out HRR1.out ?_
          refine hKC.out _ _ trivial (fun hHeld44 => ?_)
          clear hKC KC
          try simp only [Act.put, List.setIfInBounds_toArray, List.set_cons_zero, List.set_cons_succ]
          try rw [show RR.toArray.toList = RR from rfl]
          have hB44 := hB43.trans (ho44.below hB43.size (by rintro j rfl; exact hwg40))
          have Fp44 := hs43.only ho44 (show ¬ g42 = g40 by omega)
          obtain ⟨w44, hw44⟩ : ∃ x, x = w43.setCells g40 0 RR := ⟨_, rfl⟩
          rw [← hw44] at hB44 Fp44 hs44 ⊢
          clear hw44 ho44 hth44
          refine wpAnyH_done (by kernel_rfl) ?_ _
          clear hHeld
          go_wp2_with fail
          go_meet
          exact ⟨_, _, rfl, rfl, Fp44, hs44, hB44⟩
        · go_simp
          refine hKC.out _ _ trivial (fun hHeld45 => ?_)
          clear hKC KC
          try simp only [Act.put, List.setIfInBounds_toArray, List.set_cons_zero, List.set_cons_succ]
          change wpAnyH _ _ _ _ _ _ _ _ (w40.alloc (.cells (Lib.byteCells zeros).toArray 26))
          obtain ⟨g45, hg45⟩ : ∃ x, x = w40.heap.size := ⟨_, rfl⟩
          have N45 := Arr.new w40 26 (Lib.byteCells zeros)
          have hb45 : Below w40.heap.size w40 (w40.alloc (.cells (Lib.byteCells zeros).toArray 26)) := (Below.refl _ _).alloc (Nat.le_refl _) _
          have hdq45 : g40 ≠ g45 := by have := Arr.lt N40; omega
          have hwg45 : w1.heap.size ≤ g45 := by have := hB40.size; omega
          obtain ⟨w45, hw45⟩ : ∃ x, x = w40.alloc (.cells (Lib.byteCells zeros).toArray 26) := ⟨_, rfl⟩
          rw [← hw45] at hb45 N45 ⊢
          have Fq45 := Arr.up N40 hb45
          clear N40
          have hB45 := hB40.trans (hb45.mono hB40.size)
          rw [← hg45] at N45
          try rw [← hg45]
          clear hw45 hg45
          refine wpAnyH_ready (rs := [7]) (by kernel_rfl) (by simp) ?_
          refine AllReadyH.cons rfl (fun KC hKC => ?_) AllReadyH.nil
          go_simp
          go_at_call 15
          refine Calls.mono (rroot_at (rs.drop K) RR _ (n - K) (c - K) _ Hld.out HRR.out (by omega) hNc (by omega) Hrd.out (((hrs.below hB45 (Nat.le_refl _)).drop hKrs).more hB45.size)) ?_
          rintro e w46 ⟨rfl, hb46⟩
          have hB46 := hB45.trans (hb46.mono hB45.size)
          have Fq46 := Arr.up Fq45 hb46
          clear Fq45
          have Fp46 := Arr.up N45 hb46
          clear N45
          go_wp2_with fail
          refine hKC.out _ _ trivial (fun hHeld46 => ?_)
          clear hKC KC
          try simp only [Act.put, List.setIfInBounds_toArray, List.set_cons_zero, List.set_cons_succ]
          refine wpAnyH_ready (rs := [10]) (by kernel_rfl) (by simp) ?_
          refine AllReadyH.cons rfl (fun KC hKC => ?_) AllReadyH.nil
          rw [if_pos (by rfl)]
          obtain ⟨hth47, hs47, ho47⟩ := put_arr Fp46 (show (Lib.byteCells zeros).length = LL.length by rw [HLLl.out]; rfl)
          refine wp_store_mid 26 _ _ rfl g45 0 LL.toArray rfl rfl (by rw [List.size_toArray]; exact hth47) HLLi.out HLL1.out ?_
          refine hKC.out _ _ trivial (fun hHeld47 => ?_)
          clear hKC KC
          try simp only [Act.put, List.setIfInBounds_toArray, List.set_cons_zero, List.set_cons_succ]
          try rw [show LL.toArray.toList = LL from rfl]
          have hB47 := hB46.trans (ho47.below hB46.size (by rintro j rfl; exact hwg45))
          have Fq47 := Fq46.only ho47 (show ¬ g40 = g45 by omega)
          obtain ⟨w47, hw47⟩ : ∃ x, x = w46.setCells g45 0 LL := ⟨_, rfl⟩
          rw [← hw47] at hB47 Fq47 hs47 ⊢
          clear hw47 ho47 hth47
          refine wpAnyH_ready (rs := [11]) (by kernel_rfl) (by simp) ?_
          refine AllReadyH.cons rfl (fun KC hKC => ?_) AllReadyH.nil
          rw [if_pos (by rfl)]
          obtain ⟨hth48, hs48, ho48⟩ := put_arr Fq47 (show (Lib.byteCells zeros).length = RR.length by rw [HRRl.out]; rfl)
          refine wp_store_mid 26 _ _ rfl g40 0 RR.toArray rfl rfl (by rw [List.size_toArray]; exact hth48) HRRi.out HRR1.out ?_
          refine hKC.out _ _ trivial (fun hHeld48 => ?_)
          clear hKC KC
          try simp only [Act.put, List.setIfInBounds_toArray, List.set_cons_zero, List.set_cons_succ]
          try rw [show RR.toArray.toList = RR from rfl]
          have hB48 := hB47.trans (ho48.below hB47.size (by rintro j rfl; exact hwg40))
          have Fp48 := hs47.only ho48 (show ¬ g45 = g40 by omega)
          obtain ⟨w48, hw48⟩ : ∃ x, x = w47.setCells g40 0 RR := ⟨_, rfl⟩
          rw [← hw48] at hB48 Fp48 hs48 ⊢
          clear hw48 ho48 hth48
          refine wpAnyH_done (by kernel_rfl) ?_ _
          clear hHeld
          go_wp2_with fail
          go_meet
          exact ⟨_, _, rfl, rfl, Fp48, hs48, hB48⟩
    · go_simp
      refine hKC.out _ _ trivial (fun hHeld49 => ?_)
      clear hKC KC
      try simp only [Act.put, List.setIfInBounds_toArray, List.set_cons_zero, List.set_cons_succ]
      change wpAnyH _ _ _ _ _ _ _ _ (w9.alloc (.cells (Lib.byteCells zeros).toArray 26))
      obtain ⟨g49, hg49⟩ : ∃ x, x = w9.heap.size := ⟨_, rfl⟩
      have N49 := Arr.new w9 26 (Lib.byteCells zeros)
      have hb49 : Below w9.heap.size w9 (w9.alloc (.cells (Lib.byteCells zeros).toArray 26)) := (Below.refl _ _).alloc (Nat.le_refl _) _
      have hwg49 : w1.heap.size ≤ g49 := by have := hB9.size; omega
      obtain ⟨w49, hw49⟩ : ∃ x, x = w9.alloc (.cells (Lib.byteCells zeros).toArray 26) := ⟨_, rfl⟩
      rw [← hw49] at hb49 N49 ⊢
      have hB49 := hB9.trans (hb49.mono hB9.size)
      rw [← hg49] at N49
      try rw [← hg49]
      clear hw49 hg49
      refine wpAnyH_ready (rs := [3, 9]) (by kernel_rfl) (by simp) ?_
      refine AllReadyH.cons rfl (fun KC hKC => ?_) (AllReadyH.cons rfl (fun KC hKC => ?_) AllReadyH.nil)
      · go_simp
        go_at_call 15
        refine Calls.mono (rroot_at (rs.take K) LL _ K c _ Hlk.out HLL.out (by omega) hKc hcm63 Hrk.out (((hrs.below hB49 (Nat.le_refl _)).take K).more hB49.size)) ?_
        rintro e w50 ⟨rfl, hb50⟩
        have hB50 := hB49.trans (hb50.mono hB49.size)
        have Fp50 := Arr.up N49 hb50
        clear N49
        go_wp2_with fail
        refine hKC.out _ _ trivial (fun hHeld50 => ?_)
        clear hKC KC
        try simp only [Act.put, List.setIfInBounds_toArray, List.set_cons_zero, List.set_cons_succ]
        refine wpAnyH_ready (rs := [7, 9]) (by kernel_rfl) (by simp) ?_
        refine AllReadyH.cons rfl (fun KC hKC => ?_) (AllReadyH.cons rfl (fun KC hKC => ?_) AllReadyH.nil)
        · go_simp
          go_at_call 15
          refine Calls.mono (rroot_at (rs.drop K) RR _ (n - K) (c - K) _ Hld.out HRR.out (by omega) hNc (by omega) Hrd.out (((hrs.below hB50 (Nat.le_refl _)).drop hKrs).more hB50.size)) ?_
          rintro e w51 ⟨rfl, hb51⟩
          have hB51 := hB50.trans (hb51.mono hB50.size)
          have Fp51 := Arr.up Fp50 hb51
          clear Fp50
          go_wp2_with fail
          refine hKC.out _ _ trivial (fun hHeld51 => ?_)
          clear hKC KC
          try simp only [Act.put, List.setIfInBounds_toArray, List.set_cons_zero, List.set_cons_succ]
          refine wpAnyH_ready (rs := [9]) (by kernel_rfl) (by simp) ?_
          refine AllReadyH.cons rfl (fun KC hKC => ?_) AllReadyH.nil
          go_simp
          refine hKC.out _ _ trivial (fun hHeld52 => ?_)
          clear hKC KC
          try simp only [Act.put, List.setIfInBounds_toArray, List.set_cons_zero, List.set_cons_succ]
          change wpAnyH _ _ _ _ _ _ _ _ (w51.alloc (.cells (Lib.byteCells zeros).toArray 26))
          obtain ⟨g52, hg52⟩ : ∃ x, x = w51.heap.size := ⟨_, rfl⟩
          have N52 := Arr.new w51 26 (Lib.byteCells zeros)
          have hb52 : Below w51.heap.size w51 (w51.alloc (.cells (Lib.byteCells zeros).toArray 26)) := (Below.refl _ _).alloc (Nat.le_refl _) _
          have hdp52 : g49 ≠ g52 := by have := Arr.lt Fp51; omega
          have hwg52 : w1.heap.size ≤ g52 := by have := hB51.size; omega
          obtain ⟨w52, hw52⟩ : ∃ x, x = w51.alloc (.cells (Lib.byteCells zeros).toArray 26) := ⟨_, rfl⟩
          rw [← hw52] at hb52 N52 ⊢
          have Fp52 := Arr.up Fp51 hb52
          clear Fp51
          have hB52 := hB51.trans (hb52.mono hB51.size)
          rw [← hg52] at N52
          try rw [← hg52]
          clear hw52 hg52
          refine wpAnyH_ready (rs := [10]) (by kernel_rfl) (by simp) ?_
          refine AllReadyH.cons rfl (fun KC hKC => ?_) AllReadyH.nil
          rw [if_pos (by rfl)]
          obtain ⟨hth53, hs53, ho53⟩ := put_arr Fp52 (show (Lib.byteCells zeros).length = LL.length by rw [HLLl.out]; rfl)
          refine wp_store_mid 26 _ _ rfl g49 0 LL.toArray rfl rfl (by rw [List.size_toArray]; exact hth53) HLLi.out HLL1.out ?_
          refine hKC.out _ _ trivial (fun hHeld53 => ?_)
          clear hKC KC
          try simp only [Act.put, List.setIfInBounds_toArray, List.set_cons_zero, List.set_cons_succ]
          try rw [show LL.toArray.toList = LL from rfl]
          have hB53 := hB52.trans (ho53.below hB52.size (by rintro j rfl; exact hwg49))
          have Fq53 := N52.only ho53 (show ¬ g52 = g49 by omega)
          obtain ⟨w53, hw53⟩ : ∃ x, x = w52.setCells g49 0 LL := ⟨_, rfl⟩
          rw [← hw53] at hB53 Fq53 hs53 ⊢
          clear hw53 ho53 hth53
          refine wpAnyH_ready (rs := [11]) (by kernel_rfl) (by simp) ?_
          refine AllReadyH.cons rfl (fun KC hKC => ?_) AllReadyH.nil
          rw [if_pos (by rfl)]
          obtain ⟨hth54, hs54, ho54⟩ := put_arr Fq53 (show (Lib.byteCells zeros).length = RR.length by rw [HRRl.out]; rfl)
          refine wp_store_mid 26 _ _ rfl g52 0 RR.toArray rfl rfl (by rw [List.size_toArray]; exact hth54) HRRi.out HRR1.out ?_
          refine hKC.out _ _ trivial (fun hHeld54 => ?_)
          clear hKC KC
          try simp only [Act.put, List.setIfInBounds_toArray, List.set_cons_zero, List.set_cons_succ]
          try rw [show RR.toArray.toList = RR from rfl]
          have hB54 := hB53.trans (ho54.below hB53.size (by rintro j rfl; exact hwg52))
          have Fp54 := hs53.only ho54 (show ¬ g49 = g52 by omega)
          obtain ⟨w54, hw54⟩ : ∃ x, x = w53.setCells g52 0 RR := ⟨_, rfl⟩
          rw [← hw54] at hB54 Fp54 hs54 ⊢
          clear hw54 ho54 hth54
          refine wpAnyH_done (by kernel_rfl) ?_ _
          clear hHeld
          go_wp2_with fail
          go_meet
          exact ⟨_, _, rfl, rfl, Fp54, hs54, hB54⟩
        · go_simp
          refine hKC.out _ _ trivial (fun hHeld55 => ?_)
          clear hKC KC
          try simp only [Act.put, List.setIfInBounds_toArray, List.set_cons_zero, List.set_cons_succ]
          change wpAnyH _ _ _ _ _ _ _ _ (w50.alloc (.cells (Lib.byteCells zeros).toArray 26))
          obtain ⟨g55, hg55⟩ : ∃ x, x = w50.heap.size := ⟨_, rfl⟩
          have N55 := Arr.new w50 26 (Lib.byteCells zeros)
          have hb55 : Below w50.heap.size w50 (w50.alloc (.cells (Lib.byteCells zeros).toArray 26)) := (Below.refl _ _).alloc (Nat.le_refl _) _
          have hdp55 : g49 ≠ g55 := by have := Arr.lt Fp50; omega
          have hwg55 : w1.heap.size ≤ g55 := by have := hB50.size; omega
          obtain ⟨w55, hw55⟩ : ∃ x, x = w50.alloc (.cells (Lib.byteCells zeros).toArray 26) := ⟨_, rfl⟩
          rw [← hw55] at hb55 N55 ⊢
          have Fp55 := Arr.up Fp50 hb55
          clear Fp50
          have hB55 := hB50.trans (hb55.mono hB50.size)
          rw [← hg55] at N55
          try rw [← hg55]
          clear hw55 hg55
          refine wpAnyH_ready (rs := [7]) (by kernel_rfl) (by simp) ?_
          refine AllReadyH.cons rfl (fun KC hKC => ?_) AllReadyH.nil
          go_simp
          go_at_call 15
          refine Calls.mono (rroot_at (rs.drop K) RR _ (n - K) (c - K) _ Hld.out HRR.out (by omega) hNc (by omega) Hrd.out (((hrs.below hB55 (Nat.le_refl _)).drop hKrs).more hB55.size)) ?_
          rintro e w56 ⟨rfl, hb56⟩
          have hB56 := hB55.trans (hb56.mono hB55.size)
          have Fp56 := Arr.up Fp55 hb56
          clear Fp55
          have Fq56 := Arr.up N55 hb56
          clear N55
          go_wp2_with fail
          refine hKC.out _ _ trivial (fun hHeld56 => ?_)
          clear hKC KC
          try simp only [Act.put, List.setIfInBounds_toArray, List.set_cons_zero, List.set_cons_succ]
          refine wpAnyH_ready (rs := [10]) (by kernel_rfl) (by simp) ?_
          refine AllReadyH.cons rfl (fun KC hKC => ?_) AllReadyH.nil
          rw [if_pos (by rfl)]
          obtain ⟨hth57, hs57, ho57⟩ := put_arr Fp56 (show (Lib.byteCells zeros).length = LL.length by rw [HLLl.out]; rfl)
          refine wp_store_mid 26 _ _ rfl g49 0 LL.toArray rfl rfl (by rw [List.size_toArray]; exact hth57) HLLi.out HLL1.out ?_
          refine hKC.out _ _ trivial (fun hHeld57 => ?_)
          clear hKC KC
          try simp only [Act.put, List.setIfInBounds_toArray, List.set_cons_zero, List.set_cons_succ]
          try rw [show LL.toArray.toList = LL from rfl]
          have hB57 := hB56.trans (ho57.below hB56.size (by rintro j rfl; exact hwg49))
          have Fq57 := Fq56.only ho57 (show ¬ g55 = g49 by omega)
          obtain ⟨w57, hw57⟩ : ∃ x, x = w56.setCells g49 0 LL := ⟨_, rfl⟩
          rw [← hw57] at hB57 Fq57 hs57 ⊢
          clear hw57 ho57 hth57
          refine wpAnyH_ready (rs := [11]) (by kernel_rfl) (by simp) ?_
          refine AllReadyH.cons rfl (fun KC hKC => ?_) AllReadyH.nil
          rw [if_pos (by rfl)]
          obtain ⟨hth58, hs58, ho58⟩ := put_arr Fq57 (show (Lib.byteCells zeros).length = RR.length by rw [HRRl.out]; rfl)
          refine wp_store_mid 26 _ _ rfl g55 0 RR.toArray rfl rfl (by rw [List.size_toArray]; exact hth58) HRRi.out HRR1.out ?_
          refine hKC.out _ _ trivial (fun hHeld58 => ?_)
          clear hKC KC
          try simp only [Act.put, List.setIfInBounds_toArray, List.set_cons_zero, List.set_cons_succ]
          try rw [show RR.toArray.toList = RR from rfl]
          have hB58 := hB57.trans (ho58.below hB57.size (by rintro j rfl; exact hwg55))
          have Fp58 := hs57.only ho58 (show ¬ g49 = g55 by omega)
          obtain ⟨w58, hw58⟩ : ∃ x, x = w57.setCells g55 0 RR := ⟨_, rfl⟩
          rw [← hw58] at hB58 Fp58 hs58 ⊢
          clear hw58 ho58 hth58
          refine wpAnyH_done (by kernel_rfl) ?_ _
          clear hHeld
          go_wp2_with fail
          go_meet
          exact ⟨_, _, rfl, rfl, Fp58, hs58, hB58⟩
      · go_simp
        refine hKC.out _ _ trivial (fun hHeld59 => ?_)
        clear hKC KC
        try simp only [Act.put, List.setIfInBounds_toArray, List.set_cons_zero, List.set_cons_succ]
        change wpAnyH _ _ _ _ _ _ _ _ (w49.alloc (.cells (Lib.byteCells zeros).toArray 26))
        obtain ⟨g59, hg59⟩ : ∃ x, x = w49.heap.size := ⟨_, rfl⟩
        have N59 := Arr.new w49 26 (Lib.byteCells zeros)
        have hb59 : Below w49.heap.size w49 (w49.alloc (.cells (Lib.byteCells zeros).toArray 26)) := (Below.refl _ _).alloc (Nat.le_refl _) _
        have hdp59 : g49 ≠ g59 := by have := Arr.lt N49; omega
        have hwg59 : w1.heap.size ≤ g59 := by have := hB49.size; omega
        obtain ⟨w59, hw59⟩ : ∃ x, x = w49.alloc (.cells (Lib.byteCells zeros).toArray 26) := ⟨_, rfl⟩
        rw [← hw59] at hb59 N59 ⊢
        have Fp59 := Arr.up N49 hb59
        clear N49
        have hB59 := hB49.trans (hb59.mono hB49.size)
        rw [← hg59] at N59
        try rw [← hg59]
        clear hw59 hg59
        refine wpAnyH_ready (rs := [3]) (by kernel_rfl) (by simp) ?_
        refine AllReadyH.cons rfl (fun KC hKC => ?_) AllReadyH.nil
        go_simp
        go_at_call 15
        refine Calls.mono (rroot_at (rs.take K) LL _ K c _ Hlk.out HLL.out (by omega) hKc hcm63 Hrk.out (((hrs.below hB59 (Nat.le_refl _)).take K).more hB59.size)) ?_
        rintro e w60 ⟨rfl, hb60⟩
        have hB60 := hB59.trans (hb60.mono hB59.size)
        have Fp60 := Arr.up Fp59 hb60
        clear Fp59
        have Fq60 := Arr.up N59 hb60
        clear N59
        go_wp2_with fail
        refine hKC.out _ _ trivial (fun hHeld60 => ?_)
        clear hKC KC
        try simp only [Act.put, List.setIfInBounds_toArray, List.set_cons_zero, List.set_cons_succ]
        refine wpAnyH_ready (rs := [7]) (by kernel_rfl) (by simp) ?_
        refine AllReadyH.cons rfl (fun KC hKC => ?_) AllReadyH.nil
        go_simp
        go_at_call 15
        refine Calls.mono (rroot_at (rs.drop K) RR _ (n - K) (c - K) _ Hld.out HRR.out (by omega) hNc (by omega) Hrd.out (((hrs.below hB60 (Nat.le_refl _)).drop hKrs).more hB60.size)) ?_
        rintro e w61 ⟨rfl, hb61⟩
        have hB61 := hB60.trans (hb61.mono hB60.size)
        have Fp61 := Arr.up Fp60 hb61
        clear Fp60
        have Fq61 := Arr.up Fq60 hb61
        clear Fq60
        go_wp2_with fail
        refine hKC.out _ _ trivial (fun hHeld61 => ?_)
        clear hKC KC
        try simp only [Act.put, List.setIfInBounds_toArray, List.set_cons_zero, List.set_cons_succ]
        refine wpAnyH_ready (rs := [10]) (by kernel_rfl) (by simp) ?_
        refine AllReadyH.cons rfl (fun KC hKC => ?_) AllReadyH.nil
        rw [if_pos (by rfl)]
        obtain ⟨hth62, hs62, ho62⟩ := put_arr Fp61 (show (Lib.byteCells zeros).length = LL.length by rw [HLLl.out]; rfl)
        refine wp_store_mid 26 _ _ rfl g49 0 LL.toArray rfl rfl (by rw [List.size_toArray]; exact hth62) HLLi.out HLL1.out ?_
        refine hKC.out _ _ trivial (fun hHeld62 => ?_)
        clear hKC KC
        try simp only [Act.put, List.setIfInBounds_toArray, List.set_cons_zero, List.set_cons_succ]
        try rw [show LL.toArray.toList = LL from rfl]
        have hB62 := hB61.trans (ho62.below hB61.size (by rintro j rfl; exact hwg49))
        have Fq62 := Fq61.only ho62 (show ¬ g59 = g49 by omega)
        obtain ⟨w62, hw62⟩ : ∃ x, x = w61.setCells g49 0 LL := ⟨_, rfl⟩
        rw [← hw62] at hB62 Fq62 hs62 ⊢
        clear hw62 ho62 hth62
        refine wpAnyH_ready (rs := [11]) (by kernel_rfl) (by simp) ?_
        refine AllReadyH.cons rfl (fun KC hKC => ?_) AllReadyH.nil
        rw [if_pos (by rfl)]
        obtain ⟨hth63, hs63, ho63⟩ := put_arr Fq62 (show (Lib.byteCells zeros).length = RR.length by rw [HRRl.out]; rfl)
        refine wp_store_mid 26 _ _ rfl g59 0 RR.toArray rfl rfl (by rw [List.size_toArray]; exact hth63) HRRi.out HRR1.out ?_
        refine hKC.out _ _ trivial (fun hHeld63 => ?_)
        clear hKC KC
        try simp only [Act.put, List.setIfInBounds_toArray, List.set_cons_zero, List.set_cons_succ]
        try rw [show RR.toArray.toList = RR from rfl]
        have hB63 := hB62.trans (ho63.below hB62.size (by rintro j rfl; exact hwg59))
        have Fp63 := hs62.only ho63 (show ¬ g49 = g59 by omega)
        obtain ⟨w63, hw63⟩ : ∃ x, x = w62.setCells g59 0 RR := ⟨_, rfl⟩
        rw [← hw63] at hB63 Fp63 hs63 ⊢
        clear hw63 ho63 hth63
        refine wpAnyH_done (by kernel_rfl) ?_ _
        clear hHeld
        go_wp2_with fail
        go_meet
        exact ⟨_, _, rfl, rfl, Fp63, hs63, hB63⟩
    · go_simp
      refine hKC.out _ _ trivial (fun hHeld64 => ?_)
      clear hKC KC
      try simp only [Act.put, List.setIfInBounds_toArray, List.set_cons_zero, List.set_cons_succ]
      change wpAnyH _ _ _ _ _ _ _ _ (w9.alloc (.cells (Lib.byteCells zeros).toArray 26))
      obtain ⟨g64, hg64⟩ : ∃ x, x = w9.heap.size := ⟨_, rfl⟩
      have N64 := Arr.new w9 26 (Lib.byteCells zeros)
      have hb64 : Below w9.heap.size w9 (w9.alloc (.cells (Lib.byteCells zeros).toArray 26)) := (Below.refl _ _).alloc (Nat.le_refl _) _
      have hwg64 : w1.heap.size ≤ g64 := by have := hB9.size; omega
      obtain ⟨w64, hw64⟩ : ∃ x, x = w9.alloc (.cells (Lib.byteCells zeros).toArray 26) := ⟨_, rfl⟩
      rw [← hw64] at hb64 N64 ⊢
      have hB64 := hB9.trans (hb64.mono hB9.size)
      rw [← hg64] at N64
      try rw [← hg64]
      clear hw64 hg64
      refine wpAnyH_ready (rs := [3, 8]) (by kernel_rfl) (by simp) ?_
      refine AllReadyH.cons rfl (fun KC hKC => ?_) (AllReadyH.cons rfl (fun KC hKC => ?_) AllReadyH.nil)
      · go_simp
        go_at_call 15
        refine Calls.mono (rroot_at (rs.take K) LL _ K c _ Hlk.out HLL.out (by omega) hKc hcm63 Hrk.out (((hrs.below hB64 (Nat.le_refl _)).take K).more hB64.size)) ?_
        rintro e w65 ⟨rfl, hb65⟩
        have hB65 := hB64.trans (hb65.mono hB64.size)
        have Fq65 := Arr.up N64 hb65
        clear N64
        go_wp2_with fail
        refine hKC.out _ _ trivial (fun hHeld65 => ?_)
        clear hKC KC
        try simp only [Act.put, List.setIfInBounds_toArray, List.set_cons_zero, List.set_cons_succ]
        refine wpAnyH_ready (rs := [7, 8]) (by kernel_rfl) (by simp) ?_
        refine AllReadyH.cons rfl (fun KC hKC => ?_) (AllReadyH.cons rfl (fun KC hKC => ?_) AllReadyH.nil)
        · go_simp
          go_at_call 15
          refine Calls.mono (rroot_at (rs.drop K) RR _ (n - K) (c - K) _ Hld.out HRR.out (by omega) hNc (by omega) Hrd.out (((hrs.below hB65 (Nat.le_refl _)).drop hKrs).more hB65.size)) ?_
          rintro e w66 ⟨rfl, hb66⟩
          have hB66 := hB65.trans (hb66.mono hB65.size)
          have Fq66 := Arr.up Fq65 hb66
          clear Fq65
          go_wp2_with fail
          refine hKC.out _ _ trivial (fun hHeld66 => ?_)
          clear hKC KC
          try simp only [Act.put, List.setIfInBounds_toArray, List.set_cons_zero, List.set_cons_succ]
          refine wpAnyH_ready (rs := [8]) (by kernel_rfl) (by simp) ?_
          refine AllReadyH.cons rfl (fun KC hKC => ?_) AllReadyH.nil
          go_simp
          refine hKC.out _ _ trivial (fun hHeld67 => ?_)
          clear hKC KC
          try simp only [Act.put, List.setIfInBounds_toArray, List.set_cons_zero, List.set_cons_succ]
          change wpAnyH _ _ _ _ _ _ _ _ (w66.alloc (.cells (Lib.byteCells zeros).toArray 26))
          obtain ⟨g67, hg67⟩ : ∃ x, x = w66.heap.size := ⟨_, rfl⟩
          have N67 := Arr.new w66 26 (Lib.byteCells zeros)
          have hb67 : Below w66.heap.size w66 (w66.alloc (.cells (Lib.byteCells zeros).toArray 26)) := (Below.refl _ _).alloc (Nat.le_refl _) _
          have hdq67 : g64 ≠ g67 := by have := Arr.lt Fq66; omega
          have hwg67 : w1.heap.size ≤ g67 := by have := hB66.size; omega
          obtain ⟨w67, hw67⟩ : ∃ x, x = w66.alloc (.cells (Lib.byteCells zeros).toArray 26) := ⟨_, rfl⟩
          rw [← hw67] at hb67 N67 ⊢
          have Fq67 := Arr.up Fq66 hb67
          clear Fq66
          have hB67 := hB66.trans (hb67.mono hB66.size)
          rw [← hg67] at N67
          try rw [← hg67]
          clear hw67 hg67
          refine wpAnyH_ready (rs := [10]) (by kernel_rfl) (by simp) ?_
          refine AllReadyH.cons rfl (fun KC hKC => ?_) AllReadyH.nil
          rw [if_pos (by rfl)]
          obtain ⟨hth68, hs68, ho68⟩ := put_arr N67 (show (Lib.byteCells zeros).length = LL.length by rw [HLLl.out]; rfl)
          refine wp_store_mid 26 _ _ rfl g67 0 LL.toArray rfl rfl (by rw [List.size_toArray]; exact hth68) HLLi.out HLL1.out ?_
          refine hKC.out _ _ trivial (fun hHeld68 => ?_)
          clear hKC KC
          try simp only [Act.put, List.setIfInBounds_toArray, List.set_cons_zero, List.set_cons_succ]
          try rw [show LL.toArray.toList = LL from rfl]
          have hB68 := hB67.trans (ho68.below hB67.size (by rintro j rfl; exact hwg67))
          have Fq68 := Fq67.only ho68 (show ¬ g64 = g67 by omega)
          obtain ⟨w68, hw68⟩ : ∃ x, x = w67.setCells g67 0 LL := ⟨_, rfl⟩
          rw [← hw68] at hB68 Fq68 hs68 ⊢
          clear hw68 ho68 hth68
          refine wpAnyH_ready (rs := [11]) (by kernel_rfl) (by simp) ?_
          refine AllReadyH.cons rfl (fun KC hKC => ?_) AllReadyH.nil
          rw [if_pos (by rfl)]
          obtain ⟨hth69, hs69, ho69⟩ := put_arr Fq68 (show (Lib.byteCells zeros).length = RR.length by rw [HRRl.out]; rfl)
          refine wp_store_mid 26 _ _ rfl g64 0 RR.toArray rfl rfl (by rw [List.size_toArray]; exact hth69) HRRi.out HRR1.out ?_
          refine hKC.out _ _ trivial (fun hHeld69 => ?_)
          clear hKC KC
          try simp only [Act.put, List.setIfInBounds_toArray, List.set_cons_zero, List.set_cons_succ]
          try rw [show RR.toArray.toList = RR from rfl]
          have hB69 := hB68.trans (ho69.below hB68.size (by rintro j rfl; exact hwg64))
          have Fp69 := hs68.only ho69 (show ¬ g67 = g64 by omega)
          obtain ⟨w69, hw69⟩ : ∃ x, x = w68.setCells g64 0 RR := ⟨_, rfl⟩
          rw [← hw69] at hB69 Fp69 hs69 ⊢
          clear hw69 ho69 hth69
          refine wpAnyH_done (by kernel_rfl) ?_ _
          clear hHeld
          go_wp2_with fail
          go_meet
          exact ⟨_, _, rfl, rfl, Fp69, hs69, hB69⟩
        · go_simp
          refine hKC.out _ _ trivial (fun hHeld70 => ?_)
          clear hKC KC
          try simp only [Act.put, List.setIfInBounds_toArray, List.set_cons_zero, List.set_cons_succ]
          change wpAnyH _ _ _ _ _ _ _ _ (w65.alloc (.cells (Lib.byteCells zeros).toArray 26))
          obtain ⟨g70, hg70⟩ : ∃ x, x = w65.heap.size := ⟨_, rfl⟩
          have N70 := Arr.new w65 26 (Lib.byteCells zeros)
          have hb70 : Below w65.heap.size w65 (w65.alloc (.cells (Lib.byteCells zeros).toArray 26)) := (Below.refl _ _).alloc (Nat.le_refl _) _
          have hdq70 : g64 ≠ g70 := by have := Arr.lt Fq65; omega
          have hwg70 : w1.heap.size ≤ g70 := by have := hB65.size; omega
          obtain ⟨w70, hw70⟩ : ∃ x, x = w65.alloc (.cells (Lib.byteCells zeros).toArray 26) := ⟨_, rfl⟩
          rw [← hw70] at hb70 N70 ⊢
          have Fq70 := Arr.up Fq65 hb70
          clear Fq65
          have hB70 := hB65.trans (hb70.mono hB65.size)
          rw [← hg70] at N70
          try rw [← hg70]
          clear hw70 hg70
          refine wpAnyH_ready (rs := [7]) (by kernel_rfl) (by simp) ?_
          refine AllReadyH.cons rfl (fun KC hKC => ?_) AllReadyH.nil
          go_simp
          go_at_call 15
          refine Calls.mono (rroot_at (rs.drop K) RR _ (n - K) (c - K) _ Hld.out HRR.out (by omega) hNc (by omega) Hrd.out (((hrs.below hB70 (Nat.le_refl _)).drop hKrs).more hB70.size)) ?_
          rintro e w71 ⟨rfl, hb71⟩
          have hB71 := hB70.trans (hb71.mono hB70.size)
          have Fq71 := Arr.up Fq70 hb71
          clear Fq70
          have Fp71 := Arr.up N70 hb71
          clear N70
          go_wp2_with fail
          refine hKC.out _ _ trivial (fun hHeld71 => ?_)
          clear hKC KC
          try simp only [Act.put, List.setIfInBounds_toArray, List.set_cons_zero, List.set_cons_succ]
          refine wpAnyH_ready (rs := [10]) (by kernel_rfl) (by simp) ?_
          refine AllReadyH.cons rfl (fun KC hKC => ?_) AllReadyH.nil
          rw [if_pos (by rfl)]
          obtain ⟨hth72, hs72, ho72⟩ := put_arr Fp71 (show (Lib.byteCells zeros).length = LL.length by rw [HLLl.out]; rfl)
          refine wp_store_mid 26 _ _ rfl g70 0 LL.toArray rfl rfl (by rw [List.size_toArray]; exact hth72) HLLi.out HLL1.out ?_
          refine hKC.out _ _ trivial (fun hHeld72 => ?_)
          clear hKC KC
          try simp only [Act.put, List.setIfInBounds_toArray, List.set_cons_zero, List.set_cons_succ]
          try rw [show LL.toArray.toList = LL from rfl]
          have hB72 := hB71.trans (ho72.below hB71.size (by rintro j rfl; exact hwg70))
          have Fq72 := Fq71.only ho72 (show ¬ g64 = g70 by omega)
          obtain ⟨w72, hw72⟩ : ∃ x, x = w71.setCells g70 0 LL := ⟨_, rfl⟩
          rw [← hw72] at hB72 Fq72 hs72 ⊢
          clear hw72 ho72 hth72
          refine wpAnyH_ready (rs := [11]) (by kernel_rfl) (by simp) ?_
          refine AllReadyH.cons rfl (fun KC hKC => ?_) AllReadyH.nil
          rw [if_pos (by rfl)]
          obtain ⟨hth73, hs73, ho73⟩ := put_arr Fq72 (show (Lib.byteCells zeros).length = RR.length by rw [HRRl.out]; rfl)
          refine wp_store_mid 26 _ _ rfl g64 0 RR.toArray rfl rfl (by rw [List.size_toArray]; exact hth73) HRRi.out HRR1.out ?_
          refine hKC.out _ _ trivial (fun hHeld73 => ?_)
          clear hKC KC
          try simp only [Act.put, List.setIfInBounds_toArray, List.set_cons_zero, List.set_cons_succ]
          try rw [show RR.toArray.toList = RR from rfl]
          have hB73 := hB72.trans (ho73.below hB72.size (by rintro j rfl; exact hwg64))
          have Fp73 := hs72.only ho73 (show ¬ g70 = g64 by omega)
          obtain ⟨w73, hw73⟩ : ∃ x, x = w72.setCells g64 0 RR := ⟨_, rfl⟩
          rw [← hw73] at hB73 Fp73 hs73 ⊢
          clear hw73 ho73 hth73
          refine wpAnyH_done (by kernel_rfl) ?_ _
          clear hHeld
          go_wp2_with fail
          go_meet
          exact ⟨_, _, rfl, rfl, Fp73, hs73, hB73⟩
      · go_simp
        refine hKC.out _ _ trivial (fun hHeld74 => ?_)
        clear hKC KC
        try simp only [Act.put, List.setIfInBounds_toArray, List.set_cons_zero, List.set_cons_succ]
        change wpAnyH _ _ _ _ _ _ _ _ (w64.alloc (.cells (Lib.byteCells zeros).toArray 26))
        obtain ⟨g74, hg74⟩ : ∃ x, x = w64.heap.size := ⟨_, rfl⟩
        have N74 := Arr.new w64 26 (Lib.byteCells zeros)
        have hb74 : Below w64.heap.size w64 (w64.alloc (.cells (Lib.byteCells zeros).toArray 26)) := (Below.refl _ _).alloc (Nat.le_refl _) _
        have hdq74 : g64 ≠ g74 := by have := Arr.lt N64; omega
        have hwg74 : w1.heap.size ≤ g74 := by have := hB64.size; omega
        obtain ⟨w74, hw74⟩ : ∃ x, x = w64.alloc (.cells (Lib.byteCells zeros).toArray 26) := ⟨_, rfl⟩
        rw [← hw74] at hb74 N74 ⊢
        have Fq74 := Arr.up N64 hb74
        clear N64
        have hB74 := hB64.trans (hb74.mono hB64.size)
        rw [← hg74] at N74
        try rw [← hg74]
        clear hw74 hg74
        refine wpAnyH_ready (rs := [3]) (by kernel_rfl) (by simp) ?_
        refine AllReadyH.cons rfl (fun KC hKC => ?_) AllReadyH.nil
        go_simp
        go_at_call 15
        refine Calls.mono (rroot_at (rs.take K) LL _ K c _ Hlk.out HLL.out (by omega) hKc hcm63 Hrk.out (((hrs.below hB74 (Nat.le_refl _)).take K).more hB74.size)) ?_
        rintro e w75 ⟨rfl, hb75⟩
        have hB75 := hB74.trans (hb75.mono hB74.size)
        have Fq75 := Arr.up Fq74 hb75
        clear Fq74
        have Fp75 := Arr.up N74 hb75
        clear N74
        go_wp2_with fail
        refine hKC.out _ _ trivial (fun hHeld75 => ?_)
        clear hKC KC
        try simp only [Act.put, List.setIfInBounds_toArray, List.set_cons_zero, List.set_cons_succ]
        refine wpAnyH_ready (rs := [7]) (by kernel_rfl) (by simp) ?_
        refine AllReadyH.cons rfl (fun KC hKC => ?_) AllReadyH.nil
        go_simp
        go_at_call 15
        refine Calls.mono (rroot_at (rs.drop K) RR _ (n - K) (c - K) _ Hld.out HRR.out (by omega) hNc (by omega) Hrd.out (((hrs.below hB75 (Nat.le_refl _)).drop hKrs).more hB75.size)) ?_
        rintro e w76 ⟨rfl, hb76⟩
        have hB76 := hB75.trans (hb76.mono hB75.size)
        have Fq76 := Arr.up Fq75 hb76
        clear Fq75
        have Fp76 := Arr.up Fp75 hb76
        clear Fp75
        go_wp2_with fail
        refine hKC.out _ _ trivial (fun hHeld76 => ?_)
        clear hKC KC
        try simp only [Act.put, List.setIfInBounds_toArray, List.set_cons_zero, List.set_cons_succ]
        refine wpAnyH_ready (rs := [10]) (by kernel_rfl) (by simp) ?_
        refine AllReadyH.cons rfl (fun KC hKC => ?_) AllReadyH.nil
        rw [if_pos (by rfl)]
        obtain ⟨hth77, hs77, ho77⟩ := put_arr Fp76 (show (Lib.byteCells zeros).length = LL.length by rw [HLLl.out]; rfl)
        refine wp_store_mid 26 _ _ rfl g74 0 LL.toArray rfl rfl (by rw [List.size_toArray]; exact hth77) HLLi.out HLL1.out ?_
        refine hKC.out _ _ trivial (fun hHeld77 => ?_)
        clear hKC KC
        try simp only [Act.put, List.setIfInBounds_toArray, List.set_cons_zero, List.set_cons_succ]
        try rw [show LL.toArray.toList = LL from rfl]
        have hB77 := hB76.trans (ho77.below hB76.size (by rintro j rfl; exact hwg74))
        have Fq77 := Fq76.only ho77 (show ¬ g64 = g74 by omega)
        obtain ⟨w77, hw77⟩ : ∃ x, x = w76.setCells g74 0 LL := ⟨_, rfl⟩
        rw [← hw77] at hB77 Fq77 hs77 ⊢
        clear hw77 ho77 hth77
        refine wpAnyH_ready (rs := [11]) (by kernel_rfl) (by simp) ?_
        refine AllReadyH.cons rfl (fun KC hKC => ?_) AllReadyH.nil
        rw [if_pos (by rfl)]
        obtain ⟨hth78, hs78, ho78⟩ := put_arr Fq77 (show (Lib.byteCells zeros).length = RR.length by rw [HRRl.out]; rfl)
        refine wp_store_mid 26 _ _ rfl g64 0 RR.toArray rfl rfl (by rw [List.size_toArray]; exact hth78) HRRi.out HRR1.out ?_
        refine hKC.out _ _ trivial (fun hHeld78 => ?_)
        clear hKC KC
        try simp only [Act.put, List.setIfInBounds_toArray, List.set_cons_zero, List.set_cons_succ]
        try rw [show RR.toArray.toList = RR from rfl]
        have hB78 := hB77.trans (ho78.below hB77.size (by rintro j rfl; exact hwg64))
        have Fp78 := hs77.only ho78 (show ¬ g74 = g64 by omega)
        obtain ⟨w78, hw78⟩ : ∃ x, x = w77.setCells g64 0 RR := ⟨_, rfl⟩
        rw [← hw78] at hB78 Fp78 hs78 ⊢
        clear hw78 ho78 hth78
        refine wpAnyH_done (by kernel_rfl) ?_ _
        clear hHeld
        go_wp2_with fail
        go_meet
        exact ⟨_, _, rfl, rfl, Fp78, hs78, hB78⟩
  case rest =>
    obtain ⟨g11, g12, rfl, rfl, hP, hQ, hB5⟩ := hcut
    have hbs5 : Bs wc wc.heap.size Ar row := (hbs.below hB5 (Nat.le_refl _)).more hB5.size
    have hdg5 : DigsAt wc (some ⟨b, off, none⟩) ds := hdg.below hB5
    have hrs5 : True := trivial
    have hrg5 : True := trivial
    by_cases haK : a < K
    · have hled := Hled.out
      have hl := Hlo.out haK
      have ihX := ih K hKn hK0
      have haX := haK
      have hX32 := leadF_length K a row (ds.take q)
      obtain ⟨X, hX⟩ : ∃ X, (leadF K a row (ds.take q)).1 = X := ⟨_, rfl⟩
      have hjX : joinF X pv = rootF rs := by have h := congrArg Prod.fst hled; rw [hl] at h; simp only [hX] at h; exact h
      have hokX : true = (leadF K a row (ds.take q)).2 := by have h := congrArg Prod.snd hled; rw [hl] at h; exact h.symm
      rw [hX] at hX32
      obtain ⟨IL, hIL⟩ : ∃ V, V = Lib.byteCells (X) := ⟨_, rfl⟩
      have HILl := Lib.hid (show IL.length = 32 by rw [hIL, Lib.byteCells_length]; exact hX32)
      have HILi := Lib.hid (show (Try.prog.info? 26).map (·.size) = some IL.toArray.size by rw [List.size_toArray, HILl.out]; exact digInfo)
      have HIL1 := Lib.hid (show IL.toArray.all (·.oneCell') = true by rw [hIL]; exact dig_one _)
      have HILs := Lib.hid (show (Lib.byteCells zeros).toArray.size = IL.toArray.size by rw [List.size_toArray, List.size_toArray, HILl.out]; rfl)
      have HIL := Lib.hid hIL
      clear hIL
      have HILz := Lib.hid (show (Try.prog.info? 26).map (·.size) = some IL.length by rw [HILl.out]; exact digInfo)
      have HIe := Lib.hid (show IL = Lib.byteCells (leadF K a row (ds.take q)).1 by rw [hX]; exact HIL.out)
      have HjX := Lib.hid hjX
      have HokX := Lib.hid hokX
      have HX := Lib.hid hX
      clear hl hjX hokX hX
      go_wp2_with fail
      refine Calls.mono (lead_all K (by omega) (by omega) a row (ds.take q) IL true Ar lr cr (some ⟨b, off, none⟩) q cp wc haX hrl.out hr0 hlc hcm hbs5 Htq.out (by omega) hcp (hdg5.take q) HIe.out HokX.out) ?_
      rintro e w6 ⟨rfl, hb6⟩
      have hP6 := Arr.up hP hb6
      have hQ6 := Arr.up hQ hb6
      have hB6 := hB5.trans (hb6.mono hB5.size)
      clear hP hQ hbs5 hdg5 hrs5 hrg5
      go_wp2_with (change wpList _ _ _ _ _ (w6.alloc (.cells (Lib.byteCells zeros).toArray 26)); refine wpList_store_row rfl _ _ _ rfl w6.heap.size IL.toArray rfl rfl 26 (Lib.byteCells zeros).toArray (heap_alloc_new w6 _) HILi.out HILs.out HIL1.out ?_; obtain ⟨w7, hww7⟩ : ∃ x, x = (w6.alloc (.cells (Lib.byteCells zeros).toArray 26)).setRow w6.heap.size IL.toArray := ⟨_, rfl⟩; rw [← hww7]; obtain ⟨hD7, hb7⟩ := alloc_row w6 26 (Lib.byteCells zeros).toArray IL; rw [← hww7] at hD7 hb7; clear hww7)
      obtain ⟨g13, hg13⟩ : ∃ x, x = w6.heap.size := ⟨_, rfl⟩
      rw [← hg13] at hD7 ⊢
      clear hg13
      have hP7 := Arr.up hP6 hb7
      have hQ7 := Arr.up hQ6 hb7
      have hB7 := hB6.trans (hb7.mono hB6.size)
      have hrg7 : w7.rangeAt b (off + q * 32) PL := range_up hrg hB7 hb
      clear hP6 hQ6 hB6 hb7 hb6 hB5
      have hB70 : Below w7.heap.size w7 w7.drew := below_drew _ _
      have hqI2 : True := trivial
      by_cases hXM : X = rootF (rs.take K)
      · have HXM := Lib.hid hXM
        by_cases hPO : pv = rootF (rs.drop K)
        · have heqM := fun w => eqv_at Try.underlying26 X (rootF (rs.take K)) hX32 (rootF_length _) IL LL HIL.out HLL.out w
          rw [decide_eq_true hXM] at heqM
          have heqO := fun w => eqv_at Try.underlying26 pv (rootF (rs.drop K)) hpl (rootF_length _) PL RR HPL.out HRR.out w
          rw [decide_eq_true hPO] at heqO
          have HneX := Lib.hid (HneLo.out haX hPO)
          clear hXM hPO
          refine wp_region_held_drew (S := fun w' => w'.rangeAt g13 0 IL ∧ w'.rangeAt g11 0 LL ∧ w'.rangeAt b (off + q * 32) PL ∧ w'.rangeAt g12 0 RR) (by kernel_rfl) ⟨(hD7.drewN 1).range, (hP7.drewN 1).range, hrg7, (hQ7.drewN 1).range⟩ (fun hHeld => ?_)
          refine anyH_take (i := 0) (some 66) rfl rfl (by kernel_rfl) (by kernel_rfl) (by kernel_rfl) (fun _ _ _ h => h) (yieldsIf_load_mid (by rfl) 26 (.tmp 13) rfl g13 0 rfl IL _ (fun _ h => h.1) Try.underlying26 rfl HILz.out) (by assumption) ?_
          simp only [Act.put, List.setIfInBounds_toArray, List.set_cons_zero, List.set_cons_succ]
          refine anyH_take (i := 1) (some 67) rfl rfl (by kernel_rfl) (by kernel_rfl) (by kernel_rfl) (fun _ _ _ h => h) (yieldsIf_load_mid (by rfl) 26 (.tmp 11) rfl g11 0 rfl LL _ (fun _ h => h.2.1) Try.underlying26 rfl HLLz.out) (by assumption) ?_
          simp only [Act.put, List.setIfInBounds_toArray, List.set_cons_zero, List.set_cons_succ]
          refine anyH_take (i := 2) (v := .bool false) (some 68) rfl rfl (by kernel_rfl) (by kernel_rfl) (by kernel_rfl) (fun _ _ _ h => h) (Or.inl ⟨by rfl, fun _ hw => by go_simp⟩) (by assumption) ?_
          simp only [Act.put, List.setIfInBounds_toArray, List.set_cons_zero, List.set_cons_succ]
          refine anyH_take (i := 3) (v := .bool false) (some 69) rfl rfl (by kernel_rfl) (by kernel_rfl) (by kernel_rfl) (fun _ _ _ h => h) (Or.inl ⟨by rfl, fun _ hw => by rfl⟩) (by assumption) ?_
          simp only [Act.put, List.setIfInBounds_toArray, List.set_cons_zero, List.set_cons_succ]
          refine anyH_take (i := 4) (v := .slice (some ⟨b, off, none⟩) m cp) (some 70) rfl rfl (by kernel_rfl) (by kernel_rfl) (by kernel_rfl) (fun _ _ _ h => h) (Or.inl ⟨by rfl, fun _ hw => by rfl⟩) (by assumption) ?_
          simp only [Act.put, List.setIfInBounds_toArray, List.set_cons_zero, List.set_cons_succ]
          refine anyH_take (i := 5) (v := .int .i64 (q : Nat)) (some 71) rfl rfl (by kernel_rfl) (by kernel_rfl) (by kernel_rfl) (fun _ _ _ h => h) (Or.inl ⟨by rfl, fun _ hw => by rfl⟩) (by assumption) ?_
          simp only [Act.put, List.setIfInBounds_toArray, List.set_cons_zero, List.set_cons_succ]
          refine anyH_take (i := 6) (v := .pointer (some ⟨b, off + q * 32, none⟩)) (some 72) rfl rfl (by kernel_rfl) (by kernel_rfl) (by kernel_rfl) (fun _ _ _ h => h) (Or.inl ⟨by rfl, fun _ hw => by go_simp⟩) (by assumption) ?_
          simp only [Act.put, List.setIfInBounds_toArray, List.set_cons_zero, List.set_cons_succ]
          refine anyH_take (i := 7) (some 73) rfl rfl (by kernel_rfl) (by kernel_rfl) (by kernel_rfl) (fun _ _ _ h => h) (yieldsIf_load_mid (by rfl) 26 (.tmp 72) rfl b (off + q * 32) rfl PL _ (fun _ h => h.2.2.1) Try.underlying26 rfl HPLz.out) (by assumption) ?_
          simp only [Act.put, List.setIfInBounds_toArray, List.set_cons_zero, List.set_cons_succ]
          refine anyH_take (i := 8) (some 74) rfl rfl (by kernel_rfl) (by kernel_rfl) (by kernel_rfl) (fun _ _ _ h => h) (yieldsIf_load_mid (by rfl) 26 (.tmp 12) rfl g12 0 rfl RR _ (fun _ h => h.2.2.2) Try.underlying26 rfl HRRz.out) (by assumption) ?_
          simp only [Act.put, List.setIfInBounds_toArray, List.set_cons_zero, List.set_cons_succ]
          refine anyH_take (i := 9) (v := .bool false) (some 75) rfl rfl (by kernel_rfl) (by kernel_rfl) (by kernel_rfl) (fun _ _ _ h => h) (Or.inl ⟨by rfl, fun _ hw => by go_simp⟩) (by assumption) ?_
          simp only [Act.put, List.setIfInBounds_toArray, List.set_cons_zero, List.set_cons_succ]
          refine anyH_take (i := 10) (v := .bool false) (some 76) rfl rfl (by kernel_rfl) (by kernel_rfl) (by kernel_rfl) (fun _ _ _ h => h) (Or.inl ⟨by rfl, fun _ hw => by go_simp⟩) (by assumption) ?_
          simp only [Act.put, List.setIfInBounds_toArray, List.set_cons_zero, List.set_cons_succ]
          refine wpAnyH_done (by kernel_rfl) ?_ _
          clear hHeld
          have HledX := Lib.hid (show leadF K a row (ds.take q) = (rootF (rs.take K), true) from Prod.ext (HX.out.trans HXM.out) HokX.out.symm)
          obtain ⟨w8, hw8⟩ : ∃ x, x = w7.drew := ⟨_, rfl⟩
          have hD8 : Arr w8 g13 26 IL := by rw [hw8]; exact hD7.drewN 1
          have hB8 : Below w1.heap.size w1 w8 := by rw [hw8]; exact hB7.trans (below_drew _ _)
          try rw [← hw8]
          clear hw8 hD7 hP7 hQ7 hB7 hrg7 heqM heqO hqI2
          go_wp2_with fail
          refine wp_region_held_drew (S := fun _ => True) (by kernel_rfl) trivial (fun hHeld => ?_)
          have hb9 : Below w8.heap.size w8 w8.drew := below_drew _ _
          obtain ⟨w9, hw9⟩ : ∃ x, x = w8.drew := ⟨_, rfl⟩
          rw [← hw9] at hb9 ⊢
          try rw [← hw9] at hHeld
          clear hw9
          have hB9 := hB8.trans (hb9.mono hB8.size)
          refine anyH_take (i := 0) (v := .slice (some ⟨blk, off0, none⟩) n c) (some 87) rfl rfl (by kernel_rfl) (by kernel_rfl) (by kernel_rfl) (fun _ _ _ h => h) (Or.inl ⟨by rfl, fun _ hw => by rfl⟩) (by assumption) ?_
          simp only [Act.put, List.setIfInBounds_toArray, List.set_cons_zero, List.set_cons_succ]
          refine anyH_take (i := 1) (v := .int .i64 (K : Nat)) (some 88) rfl rfl (by kernel_rfl) (by kernel_rfl) (by kernel_rfl) (fun _ _ _ h => h) (Or.inl ⟨by rfl, fun _ hw => by rfl⟩) (by assumption) ?_
          simp only [Act.put, List.setIfInBounds_toArray, List.set_cons_zero, List.set_cons_succ]
          refine anyH_take (i := 2) (v := .slice (some ⟨blk, off0, none⟩) K c) (some 89) rfl rfl (by kernel_rfl) (by kernel_rfl) (by kernel_rfl) (fun _ _ _ h => h) (Or.inl ⟨by rfl, fun _ hw => by go_simp⟩) (by assumption) ?_
          simp only [Act.put, List.setIfInBounds_toArray, List.set_cons_zero, List.set_cons_succ]
          refine anyH_take (i := 3) (v := .int .i64 (a : Nat)) (some 90) rfl rfl (by kernel_rfl) (by kernel_rfl) (by kernel_rfl) (fun _ _ _ h => h) (Or.inl ⟨by rfl, fun _ hw => by rfl⟩) (by assumption) ?_
          simp only [Act.put, List.setIfInBounds_toArray, List.set_cons_zero, List.set_cons_succ]
          refine anyH_take (i := 4) (v := .slice Ar lr cr) (some 91) rfl rfl (by kernel_rfl) (by kernel_rfl) (by kernel_rfl) (fun _ _ _ h => h) (Or.inl ⟨by rfl, fun _ hw => by rfl⟩) (by assumption) ?_
          simp only [Act.put, List.setIfInBounds_toArray, List.set_cons_zero, List.set_cons_succ]
          refine anyH_take (i := 5) (v := .slice (some ⟨b, off, none⟩) m cp) (some 92) rfl rfl (by kernel_rfl) (by kernel_rfl) (by kernel_rfl) (fun _ _ _ h => h) (Or.inl ⟨by rfl, fun _ hw => by rfl⟩) (by assumption) ?_
          simp only [Act.put, List.setIfInBounds_toArray, List.set_cons_zero, List.set_cons_succ]
          refine anyH_take (i := 6) (v := .int .i64 (q : Nat)) (some 93) rfl rfl (by kernel_rfl) (by kernel_rfl) (by kernel_rfl) (fun _ _ _ h => h) (Or.inl ⟨by rfl, fun _ hw => by rfl⟩) (by assumption) ?_
          simp only [Act.put, List.setIfInBounds_toArray, List.set_cons_zero, List.set_cons_succ]
          refine anyH_take (i := 7) (v := .slice (some ⟨b, off, none⟩) q cp) (some 94) rfl rfl (by kernel_rfl) (by kernel_rfl) (by kernel_rfl) (fun _ _ _ h => h) (Or.inl ⟨by rfl, fun _ hw => by go_simp⟩) (by assumption) ?_
          simp only [Act.put, List.setIfInBounds_toArray, List.set_cons_zero, List.set_cons_succ]
          refine wpAnyH_ready (rs := [8]) (by kernel_rfl) (by simp) ?_
          refine AllReadyH.cons rfl (fun KC hKC => ?_) AllReadyH.nil
          go_simp
          go_at_call 22
          refine Calls.mono (ihX (rs.take K) _ c a row (ds.take q) Ar lr cr (some ⟨b, off, none⟩) q cp _ Hlk.out haX hKc hcm63 Hrk.out (((hrs.below hB9 (Nat.le_refl _)).take K).more hB9.size) hrl.out hr0 hlc hcm ((hbs.below hB9 (Nat.le_refl _)).more hB9.size) Htq.out (by omega) hcp ((hdg.below hB9).take q) HneX.out HledX.out) ?_
          rintro e w41 ⟨rfl, hb41⟩
          have hB41 := hB9.trans (hb41.mono hB9.size)
          go_wp2_with fail
          refine hKC.out _ _ trivial (fun hHeld41 => ?_)
          clear hKC KC
          try simp only [Act.put, List.setIfInBounds_toArray, List.set_cons_zero, List.set_cons_succ]
          refine anyH_take (i := 9) (v := .bool true) (some 8) rfl rfl (by kernel_rfl) (by kernel_rfl) (by kernel_rfl) (fun _ _ _ h => h) (Or.inl ⟨by rfl, fun _ hw => by rfl⟩) (by assumption) ?_
          simp only [Act.put, List.setIfInBounds_toArray, List.set_cons_zero, List.set_cons_succ]
          refine wpAnyH_done (by kernel_rfl) ?_ _
          have hfin := hB41
          clear hHeld
          go_wp2_with fail
          go_ret
          exact ⟨rfl, hfin⟩
        · have heqM := fun w => eqv_at Try.underlying26 X (rootF (rs.take K)) hX32 (rootF_length _) IL LL HIL.out HLL.out w
          rw [decide_eq_true hXM] at heqM
          have heqO := fun w => eqv_at Try.underlying26 pv (rootF (rs.drop K)) hpl (rootF_length _) PL RR HPL.out HRR.out w
          rw [decide_eq_false hPO] at heqO
          clear hXM hPO
          refine wp_region_held_drew (S := fun w' => w'.rangeAt g13 0 IL ∧ w'.rangeAt g11 0 LL ∧ w'.rangeAt b (off + q * 32) PL ∧ w'.rangeAt g12 0 RR) (by kernel_rfl) ⟨(hD7.drewN 1).range, (hP7.drewN 1).range, hrg7, (hQ7.drewN 1).range⟩ (fun hHeld => ?_)
          refine anyH_take (i := 0) (some 66) rfl rfl (by kernel_rfl) (by kernel_rfl) (by kernel_rfl) (fun _ _ _ h => h) (yieldsIf_load_mid (by rfl) 26 (.tmp 13) rfl g13 0 rfl IL _ (fun _ h => h.1) Try.underlying26 rfl HILz.out) (by assumption) ?_
          simp only [Act.put, List.setIfInBounds_toArray, List.set_cons_zero, List.set_cons_succ]
          refine anyH_take (i := 1) (some 67) rfl rfl (by kernel_rfl) (by kernel_rfl) (by kernel_rfl) (fun _ _ _ h => h) (yieldsIf_load_mid (by rfl) 26 (.tmp 11) rfl g11 0 rfl LL _ (fun _ h => h.2.1) Try.underlying26 rfl HLLz.out) (by assumption) ?_
          simp only [Act.put, List.setIfInBounds_toArray, List.set_cons_zero, List.set_cons_succ]
          refine anyH_take (i := 2) (v := .bool false) (some 68) rfl rfl (by kernel_rfl) (by kernel_rfl) (by kernel_rfl) (fun _ _ _ h => h) (Or.inl ⟨by rfl, fun _ hw => by go_simp⟩) (by assumption) ?_
          simp only [Act.put, List.setIfInBounds_toArray, List.set_cons_zero, List.set_cons_succ]
          refine anyH_take (i := 3) (v := .bool false) (some 69) rfl rfl (by kernel_rfl) (by kernel_rfl) (by kernel_rfl) (fun _ _ _ h => h) (Or.inl ⟨by rfl, fun _ hw => by rfl⟩) (by assumption) ?_
          simp only [Act.put, List.setIfInBounds_toArray, List.set_cons_zero, List.set_cons_succ]
          refine anyH_take (i := 4) (v := .slice (some ⟨b, off, none⟩) m cp) (some 70) rfl rfl (by kernel_rfl) (by kernel_rfl) (by kernel_rfl) (fun _ _ _ h => h) (Or.inl ⟨by rfl, fun _ hw => by rfl⟩) (by assumption) ?_
          simp only [Act.put, List.setIfInBounds_toArray, List.set_cons_zero, List.set_cons_succ]
          refine anyH_take (i := 5) (v := .int .i64 (q : Nat)) (some 71) rfl rfl (by kernel_rfl) (by kernel_rfl) (by kernel_rfl) (fun _ _ _ h => h) (Or.inl ⟨by rfl, fun _ hw => by rfl⟩) (by assumption) ?_
          simp only [Act.put, List.setIfInBounds_toArray, List.set_cons_zero, List.set_cons_succ]
          refine anyH_take (i := 6) (v := .pointer (some ⟨b, off + q * 32, none⟩)) (some 72) rfl rfl (by kernel_rfl) (by kernel_rfl) (by kernel_rfl) (fun _ _ _ h => h) (Or.inl ⟨by rfl, fun _ hw => by go_simp⟩) (by assumption) ?_
          simp only [Act.put, List.setIfInBounds_toArray, List.set_cons_zero, List.set_cons_succ]
          refine anyH_take (i := 7) (some 73) rfl rfl (by kernel_rfl) (by kernel_rfl) (by kernel_rfl) (fun _ _ _ h => h) (yieldsIf_load_mid (by rfl) 26 (.tmp 72) rfl b (off + q * 32) rfl PL _ (fun _ h => h.2.2.1) Try.underlying26 rfl HPLz.out) (by assumption) ?_
          simp only [Act.put, List.setIfInBounds_toArray, List.set_cons_zero, List.set_cons_succ]
          refine anyH_take (i := 8) (some 74) rfl rfl (by kernel_rfl) (by kernel_rfl) (by kernel_rfl) (fun _ _ _ h => h) (yieldsIf_load_mid (by rfl) 26 (.tmp 12) rfl g12 0 rfl RR _ (fun _ h => h.2.2.2) Try.underlying26 rfl HRRz.out) (by assumption) ?_
          simp only [Act.put, List.setIfInBounds_toArray, List.set_cons_zero, List.set_cons_succ]
          refine anyH_take (i := 9) (v := .bool true) (some 75) rfl rfl (by kernel_rfl) (by kernel_rfl) (by kernel_rfl) (fun _ _ _ h => h) (Or.inl ⟨by rfl, fun _ hw => by go_simp⟩) (by assumption) ?_
          simp only [Act.put, List.setIfInBounds_toArray, List.set_cons_zero, List.set_cons_succ]
          refine anyH_take (i := 10) (v := .bool true) (some 76) rfl rfl (by kernel_rfl) (by kernel_rfl) (by kernel_rfl) (fun _ _ _ h => h) (Or.inl ⟨by rfl, fun _ hw => by go_simp⟩) (by assumption) ?_
          simp only [Act.put, List.setIfInBounds_toArray, List.set_cons_zero, List.set_cons_succ]
          refine wpAnyH_done (by kernel_rfl) ?_ _
          clear hHeld
          obtain ⟨w8, hw8⟩ : ∃ x, x = w7.drew := ⟨_, rfl⟩
          have hD8 : Arr w8 g13 26 IL := by rw [hw8]; exact hD7.drewN 1
          have hB8 : Below w1.heap.size w1 w8 := by rw [hw8]; exact hB7.trans (below_drew _ _)
          try rw [← hw8]
          clear hw8 hD7 hP7 hQ7 hB7 hrg7 heqM heqO hqI2
          go_wp2_with fail
          obtain ⟨TL, hTL⟩ : ∃ V, V = Lib.byteCells (rootF rs) := ⟨_, rfl⟩
          have HTLl := Lib.hid (show TL.length = 32 by rw [hTL, Lib.byteCells_length]; exact rootF_length _)
          have HTLi := Lib.hid (show (Try.prog.info? 26).map (·.size) = some TL.toArray.size by rw [List.size_toArray, HTLl.out]; exact digInfo)
          have HTL1 := Lib.hid (show TL.toArray.all (·.oneCell') = true by rw [hTL]; exact dig_one _)
          have HTLs := Lib.hid (show (Lib.byteCells zeros).toArray.size = TL.toArray.size by rw [List.size_toArray, List.size_toArray, HTLl.out]; rfl)
          have HTL := Lib.hid hTL
          clear hTL
          have HT1 := Lib.hid (show TL = Lib.byteCells (shaF (tagF 1 [X, pv])) by rw [HTL.out, ← HjX.out]; rfl)
          have heqT := fun w => eqv_at Try.underlying26 _ _ (rootF_length rs) (rootF_length rs) TL TL HTL.out HTL.out w
          rw [decide_eq_true rfl] at heqT
          refine wp_region_held_drew (S := fun _ => True) (by kernel_rfl) trivial (fun hHeld => ?_)
          have hb9 : Below w8.heap.size w8 w8.drew := below_drew _ _
          obtain ⟨w9, hw9⟩ : ∃ x, x = w8.drew := ⟨_, rfl⟩
          rw [← hw9] at hb9 ⊢
          try rw [← hw9] at hHeld
          clear hw9
          have hB9 := hB8.trans (hb9.mono hB8.size)
          have hD9 := Arr.up hD8 hb9
          rw [HIL.out] at hD9
          refine anyH_take (i := 0) (v := .slice (some ⟨g13, 0, none⟩) 32 32) (some 77) rfl rfl (by kernel_rfl) (by kernel_rfl) (by kernel_rfl) (fun _ _ _ h => h) (Or.inl ⟨by rfl, fun _ hw => by go_simp⟩) (by assumption) ?_
          simp only [Act.put, List.setIfInBounds_toArray, List.set_cons_zero, List.set_cons_succ]
          refine anyH_take (i := 1) (v := .slice (some ⟨b, off, none⟩) m cp) (some 78) rfl rfl (by kernel_rfl) (by kernel_rfl) (by kernel_rfl) (fun _ _ _ h => h) (Or.inl ⟨by rfl, fun _ hw => by rfl⟩) (by assumption) ?_
          simp only [Act.put, List.setIfInBounds_toArray, List.set_cons_zero, List.set_cons_succ]
          refine anyH_take (i := 2) (v := .int .i64 (q : Nat)) (some 79) rfl rfl (by kernel_rfl) (by kernel_rfl) (by kernel_rfl) (fun _ _ _ h => h) (Or.inl ⟨by rfl, fun _ hw => by rfl⟩) (by assumption) ?_
          simp only [Act.put, List.setIfInBounds_toArray, List.set_cons_zero, List.set_cons_succ]
          refine anyH_take (i := 3) (v := .pointer (some ⟨b, off + q * 32, none⟩)) (some 80) rfl rfl (by kernel_rfl) (by kernel_rfl) (by kernel_rfl) (fun _ _ _ h => h) (Or.inl ⟨by rfl, fun _ hw => by go_simp⟩) (by assumption) ?_
          simp only [Act.put, List.setIfInBounds_toArray, List.set_cons_zero, List.set_cons_succ]
          refine anyH_take (i := 4) (v := .slice (some ⟨b, off + q * 32, none⟩) 32 32) (some 81) rfl rfl (by kernel_rfl) (by kernel_rfl) (by kernel_rfl) (fun _ _ _ h => h) (Or.inl ⟨by rfl, fun _ hw => by go_simp⟩) (by assumption) ?_
          simp only [Act.put, List.setIfInBounds_toArray, List.set_cons_zero, List.set_cons_succ]
          refine anyH_take (i := 7) (v := .slice (some ⟨blk, off0, none⟩) n c) (some 84) rfl rfl (by kernel_rfl) (by kernel_rfl) (by kernel_rfl) (fun _ _ _ h => h) (Or.inl ⟨by rfl, fun _ hw => by rfl⟩) (by assumption) ?_
          simp only [Act.put, List.setIfInBounds_toArray, List.set_cons_zero, List.set_cons_succ]
          refine wpAnyH_ready (rs := [5]) (by kernel_rfl) (by simp) ?_
          refine AllReadyH.cons rfl (fun KC hKC => ?_) AllReadyH.nil
          go_simp
          have hBa41 := hB9.alloc hB9.size (.cells #[.slice (some ⟨g13, 0, none⟩) 32 32, .slice (some ⟨b, off + q * 32, none⟩) 32 32] 24)
          refine hKC.out _ _ trivial (fun hHeld41 => ?_)
          clear hKC KC
          try simp only [Act.put, List.setIfInBounds_toArray, List.set_cons_zero, List.set_cons_succ]
          change wpAnyH _ _ _ _ _ _ _ _ (w9.alloc (.cells #[.slice (some ⟨g13, 0, none⟩) 32 32, .slice (some ⟨b, off + q * 32, none⟩) 32 32] 24))
          obtain ⟨g41, hg41⟩ : ∃ x, x = w9.heap.size := ⟨_, rfl⟩
          have N41 := rows_two (w := w9) 24 hX32 hpl (Nat.le_refl 32) (by unfold maxLen; omega) (Nat.le_refl 32) (by unfold maxLen; omega) (Arr.bs hD9) (range_bs (l := pv) (by rw [← HPL.out]; exact range_up hrg hB9 hb) (Nat.lt_of_lt_of_le hb hB9.size)) (Nat.le_refl _)
          have hb41 : Below w9.heap.size w9 (w9.alloc (.cells #[.slice (some ⟨g13, 0, none⟩) 32 32, .slice (some ⟨b, off + q * 32, none⟩) 32 32] 24)) := (Below.refl _ _).alloc (Nat.le_refl _) _
          obtain ⟨w41, hw41⟩ : ∃ x, x = w9.alloc (.cells #[.slice (some ⟨g13, 0, none⟩) 32 32, .slice (some ⟨b, off + q * 32, none⟩) 32 32] 24) := ⟨_, rfl⟩
          have hBs41 : w41.heap.size = w9.heap.size + 1 := by rw [hw41]; simp
          rw [← hw41] at hb41 N41 ⊢
          have Fd41 := Arr.up hD9 hb41
          clear hD9
          have hB41 := hB9.trans (hb41.mono hB9.size)
          rw [← hBs41, ← hg41] at N41
          try rw [← hg41]
          clear hw41 hg41 hBs41
          refine wpAnyH_ready (rs := [6]) (by kernel_rfl) (by simp) ?_
          refine AllReadyH.cons rfl (fun KC hKC => ?_) AllReadyH.nil
          go_simp
          go_at_call 26
          refine Calls.mono (rtagd_at 1 1 [X, pv] TL (some ⟨g41, 0, none⟩) 2 2 _ rfl HT1.out rfl (by omega) N41 (tag_two_le 1 hX32 hpl)) ?_
          rintro e w42 ⟨rfl, hb42⟩
          have hB42 := hB41.trans (hb42.mono hB41.size)
          have Fd42 := Arr.up Fd41 hb42
          clear Fd41
          have Fz42 := ((N41).below hb42 (Nat.le_refl _)).more hb42.size
          clear N41
          go_wp2_with fail
          refine hKC.out _ _ trivial (fun hHeld42 => ?_)
          clear hKC KC
          try simp only [Act.put, List.setIfInBounds_toArray, List.set_cons_zero, List.set_cons_succ]
          refine wpAnyH_ready (rs := [8]) (by kernel_rfl) (by simp) ?_
          refine AllReadyH.cons rfl (fun KC hKC => ?_) AllReadyH.nil
          go_simp
          go_at_call 15
          refine Calls.mono (rroot_at rs TL _ n c _ Hn.out HTL.out (by omega) hc hcm63 Hr.out (((hrs.below hB42 (Nat.le_refl _))).more hB42.size)) ?_
          rintro e w43 ⟨rfl, hb43⟩
          have hB43 := hB42.trans (hb43.mono hB42.size)
          have Fd43 := Arr.up Fd42 hb43
          clear Fd42
          have Fz43 := ((Fz42).below hb43 (Nat.le_refl _)).more hb43.size
          clear Fz42
          go_wp2_with fail
          refine hKC.out _ _ trivial (fun hHeld43 => ?_)
          clear hKC KC
          try simp only [Act.put, List.setIfInBounds_toArray, List.set_cons_zero, List.set_cons_succ]
          refine anyH_take (i := 9) (v := .bool true) (some 86) rfl rfl (by kernel_rfl) (by kernel_rfl) (by kernel_rfl) (fun _ _ _ h => h) (Or.inl ⟨by rfl, fun _ hw => by go_simp⟩) (by assumption) ?_
          simp only [Act.put, List.setIfInBounds_toArray, List.set_cons_zero, List.set_cons_succ]
          refine anyH_take (i := 10) (v := .bool true) (some 8) rfl rfl (by kernel_rfl) (by kernel_rfl) (by kernel_rfl) (fun _ _ _ h => h) (Or.inl ⟨by rfl, fun _ hw => by rfl⟩) (by assumption) ?_
          simp only [Act.put, List.setIfInBounds_toArray, List.set_cons_zero, List.set_cons_succ]
          refine wpAnyH_done (by kernel_rfl) ?_ _
          have hfin := hB43
          clear hHeld
          go_wp2_with fail
          go_ret
          exact ⟨rfl, hfin⟩
      · have heqM := fun w => eqv_at Try.underlying26 X (rootF (rs.take K)) hX32 (rootF_length _) IL LL HIL.out HLL.out w
        rw [decide_eq_false hXM] at heqM
        have heqO : True := trivial
        clear hXM
        refine wp_region_held_drew (S := fun w' => w'.rangeAt g13 0 IL ∧ w'.rangeAt g11 0 LL ∧ w'.rangeAt b (off + q * 32) PL ∧ w'.rangeAt g12 0 RR) (by kernel_rfl) ⟨(hD7.drewN 1).range, (hP7.drewN 1).range, hrg7, (hQ7.drewN 1).range⟩ (fun hHeld => ?_)
        refine anyH_take (i := 0) (some 66) rfl rfl (by kernel_rfl) (by kernel_rfl) (by kernel_rfl) (fun _ _ _ h => h) (yieldsIf_load_mid (by rfl) 26 (.tmp 13) rfl g13 0 rfl IL _ (fun _ h => h.1) Try.underlying26 rfl HILz.out) (by assumption) ?_
        simp only [Act.put, List.setIfInBounds_toArray, List.set_cons_zero, List.set_cons_succ]
        refine anyH_take (i := 1) (some 67) rfl rfl (by kernel_rfl) (by kernel_rfl) (by kernel_rfl) (fun _ _ _ h => h) (yieldsIf_load_mid (by rfl) 26 (.tmp 11) rfl g11 0 rfl LL _ (fun _ h => h.2.1) Try.underlying26 rfl HLLz.out) (by assumption) ?_
        simp only [Act.put, List.setIfInBounds_toArray, List.set_cons_zero, List.set_cons_succ]
        refine anyH_take (i := 2) (v := .bool true) (some 68) rfl rfl (by kernel_rfl) (by kernel_rfl) (by kernel_rfl) (fun _ _ _ h => h) (Or.inl ⟨by rfl, fun _ hw => by go_simp⟩) (by assumption) ?_
        simp only [Act.put, List.setIfInBounds_toArray, List.set_cons_zero, List.set_cons_succ]
        refine anyH_take (i := 3) (v := .bool true) (some 69) rfl rfl (by kernel_rfl) (by kernel_rfl) (by kernel_rfl) (fun _ _ _ h => h) (Or.inl ⟨by rfl, fun _ hw => by rfl⟩) (by assumption) ?_
        simp only [Act.put, List.setIfInBounds_toArray, List.set_cons_zero, List.set_cons_succ]
        refine anyH_take (i := 4) (v := undef) (some 70) rfl rfl (by kernel_rfl) (by kernel_rfl) (by kernel_rfl) (fun _ _ _ h => h) (Or.inr ⟨by rfl, rfl⟩) (by assumption) ?_
        simp only [Act.put, List.setIfInBounds_toArray, List.set_cons_zero, List.set_cons_succ]
        refine anyH_take (i := 5) (v := undef) (some 71) rfl rfl (by kernel_rfl) (by kernel_rfl) (by kernel_rfl) (fun _ _ _ h => h) (Or.inr ⟨by rfl, rfl⟩) (by assumption) ?_
        simp only [Act.put, List.setIfInBounds_toArray, List.set_cons_zero, List.set_cons_succ]
        refine anyH_take (i := 6) (v := undef) (some 72) rfl rfl (by kernel_rfl) (by kernel_rfl) (by kernel_rfl) (fun _ _ _ h => h) (Or.inr ⟨by rfl, rfl⟩) (by assumption) ?_
        simp only [Act.put, List.setIfInBounds_toArray, List.set_cons_zero, List.set_cons_succ]
        refine anyH_take (i := 7) (v := undef) (some 73) rfl rfl (by kernel_rfl) (by kernel_rfl) (by kernel_rfl) (fun _ _ _ h => h) (Or.inr ⟨by rfl, rfl⟩) (by assumption) ?_
        simp only [Act.put, List.setIfInBounds_toArray, List.set_cons_zero, List.set_cons_succ]
        refine anyH_take (i := 8) (v := undef) (some 74) rfl rfl (by kernel_rfl) (by kernel_rfl) (by kernel_rfl) (fun _ _ _ h => h) (Or.inr ⟨by rfl, rfl⟩) (by assumption) ?_
        simp only [Act.put, List.setIfInBounds_toArray, List.set_cons_zero, List.set_cons_succ]
        refine anyH_take (i := 9) (v := undef) (some 75) rfl rfl (by kernel_rfl) (by kernel_rfl) (by kernel_rfl) (fun _ _ _ h => h) (Or.inr ⟨by rfl, rfl⟩) (by assumption) ?_
        simp only [Act.put, List.setIfInBounds_toArray, List.set_cons_zero, List.set_cons_succ]
        refine anyH_take (i := 10) (v := .bool true) (some 76) rfl rfl (by kernel_rfl) (by kernel_rfl) (by kernel_rfl) (fun _ _ _ h => h) (Or.inl ⟨by rfl, fun _ hw => by go_simp⟩) (by assumption) ?_
        simp only [Act.put, List.setIfInBounds_toArray, List.set_cons_zero, List.set_cons_succ]
        refine wpAnyH_done (by kernel_rfl) ?_ _
        clear hHeld
        obtain ⟨w8, hw8⟩ : ∃ x, x = w7.drew := ⟨_, rfl⟩
        have hD8 : Arr w8 g13 26 IL := by rw [hw8]; exact hD7.drewN 1
        have hB8 : Below w1.heap.size w1 w8 := by rw [hw8]; exact hB7.trans (below_drew _ _)
        try rw [← hw8]
        clear hw8 hD7 hP7 hQ7 hB7 hrg7 heqM heqO hqI2
        go_wp2_with fail
        obtain ⟨TL, hTL⟩ : ∃ V, V = Lib.byteCells (rootF rs) := ⟨_, rfl⟩
        have HTLl := Lib.hid (show TL.length = 32 by rw [hTL, Lib.byteCells_length]; exact rootF_length _)
        have HTLi := Lib.hid (show (Try.prog.info? 26).map (·.size) = some TL.toArray.size by rw [List.size_toArray, HTLl.out]; exact digInfo)
        have HTL1 := Lib.hid (show TL.toArray.all (·.oneCell') = true by rw [hTL]; exact dig_one _)
        have HTLs := Lib.hid (show (Lib.byteCells zeros).toArray.size = TL.toArray.size by rw [List.size_toArray, List.size_toArray, HTLl.out]; rfl)
        have HTL := Lib.hid hTL
        clear hTL
        have HT1 := Lib.hid (show TL = Lib.byteCells (shaF (tagF 1 [X, pv])) by rw [HTL.out, ← HjX.out]; rfl)
        have heqT := fun w => eqv_at Try.underlying26 _ _ (rootF_length rs) (rootF_length rs) TL TL HTL.out HTL.out w
        rw [decide_eq_true rfl] at heqT
        refine wp_region_held_drew (S := fun _ => True) (by kernel_rfl) trivial (fun hHeld => ?_)
        have hb9 : Below w8.heap.size w8 w8.drew := below_drew _ _
        obtain ⟨w9, hw9⟩ : ∃ x, x = w8.drew := ⟨_, rfl⟩
        rw [← hw9] at hb9 ⊢
        try rw [← hw9] at hHeld
        clear hw9
        have hB9 := hB8.trans (hb9.mono hB8.size)
        have hD9 := Arr.up hD8 hb9
        rw [HIL.out] at hD9
        refine anyH_take (i := 0) (v := .slice (some ⟨g13, 0, none⟩) 32 32) (some 77) rfl rfl (by kernel_rfl) (by kernel_rfl) (by kernel_rfl) (fun _ _ _ h => h) (Or.inl ⟨by rfl, fun _ hw => by go_simp⟩) (by assumption) ?_
        simp only [Act.put, List.setIfInBounds_toArray, List.set_cons_zero, List.set_cons_succ]
        refine anyH_take (i := 1) (v := .slice (some ⟨b, off, none⟩) m cp) (some 78) rfl rfl (by kernel_rfl) (by kernel_rfl) (by kernel_rfl) (fun _ _ _ h => h) (Or.inl ⟨by rfl, fun _ hw => by rfl⟩) (by assumption) ?_
        simp only [Act.put, List.setIfInBounds_toArray, List.set_cons_zero, List.set_cons_succ]
        refine anyH_take (i := 2) (v := .int .i64 (q : Nat)) (some 79) rfl rfl (by kernel_rfl) (by kernel_rfl) (by kernel_rfl) (fun _ _ _ h => h) (Or.inl ⟨by rfl, fun _ hw => by rfl⟩) (by assumption) ?_
        simp only [Act.put, List.setIfInBounds_toArray, List.set_cons_zero, List.set_cons_succ]
        refine anyH_take (i := 3) (v := .pointer (some ⟨b, off + q * 32, none⟩)) (some 80) rfl rfl (by kernel_rfl) (by kernel_rfl) (by kernel_rfl) (fun _ _ _ h => h) (Or.inl ⟨by rfl, fun _ hw => by go_simp⟩) (by assumption) ?_
        simp only [Act.put, List.setIfInBounds_toArray, List.set_cons_zero, List.set_cons_succ]
        refine anyH_take (i := 4) (v := .slice (some ⟨b, off + q * 32, none⟩) 32 32) (some 81) rfl rfl (by kernel_rfl) (by kernel_rfl) (by kernel_rfl) (fun _ _ _ h => h) (Or.inl ⟨by rfl, fun _ hw => by go_simp⟩) (by assumption) ?_
        simp only [Act.put, List.setIfInBounds_toArray, List.set_cons_zero, List.set_cons_succ]
        refine anyH_take (i := 7) (v := .slice (some ⟨blk, off0, none⟩) n c) (some 84) rfl rfl (by kernel_rfl) (by kernel_rfl) (by kernel_rfl) (fun _ _ _ h => h) (Or.inl ⟨by rfl, fun _ hw => by rfl⟩) (by assumption) ?_
        simp only [Act.put, List.setIfInBounds_toArray, List.set_cons_zero, List.set_cons_succ]
        refine wpAnyH_ready (rs := [5]) (by kernel_rfl) (by simp) ?_
        refine AllReadyH.cons rfl (fun KC hKC => ?_) AllReadyH.nil
        go_simp
        have hBa41 := hB9.alloc hB9.size (.cells #[.slice (some ⟨g13, 0, none⟩) 32 32, .slice (some ⟨b, off + q * 32, none⟩) 32 32] 24)
        refine hKC.out _ _ trivial (fun hHeld41 => ?_)
        clear hKC KC
        try simp only [Act.put, List.setIfInBounds_toArray, List.set_cons_zero, List.set_cons_succ]
        change wpAnyH _ _ _ _ _ _ _ _ (w9.alloc (.cells #[.slice (some ⟨g13, 0, none⟩) 32 32, .slice (some ⟨b, off + q * 32, none⟩) 32 32] 24))
        obtain ⟨g41, hg41⟩ : ∃ x, x = w9.heap.size := ⟨_, rfl⟩
        have N41 := rows_two (w := w9) 24 hX32 hpl (Nat.le_refl 32) (by unfold maxLen; omega) (Nat.le_refl 32) (by unfold maxLen; omega) (Arr.bs hD9) (range_bs (l := pv) (by rw [← HPL.out]; exact range_up hrg hB9 hb) (Nat.lt_of_lt_of_le hb hB9.size)) (Nat.le_refl _)
        have hb41 : Below w9.heap.size w9 (w9.alloc (.cells #[.slice (some ⟨g13, 0, none⟩) 32 32, .slice (some ⟨b, off + q * 32, none⟩) 32 32] 24)) := (Below.refl _ _).alloc (Nat.le_refl _) _
        obtain ⟨w41, hw41⟩ : ∃ x, x = w9.alloc (.cells #[.slice (some ⟨g13, 0, none⟩) 32 32, .slice (some ⟨b, off + q * 32, none⟩) 32 32] 24) := ⟨_, rfl⟩
        have hBs41 : w41.heap.size = w9.heap.size + 1 := by rw [hw41]; simp
        rw [← hw41] at hb41 N41 ⊢
        have Fd41 := Arr.up hD9 hb41
        clear hD9
        have hB41 := hB9.trans (hb41.mono hB9.size)
        rw [← hBs41, ← hg41] at N41
        try rw [← hg41]
        clear hw41 hg41 hBs41
        refine wpAnyH_ready (rs := [6]) (by kernel_rfl) (by simp) ?_
        refine AllReadyH.cons rfl (fun KC hKC => ?_) AllReadyH.nil
        go_simp
        go_at_call 26
        refine Calls.mono (rtagd_at 1 1 [X, pv] TL (some ⟨g41, 0, none⟩) 2 2 _ rfl HT1.out rfl (by omega) N41 (tag_two_le 1 hX32 hpl)) ?_
        rintro e w42 ⟨rfl, hb42⟩
        have hB42 := hB41.trans (hb42.mono hB41.size)
        have Fd42 := Arr.up Fd41 hb42
        clear Fd41
        have Fz42 := ((N41).below hb42 (Nat.le_refl _)).more hb42.size
        clear N41
        go_wp2_with fail
        refine hKC.out _ _ trivial (fun hHeld42 => ?_)
        clear hKC KC
        try simp only [Act.put, List.setIfInBounds_toArray, List.set_cons_zero, List.set_cons_succ]
        refine wpAnyH_ready (rs := [8]) (by kernel_rfl) (by simp) ?_
        refine AllReadyH.cons rfl (fun KC hKC => ?_) AllReadyH.nil
        go_simp
        go_at_call 15
        refine Calls.mono (rroot_at rs TL _ n c _ Hn.out HTL.out (by omega) hc hcm63 Hr.out (((hrs.below hB42 (Nat.le_refl _))).more hB42.size)) ?_
        rintro e w43 ⟨rfl, hb43⟩
        have hB43 := hB42.trans (hb43.mono hB42.size)
        have Fd43 := Arr.up Fd42 hb43
        clear Fd42
        have Fz43 := ((Fz42).below hb43 (Nat.le_refl _)).more hb43.size
        clear Fz42
        go_wp2_with fail
        refine hKC.out _ _ trivial (fun hHeld43 => ?_)
        clear hKC KC
        try simp only [Act.put, List.setIfInBounds_toArray, List.set_cons_zero, List.set_cons_succ]
        refine anyH_take (i := 9) (v := .bool true) (some 86) rfl rfl (by kernel_rfl) (by kernel_rfl) (by kernel_rfl) (fun _ _ _ h => h) (Or.inl ⟨by rfl, fun _ hw => by go_simp⟩) (by assumption) ?_
        simp only [Act.put, List.setIfInBounds_toArray, List.set_cons_zero, List.set_cons_succ]
        refine anyH_take (i := 10) (v := .bool true) (some 8) rfl rfl (by kernel_rfl) (by kernel_rfl) (by kernel_rfl) (fun _ _ _ h => h) (Or.inl ⟨by rfl, fun _ hw => by rfl⟩) (by assumption) ?_
        simp only [Act.put, List.setIfInBounds_toArray, List.set_cons_zero, List.set_cons_succ]
        refine wpAnyH_done (by kernel_rfl) ?_ _
        have hfin := hB43
        clear hHeld
        go_wp2_with fail
        go_ret
        exact ⟨rfl, hfin⟩
    · have hled := Hled.out
      have hl := Hhi.out (by omega)
      obtain ⟨nK, hnK⟩ : ∃ x, n - K = x := ⟨_, rfl⟩
      obtain ⟨aK, haKe⟩ : ∃ x, a - K = x := ⟨_, rfl⟩
      rw [hnK, haKe] at hl
      have ihX := ih nK (by omega) (by omega)
      have haX : aK < nK := by omega
      have hs1 : (n : Int) - (K : Int) = (nK : Int) := by omega
      have hs2 : (a : Int) - (K : Int) = (aK : Int) := by omega
      have hs3 : IntKind.i64.wrap (aK : Int) = (aK : Int) := IntWalk.i64_in _ (by omega)
      have HnKe := Lib.hid hnK.symm
      have Hld2 := Lib.hid (show (rs.drop K).length = nK by rw [Hld.out, hnK])
      have HneHi2 := Lib.hid (show pv = rootF (rs.take K) → row ≠ (rs.drop K).getD aK [] ∨ ds.take q ≠ proveF (rs.drop K) aK from fun h => by have h2 := HneHi.out (by omega) h; rw [haKe] at h2; exact h2)
      clear hnK haKe
      have hX32 := leadF_length nK aK row (ds.take q)
      obtain ⟨X, hX⟩ : ∃ X, (leadF nK aK row (ds.take q)).1 = X := ⟨_, rfl⟩
      have hjX : joinF pv X = rootF rs := by have h := congrArg Prod.fst hled; rw [hl] at h; simp only [hX] at h; exact h
      have hokX : true = (leadF nK aK row (ds.take q)).2 := by have h := congrArg Prod.snd hled; rw [hl] at h; exact h.symm
      rw [hX] at hX32
      obtain ⟨IL, hIL⟩ : ∃ V, V = Lib.byteCells (X) := ⟨_, rfl⟩
      have HILl := Lib.hid (show IL.length = 32 by rw [hIL, Lib.byteCells_length]; exact hX32)
      have HILi := Lib.hid (show (Try.prog.info? 26).map (·.size) = some IL.toArray.size by rw [List.size_toArray, HILl.out]; exact digInfo)
      have HIL1 := Lib.hid (show IL.toArray.all (·.oneCell') = true by rw [hIL]; exact dig_one _)
      have HILs := Lib.hid (show (Lib.byteCells zeros).toArray.size = IL.toArray.size by rw [List.size_toArray, List.size_toArray, HILl.out]; rfl)
      have HIL := Lib.hid hIL
      clear hIL
      have HILz := Lib.hid (show (Try.prog.info? 26).map (·.size) = some IL.length by rw [HILl.out]; exact digInfo)
      have HIe := Lib.hid (show IL = Lib.byteCells (leadF nK aK row (ds.take q)).1 by rw [hX]; exact HIL.out)
      have HjX := Lib.hid hjX
      have HokX := Lib.hid hokX
      have HX := Lib.hid hX
      clear hl hjX hokX hX
      go_wp2_with fail
      refine Calls.mono (lead_all nK (by omega) (by omega) aK row (ds.take q) IL true Ar lr cr (some ⟨b, off, none⟩) q cp wc haX hrl.out hr0 hlc hcm hbs5 Htq.out (by omega) hcp (hdg5.take q) HIe.out HokX.out) ?_
      rintro e w6 ⟨rfl, hb6⟩
      have hP6 := Arr.up hP hb6
      have hQ6 := Arr.up hQ hb6
      have hB6 := hB5.trans (hb6.mono hB5.size)
      clear hP hQ hbs5 hdg5 hrs5 hrg5
      go_wp2_with (change wpList _ _ _ _ _ (w6.alloc (.cells (Lib.byteCells zeros).toArray 26)); refine wpList_store_row rfl _ _ _ rfl w6.heap.size IL.toArray rfl rfl 26 (Lib.byteCells zeros).toArray (heap_alloc_new w6 _) HILi.out HILs.out HIL1.out ?_; obtain ⟨w7, hww7⟩ : ∃ x, x = (w6.alloc (.cells (Lib.byteCells zeros).toArray 26)).setRow w6.heap.size IL.toArray := ⟨_, rfl⟩; rw [← hww7]; obtain ⟨hD7, hb7⟩ := alloc_row w6 26 (Lib.byteCells zeros).toArray IL; rw [← hww7] at hD7 hb7; clear hww7)
      obtain ⟨g13, hg13⟩ : ∃ x, x = w6.heap.size := ⟨_, rfl⟩
      rw [← hg13] at hD7 ⊢
      clear hg13
      have hP7 := Arr.up hP6 hb7
      have hQ7 := Arr.up hQ6 hb7
      have hB7 := hB6.trans (hb7.mono hB6.size)
      have hrg7 : w7.rangeAt b (off + q * 32) PL := range_up hrg hB7 hb
      clear hP6 hQ6 hB6 hb7 hb6 hB5
      have hB70 : Below w7.heap.size w7 w7.drew := below_drew _ _
      have hqI2 : True := trivial
      by_cases hXM : X = rootF (rs.drop K)
      · have HXM := Lib.hid hXM
        by_cases hPO : pv = rootF (rs.take K)
        · have heqM := fun w => eqv_at Try.underlying26 X (rootF (rs.drop K)) hX32 (rootF_length _) IL RR HIL.out HRR.out w
          rw [decide_eq_true hXM] at heqM
          have heqO := fun w => eqv_at Try.underlying26 pv (rootF (rs.take K)) hpl (rootF_length _) PL LL HPL.out HLL.out w
          rw [decide_eq_true hPO] at heqO
          have HneX := Lib.hid (HneHi2.out hPO)
          clear hXM hPO
          refine wp_region_held_drew (S := fun w' => w'.rangeAt g13 0 IL ∧ w'.rangeAt g12 0 RR ∧ w'.rangeAt b (off + q * 32) PL ∧ w'.rangeAt g11 0 LL) (by kernel_rfl) ⟨(hD7.drewN 1).range, (hQ7.drewN 1).range, hrg7, (hP7.drewN 1).range⟩ (fun hHeld => ?_)
          refine anyH_take (i := 0) (some 111) rfl rfl (by kernel_rfl) (by kernel_rfl) (by kernel_rfl) (fun _ _ _ h => h) (yieldsIf_load_mid (by rfl) 26 (.tmp 15) rfl g13 0 rfl IL _ (fun _ h => h.1) Try.underlying26 rfl HILz.out) (by assumption) ?_
          simp only [Act.put, List.setIfInBounds_toArray, List.set_cons_zero, List.set_cons_succ]
          refine anyH_take (i := 1) (some 112) rfl rfl (by kernel_rfl) (by kernel_rfl) (by kernel_rfl) (fun _ _ _ h => h) (yieldsIf_load_mid (by rfl) 26 (.tmp 12) rfl g12 0 rfl RR _ (fun _ h => h.2.1) Try.underlying26 rfl HRRz.out) (by assumption) ?_
          simp only [Act.put, List.setIfInBounds_toArray, List.set_cons_zero, List.set_cons_succ]
          refine anyH_take (i := 2) (v := .bool false) (some 113) rfl rfl (by kernel_rfl) (by kernel_rfl) (by kernel_rfl) (fun _ _ _ h => h) (Or.inl ⟨by rfl, fun _ hw => by go_simp⟩) (by assumption) ?_
          simp only [Act.put, List.setIfInBounds_toArray, List.set_cons_zero, List.set_cons_succ]
          refine anyH_take (i := 3) (v := .bool false) (some 114) rfl rfl (by kernel_rfl) (by kernel_rfl) (by kernel_rfl) (fun _ _ _ h => h) (Or.inl ⟨by rfl, fun _ hw => by rfl⟩) (by assumption) ?_
          simp only [Act.put, List.setIfInBounds_toArray, List.set_cons_zero, List.set_cons_succ]
          refine anyH_take (i := 4) (v := .slice (some ⟨b, off, none⟩) m cp) (some 115) rfl rfl (by kernel_rfl) (by kernel_rfl) (by kernel_rfl) (fun _ _ _ h => h) (Or.inl ⟨by rfl, fun _ hw => by rfl⟩) (by assumption) ?_
          simp only [Act.put, List.setIfInBounds_toArray, List.set_cons_zero, List.set_cons_succ]
          refine anyH_take (i := 5) (v := .int .i64 (q : Nat)) (some 116) rfl rfl (by kernel_rfl) (by kernel_rfl) (by kernel_rfl) (fun _ _ _ h => h) (Or.inl ⟨by rfl, fun _ hw => by rfl⟩) (by assumption) ?_
          simp only [Act.put, List.setIfInBounds_toArray, List.set_cons_zero, List.set_cons_succ]
          refine anyH_take (i := 6) (v := .pointer (some ⟨b, off + q * 32, none⟩)) (some 117) rfl rfl (by kernel_rfl) (by kernel_rfl) (by kernel_rfl) (fun _ _ _ h => h) (Or.inl ⟨by rfl, fun _ hw => by go_simp⟩) (by assumption) ?_
          simp only [Act.put, List.setIfInBounds_toArray, List.set_cons_zero, List.set_cons_succ]
          refine anyH_take (i := 7) (some 118) rfl rfl (by kernel_rfl) (by kernel_rfl) (by kernel_rfl) (fun _ _ _ h => h) (yieldsIf_load_mid (by rfl) 26 (.tmp 117) rfl b (off + q * 32) rfl PL _ (fun _ h => h.2.2.1) Try.underlying26 rfl HPLz.out) (by assumption) ?_
          simp only [Act.put, List.setIfInBounds_toArray, List.set_cons_zero, List.set_cons_succ]
          refine anyH_take (i := 8) (some 119) rfl rfl (by kernel_rfl) (by kernel_rfl) (by kernel_rfl) (fun _ _ _ h => h) (yieldsIf_load_mid (by rfl) 26 (.tmp 11) rfl g11 0 rfl LL _ (fun _ h => h.2.2.2) Try.underlying26 rfl HLLz.out) (by assumption) ?_
          simp only [Act.put, List.setIfInBounds_toArray, List.set_cons_zero, List.set_cons_succ]
          refine anyH_take (i := 9) (v := .bool false) (some 120) rfl rfl (by kernel_rfl) (by kernel_rfl) (by kernel_rfl) (fun _ _ _ h => h) (Or.inl ⟨by rfl, fun _ hw => by go_simp⟩) (by assumption) ?_
          simp only [Act.put, List.setIfInBounds_toArray, List.set_cons_zero, List.set_cons_succ]
          refine anyH_take (i := 10) (v := .bool false) (some 121) rfl rfl (by kernel_rfl) (by kernel_rfl) (by kernel_rfl) (fun _ _ _ h => h) (Or.inl ⟨by rfl, fun _ hw => by go_simp⟩) (by assumption) ?_
          simp only [Act.put, List.setIfInBounds_toArray, List.set_cons_zero, List.set_cons_succ]
          refine wpAnyH_done (by kernel_rfl) ?_ _
          clear hHeld
          have HledX := Lib.hid (show leadF nK aK row (ds.take q) = (rootF (rs.drop K), true) from Prod.ext (HX.out.trans HXM.out) HokX.out.symm)
          obtain ⟨w8, hw8⟩ : ∃ x, x = w7.drew := ⟨_, rfl⟩
          have hD8 : Arr w8 g13 26 IL := by rw [hw8]; exact hD7.drewN 1
          have hB8 : Below w1.heap.size w1 w8 := by rw [hw8]; exact hB7.trans (below_drew _ _)
          try rw [← hw8]
          clear hw8 hD7 hP7 hQ7 hB7 hrg7 heqM heqO hqI2
          go_wp2_with fail
          refine wp_region_held_drew (S := fun _ => True) (by kernel_rfl) trivial (fun hHeld => ?_)
          have hb9 : Below w8.heap.size w8 w8.drew := below_drew _ _
          obtain ⟨w9, hw9⟩ : ∃ x, x = w8.drew := ⟨_, rfl⟩
          rw [← hw9] at hb9 ⊢
          try rw [← hw9] at hHeld
          clear hw9
          have hB9 := hB8.trans (hb9.mono hB8.size)
          refine anyH_take (i := 0) (v := .slice (some ⟨blk, off0, none⟩) n c) (some 132) rfl rfl (by kernel_rfl) (by kernel_rfl) (by kernel_rfl) (fun _ _ _ h => h) (Or.inl ⟨by rfl, fun _ hw => by rfl⟩) (by assumption) ?_
          simp only [Act.put, List.setIfInBounds_toArray, List.set_cons_zero, List.set_cons_succ]
          refine anyH_take (i := 1) (v := .int .i64 (K : Nat)) (some 133) rfl rfl (by kernel_rfl) (by kernel_rfl) (by kernel_rfl) (fun _ _ _ h => h) (Or.inl ⟨by rfl, fun _ hw => by rfl⟩) (by assumption) ?_
          simp only [Act.put, List.setIfInBounds_toArray, List.set_cons_zero, List.set_cons_succ]
          refine anyH_take (i := 2) (v := .slice (some ⟨blk, off0 + K, none⟩) (n - K) (c - K)) (some 134) rfl rfl (by kernel_rfl) (by kernel_rfl) (by kernel_rfl) (fun _ _ _ h => h) (Or.inl ⟨by rfl, fun _ hw => by go_simp⟩) (by assumption) ?_
          simp only [Act.put, List.setIfInBounds_toArray, List.set_cons_zero, List.set_cons_succ]
          refine anyH_take (i := 3) (v := .int .i64 (a : Nat)) (some 135) rfl rfl (by kernel_rfl) (by kernel_rfl) (by kernel_rfl) (fun _ _ _ h => h) (Or.inl ⟨by rfl, fun _ hw => by rfl⟩) (by assumption) ?_
          simp only [Act.put, List.setIfInBounds_toArray, List.set_cons_zero, List.set_cons_succ]
          refine anyH_take (i := 4) (v := .int .i64 (K : Nat)) (some 136) rfl rfl (by kernel_rfl) (by kernel_rfl) (by kernel_rfl) (fun _ _ _ h => h) (Or.inl ⟨by rfl, fun _ hw => by rfl⟩) (by assumption) ?_
          simp only [Act.put, List.setIfInBounds_toArray, List.set_cons_zero, List.set_cons_succ]
          refine anyH_take (i := 5) (v := .int .i64 (aK : Nat)) (some 137) rfl rfl (by kernel_rfl) (by kernel_rfl) (by kernel_rfl) (fun _ _ _ h => h) (Or.inl ⟨by rfl, fun _ hw => by go_simp⟩) (by assumption) ?_
          simp only [Act.put, List.setIfInBounds_toArray, List.set_cons_zero, List.set_cons_succ]
          refine anyH_take (i := 6) (v := .slice Ar lr cr) (some 138) rfl rfl (by kernel_rfl) (by kernel_rfl) (by kernel_rfl) (fun _ _ _ h => h) (Or.inl ⟨by rfl, fun _ hw => by rfl⟩) (by assumption) ?_
          simp only [Act.put, List.setIfInBounds_toArray, List.set_cons_zero, List.set_cons_succ]
          refine anyH_take (i := 7) (v := .slice (some ⟨b, off, none⟩) m cp) (some 139) rfl rfl (by kernel_rfl) (by kernel_rfl) (by kernel_rfl) (fun _ _ _ h => h) (Or.inl ⟨by rfl, fun _ hw => by rfl⟩) (by assumption) ?_
          simp only [Act.put, List.setIfInBounds_toArray, List.set_cons_zero, List.set_cons_succ]
          refine anyH_take (i := 8) (v := .int .i64 (q : Nat)) (some 140) rfl rfl (by kernel_rfl) (by kernel_rfl) (by kernel_rfl) (fun _ _ _ h => h) (Or.inl ⟨by rfl, fun _ hw => by rfl⟩) (by assumption) ?_
          simp only [Act.put, List.setIfInBounds_toArray, List.set_cons_zero, List.set_cons_succ]
          refine anyH_take (i := 9) (v := .slice (some ⟨b, off, none⟩) q cp) (some 141) rfl rfl (by kernel_rfl) (by kernel_rfl) (by kernel_rfl) (fun _ _ _ h => h) (Or.inl ⟨by rfl, fun _ hw => by go_simp⟩) (by assumption) ?_
          simp only [Act.put, List.setIfInBounds_toArray, List.set_cons_zero, List.set_cons_succ]
          refine wpAnyH_ready (rs := [10]) (by kernel_rfl) (by simp) ?_
          refine AllReadyH.cons rfl (fun KC hKC => ?_) AllReadyH.nil
          go_simp
          go_at_call 22
          refine Calls.mono (HnKe.out ▸ ihX (rs.drop K) _ (c - K) aK row (ds.take q) Ar lr cr (some ⟨b, off, none⟩) q cp _ Hld2.out haX (by omega) (by omega) Hrd.out (((hrs.below hB9 (Nat.le_refl _)).drop hKrs).more hB9.size) hrl.out hr0 hlc hcm ((hbs.below hB9 (Nat.le_refl _)).more hB9.size) Htq.out (by omega) hcp ((hdg.below hB9).take q) HneX.out HledX.out) ?_
          rintro e w41 ⟨rfl, hb41⟩
          have hB41 := hB9.trans (hb41.mono hB9.size)
          go_wp2_with fail
          refine hKC.out _ _ trivial (fun hHeld41 => ?_)
          clear hKC KC
          try simp only [Act.put, List.setIfInBounds_toArray, List.set_cons_zero, List.set_cons_succ]
          refine anyH_take (i := 11) (v := .bool true) (some 8) rfl rfl (by kernel_rfl) (by kernel_rfl) (by kernel_rfl) (fun _ _ _ h => h) (Or.inl ⟨by rfl, fun _ hw => by rfl⟩) (by assumption) ?_
          simp only [Act.put, List.setIfInBounds_toArray, List.set_cons_zero, List.set_cons_succ]
          refine wpAnyH_done (by kernel_rfl) ?_ _
          have hfin := hB41
          clear hHeld
          go_wp2_with fail
          go_ret
          exact ⟨rfl, hfin⟩
        · have heqM := fun w => eqv_at Try.underlying26 X (rootF (rs.drop K)) hX32 (rootF_length _) IL RR HIL.out HRR.out w
          rw [decide_eq_true hXM] at heqM
          have heqO := fun w => eqv_at Try.underlying26 pv (rootF (rs.take K)) hpl (rootF_length _) PL LL HPL.out HLL.out w
          rw [decide_eq_false hPO] at heqO
          clear hXM hPO
          refine wp_region_held_drew (S := fun w' => w'.rangeAt g13 0 IL ∧ w'.rangeAt g12 0 RR ∧ w'.rangeAt b (off + q * 32) PL ∧ w'.rangeAt g11 0 LL) (by kernel_rfl) ⟨(hD7.drewN 1).range, (hQ7.drewN 1).range, hrg7, (hP7.drewN 1).range⟩ (fun hHeld => ?_)
          refine anyH_take (i := 0) (some 111) rfl rfl (by kernel_rfl) (by kernel_rfl) (by kernel_rfl) (fun _ _ _ h => h) (yieldsIf_load_mid (by rfl) 26 (.tmp 15) rfl g13 0 rfl IL _ (fun _ h => h.1) Try.underlying26 rfl HILz.out) (by assumption) ?_
          simp only [Act.put, List.setIfInBounds_toArray, List.set_cons_zero, List.set_cons_succ]
          refine anyH_take (i := 1) (some 112) rfl rfl (by kernel_rfl) (by kernel_rfl) (by kernel_rfl) (fun _ _ _ h => h) (yieldsIf_load_mid (by rfl) 26 (.tmp 12) rfl g12 0 rfl RR _ (fun _ h => h.2.1) Try.underlying26 rfl HRRz.out) (by assumption) ?_
          simp only [Act.put, List.setIfInBounds_toArray, List.set_cons_zero, List.set_cons_succ]
          refine anyH_take (i := 2) (v := .bool false) (some 113) rfl rfl (by kernel_rfl) (by kernel_rfl) (by kernel_rfl) (fun _ _ _ h => h) (Or.inl ⟨by rfl, fun _ hw => by go_simp⟩) (by assumption) ?_
          simp only [Act.put, List.setIfInBounds_toArray, List.set_cons_zero, List.set_cons_succ]
          refine anyH_take (i := 3) (v := .bool false) (some 114) rfl rfl (by kernel_rfl) (by kernel_rfl) (by kernel_rfl) (fun _ _ _ h => h) (Or.inl ⟨by rfl, fun _ hw => by rfl⟩) (by assumption) ?_
          simp only [Act.put, List.setIfInBounds_toArray, List.set_cons_zero, List.set_cons_succ]
          refine anyH_take (i := 4) (v := .slice (some ⟨b, off, none⟩) m cp) (some 115) rfl rfl (by kernel_rfl) (by kernel_rfl) (by kernel_rfl) (fun _ _ _ h => h) (Or.inl ⟨by rfl, fun _ hw => by rfl⟩) (by assumption) ?_
          simp only [Act.put, List.setIfInBounds_toArray, List.set_cons_zero, List.set_cons_succ]
          refine anyH_take (i := 5) (v := .int .i64 (q : Nat)) (some 116) rfl rfl (by kernel_rfl) (by kernel_rfl) (by kernel_rfl) (fun _ _ _ h => h) (Or.inl ⟨by rfl, fun _ hw => by rfl⟩) (by assumption) ?_
          simp only [Act.put, List.setIfInBounds_toArray, List.set_cons_zero, List.set_cons_succ]
          refine anyH_take (i := 6) (v := .pointer (some ⟨b, off + q * 32, none⟩)) (some 117) rfl rfl (by kernel_rfl) (by kernel_rfl) (by kernel_rfl) (fun _ _ _ h => h) (Or.inl ⟨by rfl, fun _ hw => by go_simp⟩) (by assumption) ?_
          simp only [Act.put, List.setIfInBounds_toArray, List.set_cons_zero, List.set_cons_succ]
          refine anyH_take (i := 7) (some 118) rfl rfl (by kernel_rfl) (by kernel_rfl) (by kernel_rfl) (fun _ _ _ h => h) (yieldsIf_load_mid (by rfl) 26 (.tmp 117) rfl b (off + q * 32) rfl PL _ (fun _ h => h.2.2.1) Try.underlying26 rfl HPLz.out) (by assumption) ?_
          simp only [Act.put, List.setIfInBounds_toArray, List.set_cons_zero, List.set_cons_succ]
          refine anyH_take (i := 8) (some 119) rfl rfl (by kernel_rfl) (by kernel_rfl) (by kernel_rfl) (fun _ _ _ h => h) (yieldsIf_load_mid (by rfl) 26 (.tmp 11) rfl g11 0 rfl LL _ (fun _ h => h.2.2.2) Try.underlying26 rfl HLLz.out) (by assumption) ?_
          simp only [Act.put, List.setIfInBounds_toArray, List.set_cons_zero, List.set_cons_succ]
          refine anyH_take (i := 9) (v := .bool true) (some 120) rfl rfl (by kernel_rfl) (by kernel_rfl) (by kernel_rfl) (fun _ _ _ h => h) (Or.inl ⟨by rfl, fun _ hw => by go_simp⟩) (by assumption) ?_
          simp only [Act.put, List.setIfInBounds_toArray, List.set_cons_zero, List.set_cons_succ]
          refine anyH_take (i := 10) (v := .bool true) (some 121) rfl rfl (by kernel_rfl) (by kernel_rfl) (by kernel_rfl) (fun _ _ _ h => h) (Or.inl ⟨by rfl, fun _ hw => by go_simp⟩) (by assumption) ?_
          simp only [Act.put, List.setIfInBounds_toArray, List.set_cons_zero, List.set_cons_succ]
          refine wpAnyH_done (by kernel_rfl) ?_ _
          clear hHeld
          obtain ⟨w8, hw8⟩ : ∃ x, x = w7.drew := ⟨_, rfl⟩
          have hD8 : Arr w8 g13 26 IL := by rw [hw8]; exact hD7.drewN 1
          have hB8 : Below w1.heap.size w1 w8 := by rw [hw8]; exact hB7.trans (below_drew _ _)
          try rw [← hw8]
          clear hw8 hD7 hP7 hQ7 hB7 hrg7 heqM heqO hqI2
          go_wp2_with fail
          obtain ⟨TL, hTL⟩ : ∃ V, V = Lib.byteCells (rootF rs) := ⟨_, rfl⟩
          have HTLl := Lib.hid (show TL.length = 32 by rw [hTL, Lib.byteCells_length]; exact rootF_length _)
          have HTLi := Lib.hid (show (Try.prog.info? 26).map (·.size) = some TL.toArray.size by rw [List.size_toArray, HTLl.out]; exact digInfo)
          have HTL1 := Lib.hid (show TL.toArray.all (·.oneCell') = true by rw [hTL]; exact dig_one _)
          have HTLs := Lib.hid (show (Lib.byteCells zeros).toArray.size = TL.toArray.size by rw [List.size_toArray, List.size_toArray, HTLl.out]; rfl)
          have HTL := Lib.hid hTL
          clear hTL
          have HT1 := Lib.hid (show TL = Lib.byteCells (shaF (tagF 1 [pv, X])) by rw [HTL.out, ← HjX.out]; rfl)
          have heqT := fun w => eqv_at Try.underlying26 _ _ (rootF_length rs) (rootF_length rs) TL TL HTL.out HTL.out w
          rw [decide_eq_true rfl] at heqT
          refine wp_region_held_drew (S := fun _ => True) (by kernel_rfl) trivial (fun hHeld => ?_)
          have hb9 : Below w8.heap.size w8 w8.drew := below_drew _ _
          obtain ⟨w9, hw9⟩ : ∃ x, x = w8.drew := ⟨_, rfl⟩
          rw [← hw9] at hb9 ⊢
          try rw [← hw9] at hHeld
          clear hw9
          have hB9 := hB8.trans (hb9.mono hB8.size)
          have hD9 := Arr.up hD8 hb9
          rw [HIL.out] at hD9
          refine anyH_take (i := 0) (v := .slice (some ⟨b, off, none⟩) m cp) (some 122) rfl rfl (by kernel_rfl) (by kernel_rfl) (by kernel_rfl) (fun _ _ _ h => h) (Or.inl ⟨by rfl, fun _ hw => by rfl⟩) (by assumption) ?_
          simp only [Act.put, List.setIfInBounds_toArray, List.set_cons_zero, List.set_cons_succ]
          refine anyH_take (i := 1) (v := .int .i64 (q : Nat)) (some 123) rfl rfl (by kernel_rfl) (by kernel_rfl) (by kernel_rfl) (fun _ _ _ h => h) (Or.inl ⟨by rfl, fun _ hw => by rfl⟩) (by assumption) ?_
          simp only [Act.put, List.setIfInBounds_toArray, List.set_cons_zero, List.set_cons_succ]
          refine anyH_take (i := 2) (v := .pointer (some ⟨b, off + q * 32, none⟩)) (some 124) rfl rfl (by kernel_rfl) (by kernel_rfl) (by kernel_rfl) (fun _ _ _ h => h) (Or.inl ⟨by rfl, fun _ hw => by go_simp⟩) (by assumption) ?_
          simp only [Act.put, List.setIfInBounds_toArray, List.set_cons_zero, List.set_cons_succ]
          refine anyH_take (i := 3) (v := .slice (some ⟨b, off + q * 32, none⟩) 32 32) (some 125) rfl rfl (by kernel_rfl) (by kernel_rfl) (by kernel_rfl) (fun _ _ _ h => h) (Or.inl ⟨by rfl, fun _ hw => by go_simp⟩) (by assumption) ?_
          simp only [Act.put, List.setIfInBounds_toArray, List.set_cons_zero, List.set_cons_succ]
          refine anyH_take (i := 4) (v := .slice (some ⟨g13, 0, none⟩) 32 32) (some 126) rfl rfl (by kernel_rfl) (by kernel_rfl) (by kernel_rfl) (fun _ _ _ h => h) (Or.inl ⟨by rfl, fun _ hw => by go_simp⟩) (by assumption) ?_
          simp only [Act.put, List.setIfInBounds_toArray, List.set_cons_zero, List.set_cons_succ]
          refine anyH_take (i := 7) (v := .slice (some ⟨blk, off0, none⟩) n c) (some 129) rfl rfl (by kernel_rfl) (by kernel_rfl) (by kernel_rfl) (fun _ _ _ h => h) (Or.inl ⟨by rfl, fun _ hw => by rfl⟩) (by assumption) ?_
          simp only [Act.put, List.setIfInBounds_toArray, List.set_cons_zero, List.set_cons_succ]
          refine wpAnyH_ready (rs := [5]) (by kernel_rfl) (by simp) ?_
          refine AllReadyH.cons rfl (fun KC hKC => ?_) AllReadyH.nil
          go_simp
          have hBa41 := hB9.alloc hB9.size (.cells #[.slice (some ⟨b, off + q * 32, none⟩) 32 32, .slice (some ⟨g13, 0, none⟩) 32 32] 24)
          refine hKC.out _ _ trivial (fun hHeld41 => ?_)
          clear hKC KC
          try simp only [Act.put, List.setIfInBounds_toArray, List.set_cons_zero, List.set_cons_succ]
          change wpAnyH _ _ _ _ _ _ _ _ (w9.alloc (.cells #[.slice (some ⟨b, off + q * 32, none⟩) 32 32, .slice (some ⟨g13, 0, none⟩) 32 32] 24))
          obtain ⟨g41, hg41⟩ : ∃ x, x = w9.heap.size := ⟨_, rfl⟩
          have N41 := rows_two (w := w9) 24 hpl hX32 (Nat.le_refl 32) (by unfold maxLen; omega) (Nat.le_refl 32) (by unfold maxLen; omega) (range_bs (l := pv) (by rw [← HPL.out]; exact range_up hrg hB9 hb) (Nat.lt_of_lt_of_le hb hB9.size)) (Arr.bs hD9) (Nat.le_refl _)
          have hb41 : Below w9.heap.size w9 (w9.alloc (.cells #[.slice (some ⟨b, off + q * 32, none⟩) 32 32, .slice (some ⟨g13, 0, none⟩) 32 32] 24)) := (Below.refl _ _).alloc (Nat.le_refl _) _
          obtain ⟨w41, hw41⟩ : ∃ x, x = w9.alloc (.cells #[.slice (some ⟨b, off + q * 32, none⟩) 32 32, .slice (some ⟨g13, 0, none⟩) 32 32] 24) := ⟨_, rfl⟩
          have hBs41 : w41.heap.size = w9.heap.size + 1 := by rw [hw41]; simp
          rw [← hw41] at hb41 N41 ⊢
          have Fd41 := Arr.up hD9 hb41
          clear hD9
          have hB41 := hB9.trans (hb41.mono hB9.size)
          rw [← hBs41, ← hg41] at N41
          try rw [← hg41]
          clear hw41 hg41 hBs41
          refine wpAnyH_ready (rs := [6]) (by kernel_rfl) (by simp) ?_
          refine AllReadyH.cons rfl (fun KC hKC => ?_) AllReadyH.nil
          go_simp
          go_at_call 26
          refine Calls.mono (rtagd_at 1 1 [pv, X] TL (some ⟨g41, 0, none⟩) 2 2 _ rfl HT1.out rfl (by omega) N41 (tag_two_le 1 hpl hX32)) ?_
          rintro e w42 ⟨rfl, hb42⟩
          have hB42 := hB41.trans (hb42.mono hB41.size)
          have Fd42 := Arr.up Fd41 hb42
          clear Fd41
          have Fz42 := ((N41).below hb42 (Nat.le_refl _)).more hb42.size
          clear N41
          go_wp2_with fail
          refine hKC.out _ _ trivial (fun hHeld42 => ?_)
          clear hKC KC
          try simp only [Act.put, List.setIfInBounds_toArray, List.set_cons_zero, List.set_cons_succ]
          refine wpAnyH_ready (rs := [8]) (by kernel_rfl) (by simp) ?_
          refine AllReadyH.cons rfl (fun KC hKC => ?_) AllReadyH.nil
          go_simp
          go_at_call 15
          refine Calls.mono (rroot_at rs TL _ n c _ Hn.out HTL.out (by omega) hc hcm63 Hr.out (((hrs.below hB42 (Nat.le_refl _))).more hB42.size)) ?_
          rintro e w43 ⟨rfl, hb43⟩
          have hB43 := hB42.trans (hb43.mono hB42.size)
          have Fd43 := Arr.up Fd42 hb43
          clear Fd42
          have Fz43 := ((Fz42).below hb43 (Nat.le_refl _)).more hb43.size
          clear Fz42
          go_wp2_with fail
          refine hKC.out _ _ trivial (fun hHeld43 => ?_)
          clear hKC KC
          try simp only [Act.put, List.setIfInBounds_toArray, List.set_cons_zero, List.set_cons_succ]
          refine anyH_take (i := 9) (v := .bool true) (some 131) rfl rfl (by kernel_rfl) (by kernel_rfl) (by kernel_rfl) (fun _ _ _ h => h) (Or.inl ⟨by rfl, fun _ hw => by go_simp⟩) (by assumption) ?_
          simp only [Act.put, List.setIfInBounds_toArray, List.set_cons_zero, List.set_cons_succ]
          refine anyH_take (i := 10) (v := .bool true) (some 8) rfl rfl (by kernel_rfl) (by kernel_rfl) (by kernel_rfl) (fun _ _ _ h => h) (Or.inl ⟨by rfl, fun _ hw => by rfl⟩) (by assumption) ?_
          simp only [Act.put, List.setIfInBounds_toArray, List.set_cons_zero, List.set_cons_succ]
          refine wpAnyH_done (by kernel_rfl) ?_ _
          have hfin := hB43
          clear hHeld
          go_wp2_with fail
          go_ret
          exact ⟨rfl, hfin⟩
      · have heqM := fun w => eqv_at Try.underlying26 X (rootF (rs.drop K)) hX32 (rootF_length _) IL RR HIL.out HRR.out w
        rw [decide_eq_false hXM] at heqM
        have heqO : True := trivial
        clear hXM
        refine wp_region_held_drew (S := fun w' => w'.rangeAt g13 0 IL ∧ w'.rangeAt g12 0 RR ∧ w'.rangeAt b (off + q * 32) PL ∧ w'.rangeAt g11 0 LL) (by kernel_rfl) ⟨(hD7.drewN 1).range, (hQ7.drewN 1).range, hrg7, (hP7.drewN 1).range⟩ (fun hHeld => ?_)
        refine anyH_take (i := 0) (some 111) rfl rfl (by kernel_rfl) (by kernel_rfl) (by kernel_rfl) (fun _ _ _ h => h) (yieldsIf_load_mid (by rfl) 26 (.tmp 15) rfl g13 0 rfl IL _ (fun _ h => h.1) Try.underlying26 rfl HILz.out) (by assumption) ?_
        simp only [Act.put, List.setIfInBounds_toArray, List.set_cons_zero, List.set_cons_succ]
        refine anyH_take (i := 1) (some 112) rfl rfl (by kernel_rfl) (by kernel_rfl) (by kernel_rfl) (fun _ _ _ h => h) (yieldsIf_load_mid (by rfl) 26 (.tmp 12) rfl g12 0 rfl RR _ (fun _ h => h.2.1) Try.underlying26 rfl HRRz.out) (by assumption) ?_
        simp only [Act.put, List.setIfInBounds_toArray, List.set_cons_zero, List.set_cons_succ]
        refine anyH_take (i := 2) (v := .bool true) (some 113) rfl rfl (by kernel_rfl) (by kernel_rfl) (by kernel_rfl) (fun _ _ _ h => h) (Or.inl ⟨by rfl, fun _ hw => by go_simp⟩) (by assumption) ?_
        simp only [Act.put, List.setIfInBounds_toArray, List.set_cons_zero, List.set_cons_succ]
        refine anyH_take (i := 3) (v := .bool true) (some 114) rfl rfl (by kernel_rfl) (by kernel_rfl) (by kernel_rfl) (fun _ _ _ h => h) (Or.inl ⟨by rfl, fun _ hw => by rfl⟩) (by assumption) ?_
        simp only [Act.put, List.setIfInBounds_toArray, List.set_cons_zero, List.set_cons_succ]
        refine anyH_take (i := 4) (v := undef) (some 115) rfl rfl (by kernel_rfl) (by kernel_rfl) (by kernel_rfl) (fun _ _ _ h => h) (Or.inr ⟨by rfl, rfl⟩) (by assumption) ?_
        simp only [Act.put, List.setIfInBounds_toArray, List.set_cons_zero, List.set_cons_succ]
        refine anyH_take (i := 5) (v := undef) (some 116) rfl rfl (by kernel_rfl) (by kernel_rfl) (by kernel_rfl) (fun _ _ _ h => h) (Or.inr ⟨by rfl, rfl⟩) (by assumption) ?_
        simp only [Act.put, List.setIfInBounds_toArray, List.set_cons_zero, List.set_cons_succ]
        refine anyH_take (i := 6) (v := undef) (some 117) rfl rfl (by kernel_rfl) (by kernel_rfl) (by kernel_rfl) (fun _ _ _ h => h) (Or.inr ⟨by rfl, rfl⟩) (by assumption) ?_
        simp only [Act.put, List.setIfInBounds_toArray, List.set_cons_zero, List.set_cons_succ]
        refine anyH_take (i := 7) (v := undef) (some 118) rfl rfl (by kernel_rfl) (by kernel_rfl) (by kernel_rfl) (fun _ _ _ h => h) (Or.inr ⟨by rfl, rfl⟩) (by assumption) ?_
        simp only [Act.put, List.setIfInBounds_toArray, List.set_cons_zero, List.set_cons_succ]
        refine anyH_take (i := 8) (v := undef) (some 119) rfl rfl (by kernel_rfl) (by kernel_rfl) (by kernel_rfl) (fun _ _ _ h => h) (Or.inr ⟨by rfl, rfl⟩) (by assumption) ?_
        simp only [Act.put, List.setIfInBounds_toArray, List.set_cons_zero, List.set_cons_succ]
        refine anyH_take (i := 9) (v := undef) (some 120) rfl rfl (by kernel_rfl) (by kernel_rfl) (by kernel_rfl) (fun _ _ _ h => h) (Or.inr ⟨by rfl, rfl⟩) (by assumption) ?_
        simp only [Act.put, List.setIfInBounds_toArray, List.set_cons_zero, List.set_cons_succ]
        refine anyH_take (i := 10) (v := .bool true) (some 121) rfl rfl (by kernel_rfl) (by kernel_rfl) (by kernel_rfl) (fun _ _ _ h => h) (Or.inl ⟨by rfl, fun _ hw => by go_simp⟩) (by assumption) ?_
        simp only [Act.put, List.setIfInBounds_toArray, List.set_cons_zero, List.set_cons_succ]
        refine wpAnyH_done (by kernel_rfl) ?_ _
        clear hHeld
        obtain ⟨w8, hw8⟩ : ∃ x, x = w7.drew := ⟨_, rfl⟩
        have hD8 : Arr w8 g13 26 IL := by rw [hw8]; exact hD7.drewN 1
        have hB8 : Below w1.heap.size w1 w8 := by rw [hw8]; exact hB7.trans (below_drew _ _)
        try rw [← hw8]
        clear hw8 hD7 hP7 hQ7 hB7 hrg7 heqM heqO hqI2
        go_wp2_with fail
        obtain ⟨TL, hTL⟩ : ∃ V, V = Lib.byteCells (rootF rs) := ⟨_, rfl⟩
        have HTLl := Lib.hid (show TL.length = 32 by rw [hTL, Lib.byteCells_length]; exact rootF_length _)
        have HTLi := Lib.hid (show (Try.prog.info? 26).map (·.size) = some TL.toArray.size by rw [List.size_toArray, HTLl.out]; exact digInfo)
        have HTL1 := Lib.hid (show TL.toArray.all (·.oneCell') = true by rw [hTL]; exact dig_one _)
        have HTLs := Lib.hid (show (Lib.byteCells zeros).toArray.size = TL.toArray.size by rw [List.size_toArray, List.size_toArray, HTLl.out]; rfl)
        have HTL := Lib.hid hTL
        clear hTL
        have HT1 := Lib.hid (show TL = Lib.byteCells (shaF (tagF 1 [pv, X])) by rw [HTL.out, ← HjX.out]; rfl)
        have heqT := fun w => eqv_at Try.underlying26 _ _ (rootF_length rs) (rootF_length rs) TL TL HTL.out HTL.out w
        rw [decide_eq_true rfl] at heqT
        refine wp_region_held_drew (S := fun _ => True) (by kernel_rfl) trivial (fun hHeld => ?_)
        have hb9 : Below w8.heap.size w8 w8.drew := below_drew _ _
        obtain ⟨w9, hw9⟩ : ∃ x, x = w8.drew := ⟨_, rfl⟩
        rw [← hw9] at hb9 ⊢
        try rw [← hw9] at hHeld
        clear hw9
        have hB9 := hB8.trans (hb9.mono hB8.size)
        have hD9 := Arr.up hD8 hb9
        rw [HIL.out] at hD9
        refine anyH_take (i := 0) (v := .slice (some ⟨b, off, none⟩) m cp) (some 122) rfl rfl (by kernel_rfl) (by kernel_rfl) (by kernel_rfl) (fun _ _ _ h => h) (Or.inl ⟨by rfl, fun _ hw => by rfl⟩) (by assumption) ?_
        simp only [Act.put, List.setIfInBounds_toArray, List.set_cons_zero, List.set_cons_succ]
        refine anyH_take (i := 1) (v := .int .i64 (q : Nat)) (some 123) rfl rfl (by kernel_rfl) (by kernel_rfl) (by kernel_rfl) (fun _ _ _ h => h) (Or.inl ⟨by rfl, fun _ hw => by rfl⟩) (by assumption) ?_
        simp only [Act.put, List.setIfInBounds_toArray, List.set_cons_zero, List.set_cons_succ]
        refine anyH_take (i := 2) (v := .pointer (some ⟨b, off + q * 32, none⟩)) (some 124) rfl rfl (by kernel_rfl) (by kernel_rfl) (by kernel_rfl) (fun _ _ _ h => h) (Or.inl ⟨by rfl, fun _ hw => by go_simp⟩) (by assumption) ?_
        simp only [Act.put, List.setIfInBounds_toArray, List.set_cons_zero, List.set_cons_succ]
        refine anyH_take (i := 3) (v := .slice (some ⟨b, off + q * 32, none⟩) 32 32) (some 125) rfl rfl (by kernel_rfl) (by kernel_rfl) (by kernel_rfl) (fun _ _ _ h => h) (Or.inl ⟨by rfl, fun _ hw => by go_simp⟩) (by assumption) ?_
        simp only [Act.put, List.setIfInBounds_toArray, List.set_cons_zero, List.set_cons_succ]
        refine anyH_take (i := 4) (v := .slice (some ⟨g13, 0, none⟩) 32 32) (some 126) rfl rfl (by kernel_rfl) (by kernel_rfl) (by kernel_rfl) (fun _ _ _ h => h) (Or.inl ⟨by rfl, fun _ hw => by go_simp⟩) (by assumption) ?_
        simp only [Act.put, List.setIfInBounds_toArray, List.set_cons_zero, List.set_cons_succ]
        refine anyH_take (i := 7) (v := .slice (some ⟨blk, off0, none⟩) n c) (some 129) rfl rfl (by kernel_rfl) (by kernel_rfl) (by kernel_rfl) (fun _ _ _ h => h) (Or.inl ⟨by rfl, fun _ hw => by rfl⟩) (by assumption) ?_
        simp only [Act.put, List.setIfInBounds_toArray, List.set_cons_zero, List.set_cons_succ]
        refine wpAnyH_ready (rs := [5]) (by kernel_rfl) (by simp) ?_
        refine AllReadyH.cons rfl (fun KC hKC => ?_) AllReadyH.nil
        go_simp
        have hBa41 := hB9.alloc hB9.size (.cells #[.slice (some ⟨b, off + q * 32, none⟩) 32 32, .slice (some ⟨g13, 0, none⟩) 32 32] 24)
        refine hKC.out _ _ trivial (fun hHeld41 => ?_)
        clear hKC KC
        try simp only [Act.put, List.setIfInBounds_toArray, List.set_cons_zero, List.set_cons_succ]
        change wpAnyH _ _ _ _ _ _ _ _ (w9.alloc (.cells #[.slice (some ⟨b, off + q * 32, none⟩) 32 32, .slice (some ⟨g13, 0, none⟩) 32 32] 24))
        obtain ⟨g41, hg41⟩ : ∃ x, x = w9.heap.size := ⟨_, rfl⟩
        have N41 := rows_two (w := w9) 24 hpl hX32 (Nat.le_refl 32) (by unfold maxLen; omega) (Nat.le_refl 32) (by unfold maxLen; omega) (range_bs (l := pv) (by rw [← HPL.out]; exact range_up hrg hB9 hb) (Nat.lt_of_lt_of_le hb hB9.size)) (Arr.bs hD9) (Nat.le_refl _)
        have hb41 : Below w9.heap.size w9 (w9.alloc (.cells #[.slice (some ⟨b, off + q * 32, none⟩) 32 32, .slice (some ⟨g13, 0, none⟩) 32 32] 24)) := (Below.refl _ _).alloc (Nat.le_refl _) _
        obtain ⟨w41, hw41⟩ : ∃ x, x = w9.alloc (.cells #[.slice (some ⟨b, off + q * 32, none⟩) 32 32, .slice (some ⟨g13, 0, none⟩) 32 32] 24) := ⟨_, rfl⟩
        have hBs41 : w41.heap.size = w9.heap.size + 1 := by rw [hw41]; simp
        rw [← hw41] at hb41 N41 ⊢
        have Fd41 := Arr.up hD9 hb41
        clear hD9
        have hB41 := hB9.trans (hb41.mono hB9.size)
        rw [← hBs41, ← hg41] at N41
        try rw [← hg41]
        clear hw41 hg41 hBs41
        refine wpAnyH_ready (rs := [6]) (by kernel_rfl) (by simp) ?_
        refine AllReadyH.cons rfl (fun KC hKC => ?_) AllReadyH.nil
        go_simp
        go_at_call 26
        refine Calls.mono (rtagd_at 1 1 [pv, X] TL (some ⟨g41, 0, none⟩) 2 2 _ rfl HT1.out rfl (by omega) N41 (tag_two_le 1 hpl hX32)) ?_
        rintro e w42 ⟨rfl, hb42⟩
        have hB42 := hB41.trans (hb42.mono hB41.size)
        have Fd42 := Arr.up Fd41 hb42
        clear Fd41
        have Fz42 := ((N41).below hb42 (Nat.le_refl _)).more hb42.size
        clear N41
        go_wp2_with fail
        refine hKC.out _ _ trivial (fun hHeld42 => ?_)
        clear hKC KC
        try simp only [Act.put, List.setIfInBounds_toArray, List.set_cons_zero, List.set_cons_succ]
        refine wpAnyH_ready (rs := [8]) (by kernel_rfl) (by simp) ?_
        refine AllReadyH.cons rfl (fun KC hKC => ?_) AllReadyH.nil
        go_simp
        go_at_call 15
        refine Calls.mono (rroot_at rs TL _ n c _ Hn.out HTL.out (by omega) hc hcm63 Hr.out (((hrs.below hB42 (Nat.le_refl _))).more hB42.size)) ?_
        rintro e w43 ⟨rfl, hb43⟩
        have hB43 := hB42.trans (hb43.mono hB42.size)
        have Fd43 := Arr.up Fd42 hb43
        clear Fd42
        have Fz43 := ((Fz42).below hb43 (Nat.le_refl _)).more hb43.size
        clear Fz42
        go_wp2_with fail
        refine hKC.out _ _ trivial (fun hHeld43 => ?_)
        clear hKC KC
        try simp only [Act.put, List.setIfInBounds_toArray, List.set_cons_zero, List.set_cons_succ]
        refine anyH_take (i := 9) (v := .bool true) (some 131) rfl rfl (by kernel_rfl) (by kernel_rfl) (by kernel_rfl) (fun _ _ _ h => h) (Or.inl ⟨by rfl, fun _ hw => by go_simp⟩) (by assumption) ?_
        simp only [Act.put, List.setIfInBounds_toArray, List.set_cons_zero, List.set_cons_succ]
        refine anyH_take (i := 10) (v := .bool true) (some 8) rfl rfl (by kernel_rfl) (by kernel_rfl) (by kernel_rfl) (fun _ _ _ h => h) (Or.inl ⟨by rfl, fun _ hw => by rfl⟩) (by assumption) ?_
        simp only [Act.put, List.setIfInBounds_toArray, List.set_cons_zero, List.set_cons_succ]
        refine wpAnyH_done (by kernel_rfl) ?_ _
        have hfin := hB43
        clear hHeld
        go_wp2_with fail
        go_ret
        exact ⟨rfl, hfin⟩

theorem clash_all : ∀ (n : Nat), n ≤ 1000000 → 1 ≤ n → ClashC n := by
  intro n
  induction n using Nat.strongRecOn with
  | ind n ih =>
    intro hn h1
    by_cases h2 : n = 1
    · subst h2; exact clash_one
    · exact clash_two n (by omega) hn fun m hm h => ih m hm (by omega) h

end Go.Proofs.Ytkpgbgiamekhaab

/-
  Whether Refs and bins come back.
-/
import Derived.Test.YtkepfigoeaheaaaComMem
namespace Go.Proofs.Ytkepfigoeaheaaa
open Go.RowKit
set_option linter.unusedVariables false
set_option linter.unusedSimpArgs false


theorem encR_lim (r : RefF) : (encR r).length ≤ r.d.length + 40 := by
  have e1 := Lib.uvarint_length64 (uF_wrap r.a).2
  have e2 := Lib.uvarint_length64 (uF_wrap r.n).2
  unfold encR refB
  simp only [List.length_append, List.nil_append]
  omega
theorem encN_lim (b : BinF) : (encN b).length ≤ b.d.length + 40 := by
  have e1 := Lib.uvarint_length64 (uN_wrap b.x).2
  have e2 := Lib.uvarint_length64 (uN_wrap b.a).2
  have e3 := Lib.uvarint_length64 (uN_wrap b.n).2
  unfold encN binB
  simp only [List.length_append]
  omega

set_option maxHeartbeats 4000000 in
set_option maxRecDepth 100000 in
theorem rback_any (A : Option Addr) (n c : Nat) (rs : List RefF) (hn : rs.length = n) (hc : n ≤ c) (hm : c ≤ maxLen) (hn2 : n ≤ 1000000) (w : World) (h : RowOf rC 34 w w.heap.size A rs) (hd : ∀ r ∈ rs, RefW r) (b : Bool) (hb : b = true ↔ ∀ r ∈ rs, OkR r) :
    Calls Try.prog 67 #[.func (.func 31) #[] #[], .func (.func 44) #[] #[], .slice A n c] w fun e w' => e = .returned (.bool b) ∧ Below w.heap.size w w' := by
  have hm' : c ≤ 9223372036854775807 := by unfold maxLen at hm; omega
  obtain ⟨ZL, hZL⟩ : ∃ z, z = refZ := ⟨_, rfl⟩
  have HZ := Lib.hid (fun w : World => show (zeroValue 26).run Try.prog w = .ok (.agg ZL.toArray) w by rw [hZL]; exact refZero w)
  have HZl := Lib.hid (show ZL.length = 34 by rw [hZL]; rfl)
  have Hn := Lib.hid hn
  have Hh := Lib.hid h
  have Hd := Lib.hid hd
  have Hb := Lib.hid hb
  clear hn h hd hb hZL
  go_enter Try.func67, Try.ntmps67
  go_wp2_with fail
  go_loopw [11] (fun i wr => ∃ k : Nat, k ≤ n ∧ i = .int .i64 k ∧ Below w.heap.size w wr ∧ Hid (∀ j r, j < k → rs[j]? = some r → OkR r)) (fun i _ => n - (Go.RowKit.intOf i).toNat)
  case atStart => exact ⟨0, Nat.zero_le _, rfl, Below.refl _ _, fun j r hj => by omega⟩
  case round =>
    obtain ⟨k, hk, rfl, hbr, Hk⟩ := hrel
    by_cases hlt : k < n
    · have hd1 : decide ((k : Int) < (n : Int)) = true := by simp; omega
      obtain ⟨x, hx⟩ : ∃ x, rs[k]? = some x := ⟨rs[k]'(by rw [Hn.out]; exact hlt), List.getElem?_eq_getElem _⟩
      obtain ⟨bb, off, rfl, hblk, hrow⟩ := Hh.out (by rw [Hn.out]; omega)
      have hxw := Hd.out x (List.mem_of_getElem? hx)
      obtain ⟨XL, hXL⟩ : ∃ z, z = rC x := ⟨_, rfl⟩
      have hXl : XL.length = 34 := by rw [hXL, rC_length hxw]
      have hrg : wr.rangeAt bb (off + k * 34) XL := fun j v hj => by
        rw [hXL] at hj
        rw [← hrow k x hx j v hj]
        exact World.cell?_of_block (hbr.block bb hblk)
      have HXi := Lib.hid (show (Try.prog.info? 26).map (·.size) = some XL.length by rw [hXl]; exact refSize)
      have HXj := Lib.hid (show (Try.prog.info? 26).map (·.size) = some XL.toArray.size by rw [List.size_toArray, hXl]; exact refSize)
      have HX1 := Lib.hid (show XL.toArray.all (·.oneCell') = true by rw [hXL]; exact all_oneC (rC_one x))
      have HXz := Lib.hid (show ZL.toArray.size = XL.toArray.size by rw [List.size_toArray, List.size_toArray, HZl.out, hXl])
      obtain ⟨wa, hwa⟩ : ∃ W, W = (wr.alloc (.cells ZL.toArray 26)).setRow wr.heap.size XL.toArray := ⟨_, rfl⟩
      obtain ⟨hXa, hbra⟩ := alloc_row wr 26 ZL.toArray XL
      rw [← hwa] at hXa hbra
      have hba : Below w.heap.size w wa := hbr.trans (hbra.mono hbr.size)
      obtain ⟨g, hg⟩ : ∃ z, z = wr.heap.size := ⟨_, rfl⟩
      have Hwa := Lib.hid hwa
      have Hxw := Lib.hid hxw
      have Hx := Lib.hid hx
      have HXL := Lib.hid hXL
      have hltg := hXa.lt
      clear hwa hx hrow hXl hbra hxw hXL
      go_upto_region 4 with (first
        | (refine wpList_load_mid rfl _ _ rfl bb (off + k * 34) rfl XL _ hrg Try.underlying26 rfl HXi.out ?_)
        | (refine wpList_allocZC rfl 26 rfl ZL.toArray (HZ.out _) ?_)
        | (refine wpList_store_row rfl _ _ _ rfl wr.heap.size XL.toArray rfl rfl 26 ZL.toArray (heap_alloc_new wr _) HXj.out HXz.out HX1.out ?_; rw [← Hwa.out]))
      rw [← hg] at hXa hltg ⊢
      have hhg : Hid (w.heap.size ≤ g) := Lib.hid (by rw [hg]; exact hbr.size)
      clear hrg hbr hg
      refine wp_region_held_drew (S := fun w' => Arr w' g 26 XL) (by kernel_rfl) hXa (fun hHeld => ?_)
      have hB0 : Below wa.heap.size wa wa.drew := Below.dN (Below.refl _ _) 1
      obtain ⟨wd, hwd⟩ : ∃ x, x = wa.drew := ⟨_, rfl⟩
      rw [← hwd] at hB0 ⊢
      try rw [← hwd] at hHeld
      clear hwd
      refine anyH_take (i := 0) (v := .func (.func 44) #[] #[]) (some 15) rfl rfl (by kernel_rfl) (by kernel_rfl) (by kernel_rfl) (fun _ _ _ h => h) (Or.inl ⟨by rfl, fun w' hw => by rfl⟩) (by assumption) ?_
      simp only [Act.put, List.setIfInBounds_toArray, List.set_cons_zero, List.set_cons_succ]
      refine anyH_take (i := 1) (v := .func (.func 31) #[] #[]) (some 16) rfl rfl (by kernel_rfl) (by kernel_rfl) (by kernel_rfl) (fun _ _ _ h => h) (Or.inl ⟨by rfl, fun w' hw => by rfl⟩) (by assumption) ?_
      simp only [Act.put, List.setIfInBounds_toArray, List.set_cons_zero, List.set_cons_succ]
      refine anyH_take (i := 2) (some 17) rfl rfl (by kernel_rfl) (by kernel_rfl) (by kernel_rfl) (fun _ _ _ h => h) (yieldsIf_load_mid (by rfl) 26 (.tmp 8) rfl g 0 rfl XL _ (fun w' h => Arr.range h) Try.underlying26 rfl HXi.out) (by assumption) ?_
      simp only [Act.put, List.setIfInBounds_toArray, List.set_cons_zero, List.set_cons_succ]
      refine anyH_take (i := 6) (some 21) rfl rfl (by kernel_rfl) (by kernel_rfl) (by kernel_rfl) (fun _ _ _ h => h) (yieldsIf_load_mid (by rfl) 26 (.tmp 8) rfl g 0 rfl XL _ (fun w' h => Arr.range h) Try.underlying26 rfl HXi.out) (by assumption) ?_
      simp only [Act.put, List.setIfInBounds_toArray, List.set_cons_zero, List.set_cons_succ]
      refine wpAnyH_ready (rs := [3]) (by kernel_rfl) (by simp) ?_
      refine AllReadyH.cons rfl (fun K hK => ?_) AllReadyH.nil
      go_simp
      go_at_call 31
      refine Calls.mono (bput_any [] x.d Hxw.out.d x.a x.n XL HXL.out none 0 0 wd rfl (by omega) (Nat.le_refl _) (by unfold maxLen; omega) (Bs.nil _ _ _)) ?_
      rintro e w4 ⟨v4, rfl, hO4, hb4⟩
      have hB4 := hB0.trans (hb4.mono hB0.size)
      obtain ⟨A4, c4, rfl, h4c, h4m, hBs4⟩ := hO4.slice
      obtain ⟨l4, hl4⟩ : ∃ z, encR x = z := ⟨_, rfl⟩
      rw [show refB [] x.d x.a x.n = l4 from hl4] at hBs4 h4c ⊢
      have Hl4 := Lib.hid hl4
      clear hl4 hO4 hb4
      go_wp2_with fail
      refine hK.out _ _ (hXa.up hB4) (fun hHeldx => ?_)
      clear hK K
      try simp only [Act.put, List.setIfInBounds_toArray, List.set_cons_zero, List.set_cons_succ]
      refine wpAnyH_ready (rs := [4]) (by kernel_rfl) (by simp) ?_
      refine AllReadyH.cons rfl (fun K hK => ?_) AllReadyH.nil
      go_simp
      go_at_call 42
      refine Calls.mono (from_any w4.heap.size A4 c4 l4 w4 hBs4 (by rw [← Hl4.out]; have := Hxw.out.d; have := encR_lim x; omega)) ?_
      rintro e w5 ⟨p5, rfl, hp5, hP5, hb5⟩
      have hB5 := hB4.trans (hb5.mono hB4.size)
      have h5w := hB5.size
      have hPl := hP5.lt
      have HP5 := Lib.hid hP5
      clear hBs4 hP5 hb5 h4c h4m
      go_wp2_with fail
      refine hK.out _ _ (hXa.up hB5) (fun hHeldx => ?_)
      clear hK K
      try simp only [Act.put, List.setIfInBounds_toArray, List.set_cons_zero, List.set_cons_succ]
      obtain ⟨TL, hTL⟩ : ∃ z, z = rC (refS (l4, false)).1 := ⟨_, rfl⟩
      obtain ⟨r0, hr0, hr1⟩ : ∃ r0 : Bool, (∀ w, (Op.equalIn 10000 26 (.agg TL.toArray) (.agg XL.toArray)).run Try.prog w = .ok r0 w) ∧ (r0 = true ↔ OkR x) := by
        rw [← Hl4.out] at hTL
        by_cases ho : OkR x
        · have e := (ref_round Hxw.out).1 ho
          rw [e] at hTL
          obtain ⟨r, h1, h2⟩ := refs_eqv x x Hxw.out.d Hxw.out.d TL XL hTL HXL.out wa
          exact ⟨true, fun w => by
            obtain ⟨r', h1', h2'⟩ := refs_eqv x x Hxw.out.d Hxw.out.d TL XL hTL HXL.out w
            rw [h1', h2'.2 rfl], ⟨fun _ => ho, fun _ => rfl⟩⟩
        · have e := (ref_round Hxw.out).2 ho
          rw [e] at hTL
          exact ⟨false, fun w => by
            obtain ⟨r', h1', h2'⟩ := refs_eqv zR x rfl Hxw.out.d TL XL hTL HXL.out w
            rw [h1']
            cases r' with
            | false => rfl
            | true => exact absurd (h2'.1 rfl ▸ zR_ok) ho, ⟨fun h => (by cases h), fun h => absurd h ho⟩⟩
      have Hr0 := Lib.hid hr0
      have Hr1 := Lib.hid hr1
      have HTL := Lib.hid hTL
      clear hr0 hr1 hTL
      refine wpAnyH_ready (rs := [5]) (by kernel_rfl) (by simp) ?_
      refine AllReadyH.cons rfl (fun K hK => ?_) AllReadyH.nil
      go_simp
      go_at_call 44
      refine Calls.mono (btake_fl (l4, false) p5 w5 HP5.out TL HTL.out) ?_
      rintro e w6 ⟨rfl, _, ht6⟩
      have hB6 : Below wa.heap.size wa w6 := hB5.trans ((Turn.only ht6).below (by have := hB4.size; omega) (by rintro j rfl; have := hB4.size; omega))
      clear ht6
      go_wp2_with fail
      refine hK.out _ _ (hXa.up hB6) (fun hHeldx => ?_)
      clear hK K
      try simp only [Act.put, List.setIfInBounds_toArray, List.set_cons_zero, List.set_cons_succ]
      refine anyH_take (i := 7) (v := .bool (!r0)) (some 22) rfl rfl (by kernel_rfl) (by kernel_rfl) (by kernel_rfl) (fun _ _ _ h => h) (Or.inl ⟨by rfl, fun w' hw => by (have hc := Hr0.out; have hg := gtR; go_simp)⟩) (by assumption) ?_
      simp only [Act.put, List.setIfInBounds_toArray, List.set_cons_zero, List.set_cons_succ]
      refine wpAnyH_done (by kernel_rfl) ?_ _
      have hb6w : Below w.heap.size w w6 := hba.trans (hB6.mono hba.size)
      clear hHeld hB6 hB5 hB4 hB0 hXa
      cases r0 with
      | false =>
        have Hno : Hid (b = false) := Lib.hid (by
          cases b with
          | false => rfl
          | true =>
            have := Hr1.out.2 (Hb.out.1 rfl x (List.mem_of_getElem? Hx.out))
            cases this)
        go_wp2_with fail
        go_ret
        exact ⟨by rw [Hno.out]; rfl, hb6w⟩
      | true =>
        have Hk2 : Hid (∀ j r, j < k + 1 → rs[j]? = some r → OkR r) := fun j r hj hr => by
          by_cases e : j = k
          · subst e
            rw [Hx.out] at hr
            injection hr with hr
            rw [← hr]
            exact Hr1.out.1 rfl
          · exact Hk.out j r (by omega) hr
        go_wp2_with fail
        go_roundw
        case rel => exact ⟨k + 1, by omega, by go_num, hb6w, Hk2⟩
        case measure => simp [Go.RowKit.intOf]; omega
    · obtain rfl : k = n := by omega
      have hd1 : decide (k < k) = false := by simp
      have Hyes : Hid (b = true) := Lib.hid (Hb.out.2 fun r hr => by
        obtain ⟨j, hj, rfl⟩ := List.getElem_of_mem hr
        exact Hk.out j _ (by rw [← Hn.out]; exact hj) (List.getElem?_eq_getElem hj))
      go_wp2_with fail
      go_ret
      exact ⟨by rw [Hyes.out]; rfl, hbr⟩

set_option maxHeartbeats 4000000 in
set_option maxRecDepth 100000 in
theorem nback_any (A : Option Addr) (n c : Nat) (rs : List BinF) (hn : rs.length = n) (hc : n ≤ c) (hm : c ≤ maxLen) (hn2 : n ≤ 1000000) (w : World) (h : RowOf bC 35 w w.heap.size A rs) (hd : ∀ r ∈ rs, BinW r) (b : Bool) (hb : b = true ↔ ∀ r ∈ rs, OkB r) :
    Calls Try.prog 68 #[.func (.func 33) #[] #[], .func (.func 46) #[] #[], .slice A n c] w fun e w' => e = .returned (.bool b) ∧ Below w.heap.size w w' := by
  have hm' : c ≤ 9223372036854775807 := by unfold maxLen at hm; omega
  obtain ⟨ZL, hZL⟩ : ∃ z, z = binZ := ⟨_, rfl⟩
  have HZ := Lib.hid (fun w : World => show (zeroValue 72).run Try.prog w = .ok (.agg ZL.toArray) w by rw [hZL]; exact binZero w)
  have HZl := Lib.hid (show ZL.length = 35 by rw [hZL]; rfl)
  have Hn := Lib.hid hn
  have Hh := Lib.hid h
  have Hd := Lib.hid hd
  have Hb := Lib.hid hb
  clear hn h hd hb hZL
  go_enter Try.func68, Try.ntmps68
  go_wp2_with fail
  go_loopw [11] (fun i wr => ∃ k : Nat, k ≤ n ∧ i = .int .i64 k ∧ Below w.heap.size w wr ∧ Hid (∀ j r, j < k → rs[j]? = some r → OkB r)) (fun i _ => n - (Go.RowKit.intOf i).toNat)
  case atStart => exact ⟨0, Nat.zero_le _, rfl, Below.refl _ _, fun j r hj => by omega⟩
  case round =>
    obtain ⟨k, hk, rfl, hbr, Hk⟩ := hrel
    by_cases hlt : k < n
    · have hd1 : decide ((k : Int) < (n : Int)) = true := by simp; omega
      obtain ⟨x, hx⟩ : ∃ x, rs[k]? = some x := ⟨rs[k]'(by rw [Hn.out]; exact hlt), List.getElem?_eq_getElem _⟩
      obtain ⟨bb, off, rfl, hblk, hrow⟩ := Hh.out (by rw [Hn.out]; omega)
      have hxw := Hd.out x (List.mem_of_getElem? hx)
      obtain ⟨XL, hXL⟩ : ∃ z, z = bC x := ⟨_, rfl⟩
      have hXl : XL.length = 35 := by rw [hXL, bC_length hxw]
      have hrg : wr.rangeAt bb (off + k * 35) XL := fun j v hj => by
        rw [hXL] at hj
        rw [← hrow k x hx j v hj]
        exact World.cell?_of_block (hbr.block bb hblk)
      have HXi := Lib.hid (show (Try.prog.info? 72).map (·.size) = some XL.length by rw [hXl]; exact binSize)
      have HXj := Lib.hid (show (Try.prog.info? 72).map (·.size) = some XL.toArray.size by rw [List.size_toArray, hXl]; exact binSize)
      have HX1 := Lib.hid (show XL.toArray.all (·.oneCell') = true by rw [hXL]; exact all_oneC (bC_one x))
      have HXz := Lib.hid (show ZL.toArray.size = XL.toArray.size by rw [List.size_toArray, List.size_toArray, HZl.out, hXl])
      obtain ⟨wa, hwa⟩ : ∃ W, W = (wr.alloc (.cells ZL.toArray 72)).setRow wr.heap.size XL.toArray := ⟨_, rfl⟩
      obtain ⟨hXa, hbra⟩ := alloc_row wr 72 ZL.toArray XL
      rw [← hwa] at hXa hbra
      have hba : Below w.heap.size w wa := hbr.trans (hbra.mono hbr.size)
      obtain ⟨g, hg⟩ : ∃ z, z = wr.heap.size := ⟨_, rfl⟩
      have Hwa := Lib.hid hwa
      have Hxw := Lib.hid hxw
      have Hx := Lib.hid hx
      have HXL := Lib.hid hXL
      have hltg := hXa.lt
      clear hwa hx hrow hXl hbra hxw hXL
      go_upto_region 4 with (first
        | (refine wpList_load_mid rfl _ _ rfl bb (off + k * 35) rfl XL _ hrg Try.underlying72 rfl HXi.out ?_)
        | (refine wpList_allocZC rfl 72 rfl ZL.toArray (HZ.out _) ?_)
        | (refine wpList_store_row rfl _ _ _ rfl wr.heap.size XL.toArray rfl rfl 72 ZL.toArray (heap_alloc_new wr _) HXj.out HXz.out HX1.out ?_; rw [← Hwa.out]))
      rw [← hg] at hXa hltg ⊢
      have hhg : Hid (w.heap.size ≤ g) := Lib.hid (by rw [hg]; exact hbr.size)
      clear hrg hbr hg
      refine wp_region_held_drew (S := fun w' => Arr w' g 72 XL) (by kernel_rfl) hXa (fun hHeld => ?_)
      have hB0 : Below wa.heap.size wa wa.drew := Below.dN (Below.refl _ _) 1
      obtain ⟨wd, hwd⟩ : ∃ x, x = wa.drew := ⟨_, rfl⟩
      rw [← hwd] at hB0 ⊢
      try rw [← hwd] at hHeld
      clear hwd
      refine anyH_take (i := 0) (v := .func (.func 46) #[] #[]) (some 15) rfl rfl (by kernel_rfl) (by kernel_rfl) (by kernel_rfl) (fun _ _ _ h => h) (Or.inl ⟨by rfl, fun w' hw => by rfl⟩) (by assumption) ?_
      simp only [Act.put, List.setIfInBounds_toArray, List.set_cons_zero, List.set_cons_succ]
      refine anyH_take (i := 1) (v := .func (.func 33) #[] #[]) (some 16) rfl rfl (by kernel_rfl) (by kernel_rfl) (by kernel_rfl) (fun _ _ _ h => h) (Or.inl ⟨by rfl, fun w' hw => by rfl⟩) (by assumption) ?_
      simp only [Act.put, List.setIfInBounds_toArray, List.set_cons_zero, List.set_cons_succ]
      refine anyH_take (i := 2) (some 17) rfl rfl (by kernel_rfl) (by kernel_rfl) (by kernel_rfl) (fun _ _ _ h => h) (yieldsIf_load_mid (by rfl) 72 (.tmp 8) rfl g 0 rfl XL _ (fun w' h => Arr.range h) Try.underlying72 rfl HXi.out) (by assumption) ?_
      simp only [Act.put, List.setIfInBounds_toArray, List.set_cons_zero, List.set_cons_succ]
      refine anyH_take (i := 6) (some 21) rfl rfl (by kernel_rfl) (by kernel_rfl) (by kernel_rfl) (fun _ _ _ h => h) (yieldsIf_load_mid (by rfl) 72 (.tmp 8) rfl g 0 rfl XL _ (fun w' h => Arr.range h) Try.underlying72 rfl HXi.out) (by assumption) ?_
      simp only [Act.put, List.setIfInBounds_toArray, List.set_cons_zero, List.set_cons_succ]
      refine wpAnyH_ready (rs := [3]) (by kernel_rfl) (by simp) ?_
      refine AllReadyH.cons rfl (fun K hK => ?_) AllReadyH.nil
      go_simp
      go_at_call 33
      refine Calls.mono (nput_any x.x x.a x.n x.d Hxw.out.d XL HXL.out wd) ?_
      rintro e w4 ⟨v4, rfl, hO4, hb4⟩
      have hB4 := hB0.trans (hb4.mono hB0.size)
      obtain ⟨A4, c4, rfl, h4c, h4m, hBs4⟩ := hO4.slice
      obtain ⟨l4, hl4⟩ : ∃ z, encN x = z := ⟨_, rfl⟩
      rw [show binB x.x x.a x.n x.d = l4 from hl4] at hBs4 h4c ⊢
      have Hl4 := Lib.hid hl4
      clear hl4 hO4 hb4
      go_wp2_with fail
      refine hK.out _ _ (hXa.up hB4) (fun hHeldx => ?_)
      clear hK K
      try simp only [Act.put, List.setIfInBounds_toArray, List.set_cons_zero, List.set_cons_succ]
      refine wpAnyH_ready (rs := [4]) (by kernel_rfl) (by simp) ?_
      refine AllReadyH.cons rfl (fun K hK => ?_) AllReadyH.nil
      go_simp
      go_at_call 42
      refine Calls.mono (from_any w4.heap.size A4 c4 l4 w4 hBs4 (by rw [← Hl4.out]; have := Hxw.out.d; have := encN_lim x; omega)) ?_
      rintro e w5 ⟨p5, rfl, hp5, hP5, hb5⟩
      have hB5 := hB4.trans (hb5.mono hB4.size)
      have h5w := hB5.size
      have hPl := hP5.lt
      have HP5 := Lib.hid hP5
      clear hBs4 hP5 hb5 h4c h4m
      go_wp2_with fail
      refine hK.out _ _ (hXa.up hB5) (fun hHeldx => ?_)
      clear hK K
      try simp only [Act.put, List.setIfInBounds_toArray, List.set_cons_zero, List.set_cons_succ]
      obtain ⟨TL, hTL⟩ : ∃ z, z = bC (binS (l4, false)).1 := ⟨_, rfl⟩
      obtain ⟨r0, hr0, hr1⟩ : ∃ r0 : Bool, (∀ w, (Op.equalIn 10000 72 (.agg TL.toArray) (.agg XL.toArray)).run Try.prog w = .ok r0 w) ∧ (r0 = true ↔ OkB x) := by
        rw [← Hl4.out] at hTL
        by_cases ho : OkB x
        · have e := (bin_round Hxw.out).1 ho
          rw [e] at hTL
          obtain ⟨r, h1, h2⟩ := bin_eqv x x Hxw.out.d Hxw.out.d TL XL hTL HXL.out wa
          exact ⟨true, fun w => by
            obtain ⟨r', h1', h2'⟩ := bin_eqv x x Hxw.out.d Hxw.out.d TL XL hTL HXL.out w
            rw [h1', h2'.2 rfl], ⟨fun _ => ho, fun _ => rfl⟩⟩
        · have e := (bin_round Hxw.out).2 ho
          rw [e] at hTL
          exact ⟨false, fun w => by
            obtain ⟨r', h1', h2'⟩ := bin_eqv zB x rfl Hxw.out.d TL XL hTL HXL.out w
            rw [h1']
            cases r' with
            | false => rfl
            | true => exact absurd (h2'.1 rfl ▸ zB_ok) ho, ⟨fun h => (by cases h), fun h => absurd h ho⟩⟩
      have Hr0 := Lib.hid hr0
      have Hr1 := Lib.hid hr1
      have HTL := Lib.hid hTL
      clear hr0 hr1 hTL
      refine wpAnyH_ready (rs := [5]) (by kernel_rfl) (by simp) ?_
      refine AllReadyH.cons rfl (fun K hK => ?_) AllReadyH.nil
      go_simp
      go_at_call 46
      refine Calls.mono (ntake_fl (l4, false) p5 w5 HP5.out TL HTL.out) ?_
      rintro e w6 ⟨rfl, _, ht6⟩
      have hB6 : Below wa.heap.size wa w6 := hB5.trans ((Turn.only ht6).below (by have := hB4.size; omega) (by rintro j rfl; have := hB4.size; omega))
      clear ht6
      go_wp2_with fail
      refine hK.out _ _ (hXa.up hB6) (fun hHeldx => ?_)
      clear hK K
      try simp only [Act.put, List.setIfInBounds_toArray, List.set_cons_zero, List.set_cons_succ]
      refine anyH_take (i := 7) (v := .bool (!r0)) (some 22) rfl rfl (by kernel_rfl) (by kernel_rfl) (by kernel_rfl) (fun _ _ _ h => h) (Or.inl ⟨by rfl, fun w' hw => by (have hc := Hr0.out; have hg := gtNN; go_simp)⟩) (by assumption) ?_
      simp only [Act.put, List.setIfInBounds_toArray, List.set_cons_zero, List.set_cons_succ]
      refine wpAnyH_done (by kernel_rfl) ?_ _
      have hb6w : Below w.heap.size w w6 := hba.trans (hB6.mono hba.size)
      clear hHeld hB6 hB5 hB4 hB0 hXa
      cases r0 with
      | false =>
        have Hno : Hid (b = false) := Lib.hid (by
          cases b with
          | false => rfl
          | true =>
            have := Hr1.out.2 (Hb.out.1 rfl x (List.mem_of_getElem? Hx.out))
            cases this)
        go_wp2_with fail
        go_ret
        exact ⟨by rw [Hno.out]; rfl, hb6w⟩
      | true =>
        have Hk2 : Hid (∀ j r, j < k + 1 → rs[j]? = some r → OkB r) := fun j r hj hr => by
          by_cases e : j = k
          · subst e
            rw [Hx.out] at hr
            injection hr with hr
            rw [← hr]
            exact Hr1.out.1 rfl
          · exact Hk.out j r (by omega) hr
        go_wp2_with fail
        go_roundw
        case rel => exact ⟨k + 1, by omega, by go_num, hb6w, Hk2⟩
        case measure => simp [Go.RowKit.intOf]; omega
    · obtain rfl : k = n := by omega
      have hd1 : decide (k < k) = false := by simp
      have Hyes : Hid (b = true) := Lib.hid (Hb.out.2 fun r hr => by
        obtain ⟨j, hj, rfl⟩ := List.getElem_of_mem hr
        exact Hk.out j _ (by rw [← Hn.out]; exact hj) (List.getElem?_eq_getElem hj))
      go_wp2_with fail
      go_ret
      exact ⟨by rw [Hyes.out]; rfl, hbr⟩

end Go.Proofs.Ytkepfigoeaheaaa

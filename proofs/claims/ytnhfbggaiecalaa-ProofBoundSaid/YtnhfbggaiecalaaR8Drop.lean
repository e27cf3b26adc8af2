/-
  The document's own Drop. Written by gen_r8.py.
-/
import Derived.Test.YtnhfbggaiecalaaR8Find
import Derived.Deep.DeepCutAuto
import Derived.Deep.CutBlock
import Derived.Deep.RegionHeld3
import Derived.IntWalk
namespace Go.Proofs.Ytnhfbggaiecalaa
open Go.RowKit
set_option linter.unusedVariables false
set_option linter.unusedSimpArgs false

set_option maxHeartbeats 8000000 in
set_option maxRecDepth 100000 in
theorem drop_run (key : List UInt8) (hk : key.length = 32) (KL : List Value) (hKL : KL = Lib.byteCells key) (xs : List Itm) (A : Option Addr) (n c : Nat) (w : World) (hn : xs.length = n) (hc : n ≤ c) (hm : n ≤ 100000) (hIt : ItsAt w A xs) :
    Calls Try.prog 12 #[.slice A n c, .agg KL.toArray] w fun e w' => ∃ v, e = .returned v ∧ IRow w' w.heap.size v (dropI xs key) ∧ Below w.heap.size w w' := by
  obtain ⟨W1, hW1⟩ : ∃ W1, W1 = w.alloc (.cells KL.toArray 23) := ⟨_, rfl⟩
  have hK1 : Arr W1 w.heap.size 23 KL := by rw [hW1]; exact Arr.new w _ _
  have hb1 : Below w.heap.size w W1 := by rw [hW1]; exact (Below.refl _ w).alloc (Nat.le_refl _) _
  have HW1 := Lib.hid hW1
  have HKi := Lib.hid (show (Try.prog.info? 23).map (·.size) = some KL.length by rw [hKL, Lib.byteCells_length, hk]; kernel_rfl)
  have HIt := Lib.hid hIt
  obtain ⟨W2, hW2⟩ : ∃ W2, W2 = W1.alloc (.cells #[] 45) := ⟨_, rfl⟩
  obtain ⟨g2, hg2⟩ : ∃ g2, g2 = W1.heap.size := ⟨_, rfl⟩
  have hO2 : IRow W2 w.heap.size (.slice (some ⟨g2, 0, none⟩) 0 0) (dropI (xs.take 0) key) := by rw [hW2, hg2]; exact IRow.empty W1 _ hb1.size
  have hK2 : Arr W2 w.heap.size 23 KL := by rw [hW2]; exact hK1.alloc _
  have hb12 : Below W1.heap.size W1 W2 := by rw [hW2]; exact (Below.refl _ W1).alloc (Nat.le_refl _) _
  have hb2 := hb1.trans (hb12.mono hb1.size)
  have HW2 := Lib.hid hW2
  have Hg2 := Lib.hid hg2
  have Hn := Lib.hid hn
  have HKL := Lib.hid hKL
  clear hW1 hW2 hg2 hKL hn hIt hK1 hb1 hb12
  go_enter Try.func12, Try.ntmps12
  go_upto_region 1 with fail
  change Code.wp _ _ _ _ (w.alloc (.cells KL.toArray 23))
  rw [← HW1.out]
  clear HW1
  go_upto_region 2 with fail
  rw [← Hg2.out]
  change Code.wp _ _ _ _ (W1.alloc (.cells #[] 45))
  rw [← HW2.out]
  clear HW2 Hg2
  go_upto_region 3 with fail
  go_loopw [5, 6] (fun v s wr => ∃ i : Nat, i ≤ n ∧ s = .int .i64 i ∧ Arr wr w.heap.size 23 KL ∧ Below w.heap.size w wr ∧ IRow wr w.heap.size v (dropI (xs.take i) key)) (fun _ s _ => n - (intOf s).toNat)
  case atStart => exact ⟨0, by omega, rfl, hK2, hb2, hO2⟩
  case round =>
    clear hK2 hb2 hO2
    obtain ⟨i, hin, rfl, hKr, hbr, hO⟩ := hrel
    have hItr := HIt.out.up hbr
    by_cases hlt : i < n
    · have hd1 : decide (i < n) = true := by simpa using hlt
      obtain ⟨x, hx⟩ : ∃ x, xs[i]? = some x := ⟨xs[i]'(by rw [Hn.out]; exact hlt), List.getElem?_eq_getElem _⟩
      obtain ⟨b, off, hAe, hbl, hrow⟩ := hItr (by rw [Hn.out]; omega)
      obtain ⟨hxk, hrg⟩ := hrow i x hx
      have Hrow := Lib.hid hrow
      have HAe := Lib.hid hAe
      obtain ⟨YL, hYL⟩ : ∃ YL, YL = Lib.byteCells x.key := ⟨_, rfl⟩
      have hrk := ItsAt.key hrg YL hYL
      have HYi := Lib.hid (show (Try.prog.info? 23).map (·.size) = some YL.length by rw [hYL, Lib.byteCells_length, hxk]; kernel_rfl)
      have Hx := Lib.hid hx
      have HYL := Lib.hid hYL
      have Hxk := Lib.hid hxk
      obtain ⟨r0, hr0⟩ : ∃ r0, decide (x.key = key) = r0 := ⟨_, rfl⟩
      have Hcmp := Lib.hid (fun w => digCmpI x.key key hxk hk YL KL hYL HKL.out r0 hr0 w)
      have Hstep := Lib.hid (dropI_take hx key)
      have Hr0 := Lib.hid hr0
      obtain ⟨VL, hVL⟩ : ∃ VL, VL = itC x := ⟨_, rfl⟩
      have hVl : VL.length = 33 := by rw [hVL, itC_length hxk]
      have HVi := Lib.hid (show (Try.prog.info? 45).map (·.size) = some VL.length by rw [hVl]; exact itSize)
      rw [← hVL] at hrg
      have HVL := Lib.hid hVL
      have HVl := Lib.hid hVl
      have hlen : (dropI (xs.take i) key).length ≤ 1000000 := by
        have h1 := dropI_len (xs.take i) key
        rw [List.length_take] at h1
        omega
      have Hlen := Lib.hid hlen
      subst hAe
      clear hx hrow hxk hYL hr0 hVL hVl hlen
      go_upto_region 5 with fail
      refine wp_region_held_drew (S := fun w' => Arr w' w.heap.size 23 KL ∧ w'.rangeAt b (off + i * 33) YL) (by kernel_rfl) ⟨hKr.drewN 1, hrk⟩ (fun hHeld => ?_)
      refine anyH_take (i := 0) (v := .slice (some ⟨b, off, none⟩) n c) (some 14) rfl rfl (by kernel_rfl) (by kernel_rfl) (by kernel_rfl) (fun _ _ _ h => h) (Or.inl ⟨by rfl, fun w' hw => by go_simp⟩) (by assumption) ?_
      simp only [Act.put, List.setIfInBounds_toArray, List.set_cons_zero, List.set_cons_succ]
      refine anyH_take (i := 1) (v := .int .i64 (i : Nat)) (some 15) rfl rfl (by kernel_rfl) (by kernel_rfl) (by kernel_rfl) (fun _ _ _ h => h) (Or.inl ⟨by rfl, fun w' hw => by go_simp⟩) (by assumption) ?_
      simp only [Act.put, List.setIfInBounds_toArray, List.set_cons_zero, List.set_cons_succ]
      refine anyH_take (i := 2) (v := .pointer (some ⟨b, off + i * 33, none⟩)) (some 16) rfl rfl (by kernel_rfl) (by kernel_rfl) (by kernel_rfl) (fun _ _ _ h => h) (Or.inl ⟨by rfl, fun w' hw => by (go_simp; try (intro h; omega))⟩) (by assumption) ?_
      simp only [Act.put, List.setIfInBounds_toArray, List.set_cons_zero, List.set_cons_succ]
      refine anyH_take (i := 3) (v := .pointer (some ⟨b, off + i * 33, none⟩)) (some 17) rfl rfl (by kernel_rfl) (by kernel_rfl) (by kernel_rfl) (fun _ _ _ h => h) (Or.inl ⟨by rfl, fun w' hw => by go_simp⟩) (by assumption) ?_
      simp only [Act.put, List.setIfInBounds_toArray, List.set_cons_zero, List.set_cons_succ]
      refine anyH_take (i := 4) (some 18) rfl rfl (by kernel_rfl) (by kernel_rfl) (by kernel_rfl) (fun _ _ _ h => h) (yieldsIf_load_mid (by rfl) 23 (.tmp 17) rfl b (off + i * 33) rfl YL _ (fun w' h => h.2) Try.underlying23 rfl HYi.out) (by assumption) ?_
      simp only [Act.put, List.setIfInBounds_toArray, List.set_cons_zero, List.set_cons_succ]
      refine anyH_take (i := 5) (some 19) rfl rfl (by kernel_rfl) (by kernel_rfl) (by kernel_rfl) (fun _ _ _ h => h) (yieldsIf_load_mid (by rfl) 23 (.tmp 3) rfl w.heap.size 0 rfl KL _ (fun w' h => h.1.range) Try.underlying23 rfl HKi.out) (by assumption) ?_
      simp only [Act.put, List.setIfInBounds_toArray, List.set_cons_zero, List.set_cons_succ]
      cases r0 with
      | true =>
        refine anyH_take (i := 6) (v := .bool false) (some 20) rfl rfl (by kernel_rfl) (by kernel_rfl) (by kernel_rfl) (fun _ _ _ h => h) (Or.inl ⟨by rfl, fun w' hw => by (have hc := Hcmp.out; have hg := gt32I; go_simp)⟩) (by assumption) ?_
        simp only [Act.put, List.setIfInBounds_toArray, List.set_cons_zero, List.set_cons_succ]
        refine wpAnyH_done (by kernel_rfl) ?_ _
        clear hHeld
        have hq : x.key = key := by simpa using Hr0.out
        have hO' := hO.up (Below.dN (Below.refl wr.heap.size wr) 1)
        rw [show dropI (xs.take i) key = dropI (xs.take (i + 1)) key by rw [Hstep.out, if_pos hq, List.append_nil]] at hO'
        clear hO hq
        go_wp2_with fail
        go_roundw
        case rel => exact ⟨i + 1, by omega, by go_num, hKr.drewN 1, Below.dN hbr 1, hO'⟩
        case measure => simp [intOf]; omega
      | false =>
        refine anyH_take (i := 6) (v := .bool true) (some 20) rfl rfl (by kernel_rfl) (by kernel_rfl) (by kernel_rfl) (fun _ _ _ h => h) (Or.inl ⟨by rfl, fun w' hw => by (have hc := Hcmp.out; have hg := gt32I; go_simp)⟩) (by assumption) ?_
        simp only [Act.put, List.setIfInBounds_toArray, List.set_cons_zero, List.set_cons_succ]
        refine wpAnyH_done (by kernel_rfl) ?_ _
        clear hHeld
        have hq : x.key ≠ key := by simpa using Hr0.out
        have Hq := Lib.hid hq
        clear hq
        obtain ⟨wx, hwx⟩ : ∃ wx, wx = wr.drew := ⟨_, rfl⟩
        rw [← hwx]
        have hKx : Arr wx w.heap.size 23 KL := by rw [hwx]; exact hKr
        have hbx : Below w.heap.size w wx := by rw [hwx]; exact Below.dN hbr 1
        have hOx := hO.up (Below.dN (Below.refl wr.heap.size wr) 1)
        rw [show wr.drewN 1 = wx from hwx.symm] at hOx
        have hrgx : wx.rangeAt b (off + i * 33) VL := by rw [hwx]; exact hrg
        clear hwx hKr hItr hbr hO hrg hrk
        obtain ⟨wl, hwl⟩ : ∃ W, W = wx.alloc (.cells VL.toArray 45) := ⟨_, rfl⟩
        have hVg : Arr wl wx.heap.size 45 VL := by rw [hwl]; exact Arr.new wx _ _
        have hblx : Below wx.heap.size wx wl := by rw [hwl]; exact (Below.refl _ wx).alloc (Nat.le_refl _) _
        have hOl := hOx.up hblx
        have Hwl := Lib.hid hwl
        clear hwl hOx
        go_wp2_with (first
          | (refine wpList_load_mid rfl _ _ rfl b (off + i * 33) rfl VL _ hrgx Try.underlying45 rfl HVi.out ?_)
          | (refine wpList_build_it rfl _ rfl VL HVl.out rfl ?_; rw [← Hwl.out])
          | (at_builtin; refine wpList_append_it rfl _ _ rfl hOl (Nat.le_trans hbx.size hblx.size) rfl wx.heap.size 1 rfl x Hxk.out VL HVL.out hVg Hlen.out ?_; intro v' w1 hO1 hg1; have hlt1 : ∀ k, Value.ownBlock _ = some k → w.heap.size ≤ k ∧ k < wl.heap.size := hOl.lt))
        have hb1 : Below w.heap.size w w1 := hbx.trans ((hblx.mono hbx.size).trans ((Below.refl _ _).grown hg1 (Nat.le_trans hbx.size hblx.size) (fun k hk => (hOl.lt k hk).1)))
        have hK1 : Arr w1 w.heap.size 23 KL := (hg1.block w.heap.size (hKx.up hblx).lt (fun e => hOl.apartI (hKx.up hblx) (by decide) _ e.symm rfl)).trans (hKx.up hblx)
        rw [show dropI (xs.take i) key ++ [x] = dropI (xs.take (i + 1)) key by rw [Hstep.out, if_neg Hq.out]] at hO1
        go_roundw
        case rel => exact ⟨i + 1, by omega, by go_num, hK1, hb1, hO1⟩
        case measure => simp [intOf]; omega
    · obtain rfl : i = n := by omega
      have hd1 : decide (i < i) = false := by simp
      rw [List.take_of_length_le (by rw [Hn.out]; exact Nat.le_refl _)] at hO
      go_wp2_with fail
      go_ret
      exact ⟨_, rfl, hO, hbr⟩

end Go.Proofs.Ytnhfbggaiecalaa

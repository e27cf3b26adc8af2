/-
  The document's own Find, and Drop. Written by gen_r8.py.
-/
import Derived.Test.YtnhfbggaiecalaaItems
import Derived.Test.YtnhfbggaiecalaaGen
import Derived.Deep.DeepCutAuto
import Derived.Deep.CutBlock
import Derived.Deep.RegionHeld3
import Derived.IntWalk
namespace Go.Proofs.Ytnhfbggaiecalaa
open Go.RowKit
set_option linter.unusedVariables false
set_option linter.unusedSimpArgs false

theorem gt32I : Try.prog.eqGuardType Try.prog.depth 23 = false := by kernel_rfl
theorem digCmpI (a b : List UInt8) (ha : a.length = 32) (hb : b.length = 32) (AL BL : List Value) (hA : AL = Lib.byteCells a) (hB : BL = Lib.byteCells b) (r : Bool) (hr : decide (a = b) = r) (w : World) : (Op.equalIn 10000 23 (.agg AL.toArray) (.agg BL.toArray)).run Try.prog w = .ok r w := by
  rw [← hr]; exact eqv_at Try.underlying23 a b ha hb AL BL hA hB w
/-- Where a key stands, from a place on. -/
def findI : List Itm → List UInt8 → Nat → Int
  | [], _, _ => -1
  | x :: xs, key, i => if x.key = key then (i : Int) else findI xs key (i + 1)
theorem findI_drop {xs : List Itm} {i : Nat} {x : Itm} (h : xs[i]? = some x) (key : List UInt8) (k : Nat) : findI (xs.drop i) key k = if x.key = key then (k : Int) else findI (xs.drop (i + 1)) key (k + 1) := by
  obtain ⟨hi, he⟩ := List.getElem?_eq_some_iff.1 h
  rw [List.drop_eq_getElem_cons hi, he]
  rfl
/-- The items without a key. -/
def dropI (xs : List Itm) (key : List UInt8) : List Itm := xs.filter fun x => decide (x.key ≠ key)
theorem dropI_take {xs : List Itm} {i : Nat} {x : Itm} (h : xs[i]? = some x) (key : List UInt8) : dropI (xs.take (i + 1)) key = dropI (xs.take i) key ++ if x.key = key then [] else [x] := by
  obtain ⟨hi, he⟩ := List.getElem?_eq_some_iff.1 h
  unfold dropI
  rw [List.take_succ_eq_append_getElem hi, List.filter_append, he]
  congr 1
  by_cases e : x.key = key
  · rw [if_pos e]; simp [e]
  · rw [if_neg e]; simp [e]
theorem dropI_len (xs : List Itm) (key : List UInt8) : (dropI xs key).length ≤ xs.length := List.length_filter_le _ _

set_option maxHeartbeats 8000000 in
set_option maxRecDepth 100000 in
theorem find_run (key : List UInt8) (hk : key.length = 32) (KL : List Value) (hKL : KL = Lib.byteCells key) (xs : List Itm) (A : Option Addr) (n c : Nat) (w : World) (hn : xs.length = n) (hc : n ≤ c) (hm : n ≤ 1000000) (hIt : ItsAt w A xs) (z : Int) (hz : findI xs key 0 = z) :
    Calls Try.prog 14 #[.slice A n c, .agg KL.toArray] w fun e w' => e = .returned (.int .i64 z) ∧ Below w.heap.size w w' := by
  obtain ⟨W1, hW1⟩ : ∃ W1, W1 = w.alloc (.cells KL.toArray 23) := ⟨_, rfl⟩
  have hK1 : Arr W1 w.heap.size 23 KL := by rw [hW1]; exact Arr.new w _ _
  have hb1 : Below w.heap.size w W1 := by rw [hW1]; exact (Below.refl _ w).alloc (Nat.le_refl _) _
  have HW1 := Lib.hid hW1
  have HKi := Lib.hid (show (Try.prog.info? 23).map (·.size) = some KL.length by rw [hKL, Lib.byteCells_length, hk]; kernel_rfl)
  have HIt := Lib.hid hIt
  have Hn := Lib.hid hn
  have HKL := Lib.hid hKL
  have Hz0 : Hid (findI (xs.drop 0) key 0 = z) := hz
  clear hW1 hKL hn hIt hz
  go_enter Try.func14, Try.ntmps14
  go_upto_region 1 with fail
  change Code.wp _ _ _ _ (w.alloc (.cells KL.toArray 23))
  rw [← HW1.out]
  clear HW1
  go_upto_region 2 with fail
  go_loopw [5] (fun s wr => ∃ i : Nat, i ≤ n ∧ s = .int .i64 i ∧ Arr wr w.heap.size 23 KL ∧ Below w.heap.size w wr ∧ Hid (findI (xs.drop i) key i = z)) (fun s _ => n - (intOf s).toNat)
  case atStart => exact ⟨0, by omega, rfl, hK1, hb1, Hz0⟩
  case round =>
    clear hK1 hb1 Hz0
    obtain ⟨i, hin, rfl, hKr, hbr, Hz⟩ := hrel
    have hItr := HIt.out.up hbr
    by_cases hlt : i < n
    · have hd1 : decide (i < n) = true := by simpa using hlt
      obtain ⟨x, hx⟩ : ∃ x, xs[i]? = some x := ⟨xs[i]'(by rw [Hn.out]; exact hlt), List.getElem?_eq_getElem _⟩
      obtain ⟨b, off, hAe, hbl, hrow⟩ := hItr (by rw [Hn.out]; omega)
      obtain ⟨hxk, hrg⟩ := hrow i x hx
      have Hrow := Lib.hid hrow
      have HAe := Lib.hid hAe
      obtain ⟨YL, hYL⟩ : ∃ YL, YL = Lib.byteCells x.key := ⟨_, rfl⟩
      have hrk := ItsAt.key hrg YL hYL
      have HYi := Lib.hid (show (Try.prog.info? 23).map (·.size) = some YL.length by rw [hYL, Lib.byteCells_length, hxk]; kernel_rfl)
      have Hx := Lib.hid hx
      have HYL := Lib.hid hYL
      have Hxk := Lib.hid hxk
      obtain ⟨r0, hr0⟩ : ∃ r0, decide (x.key = key) = r0 := ⟨_, rfl⟩
      have Hcmp := Lib.hid (fun w => digCmpI x.key key hxk hk YL KL hYL HKL.out r0 hr0 w)
      have hstep := Hz.out
      rw [findI_drop hx key i] at hstep
      have Hstep := Lib.hid hstep
      have Hr0 := Lib.hid hr0
      subst hAe
      clear hx hrow hxk hrg hYL hstep hr0 Hz
      go_upto_region 4 with fail
      refine wp_region_held_drew (S := fun w' => Arr w' w.heap.size 23 KL ∧ w'.rangeAt b (off + i * 33) YL) (by kernel_rfl) ⟨hKr.drewN 1, hrk⟩ (fun hHeld => ?_)
      refine anyH_take (i := 0) (v := .slice (some ⟨b, off, none⟩) n c) (some 12) rfl rfl (by kernel_rfl) (by kernel_rfl) (by kernel_rfl) (fun _ _ _ h => h) (Or.inl ⟨by rfl, fun w' hw => by go_simp⟩) (by assumption) ?_
      simp only [Act.put, List.setIfInBounds_toArray, List.set_cons_zero, List.set_cons_succ]
      refine anyH_take (i := 1) (v := .int .i64 (i : Nat)) (some 13) rfl rfl (by kernel_rfl) (by kernel_rfl) (by kernel_rfl) (fun _ _ _ h => h) (Or.inl ⟨by rfl, fun w' hw => by go_simp⟩) (by assumption) ?_
      simp only [Act.put, List.setIfInBounds_toArray, List.set_cons_zero, List.set_cons_succ]
      refine anyH_take (i := 2) (v := .pointer (some ⟨b, off + i * 33, none⟩)) (some 14) rfl rfl (by kernel_rfl) (by kernel_rfl) (by kernel_rfl) (fun _ _ _ h => h) (Or.inl ⟨by rfl, fun w' hw => by (go_simp; try (intro h; omega))⟩) (by assumption) ?_
      simp only [Act.put, List.setIfInBounds_toArray, List.set_cons_zero, List.set_cons_succ]
      refine anyH_take (i := 3) (v := .pointer (some ⟨b, off + i * 33, none⟩)) (some 15) rfl rfl (by kernel_rfl) (by kernel_rfl) (by kernel_rfl) (fun _ _ _ h => h) (Or.inl ⟨by rfl, fun w' hw => by go_simp⟩) (by assumption) ?_
      simp only [Act.put, List.setIfInBounds_toArray, List.set_cons_zero, List.set_cons_succ]
      refine anyH_take (i := 4) (some 16) rfl rfl (by kernel_rfl) (by kernel_rfl) (by kernel_rfl) (fun _ _ _ h => h) (yieldsIf_load_mid (by rfl) 23 (.tmp 15) rfl b (off + i * 33) rfl YL _ (fun w' h => h.2) Try.underlying23 rfl HYi.out) (by assumption) ?_
      simp only [Act.put, List.setIfInBounds_toArray, List.set_cons_zero, List.set_cons_succ]
      refine anyH_take (i := 5) (some 17) rfl rfl (by kernel_rfl) (by kernel_rfl) (by kernel_rfl) (fun _ _ _ h => h) (yieldsIf_load_mid (by rfl) 23 (.tmp 3) rfl w.heap.size 0 rfl KL _ (fun w' h => h.1.range) Try.underlying23 rfl HKi.out) (by assumption) ?_
      simp only [Act.put, List.setIfInBounds_toArray, List.set_cons_zero, List.set_cons_succ]
      refine anyH_take (i := 6) (v := .bool r0) (some 18) rfl rfl (by kernel_rfl) (by kernel_rfl) (by kernel_rfl) (fun _ _ _ h => h) (Or.inl ⟨by rfl, fun w' hw => by (have hc := Hcmp.out; have hg := gt32I; go_simp)⟩) (by assumption) ?_
      simp only [Act.put, List.setIfInBounds_toArray, List.set_cons_zero, List.set_cons_succ]
      refine wpAnyH_done (by kernel_rfl) ?_ _
      clear hHeld
      cases r0 with
      | true =>
        have hq : x.key = key := by simpa using Hr0.out
        have he := Hstep.out
        rw [if_pos hq] at he
        have He := Lib.hid he
        clear he hq
        go_wp2_with fail
        go_ret
        exact ⟨by rw [← He.out]; rfl, Below.dN hbr 1⟩
      | false =>
        have hq : x.key ≠ key := by simpa using Hr0.out
        have he := Hstep.out
        rw [if_neg hq] at he
        have He := Lib.hid he
        clear he hq
        go_wp2_with fail
        go_roundw
        case rel => exact ⟨i + 1, by omega, by go_num, hKr.drewN 1, Below.dN hbr 1, He⟩
        case measure => simp [intOf]; omega
    · obtain rfl : i = n := by omega
      have hd1 : decide (i < i) = false := by simp
      have hq := Hz.out
      rw [List.drop_of_length_le (by rw [Hn.out]; exact Nat.le_refl _)] at hq
      have hz1 : z = -1 := hq.symm
      have Hz1 := Lib.hid hz1
      clear hq hz1
      go_wp2_with fail
      go_ret
      exact ⟨by rw [Hz1.out]; rfl, hbr⟩

end Go.Proofs.Ytnhfbggaiecalaa

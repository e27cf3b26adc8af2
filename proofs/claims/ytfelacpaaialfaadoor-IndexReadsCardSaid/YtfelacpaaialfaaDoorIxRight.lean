/-
  The document's Right: may items be those of an index?
-/
import Derived.Test.YtfelacpaaialfaaDoorIxSame
import Derived.Test.YtfelacpaaialfaaDoorIxLess
namespace Go.Proofs.YtfelacpaaialfaaDoor
open Go.RowKit
set_option linter.unusedVariables false
set_option linter.unusedSimpArgs false

/-- What one place of a row is asked. -/
def okAt (xs : List Ix) (i : Nat) : Prop := ∀ x, xs[i]? = some x → (∀ y, 0 < i → xs[i - 1]? = some y → ltD y.d x.d = true) ∧ mayI x
/-- What a row is asked. -/
def rightP (xs : List Ix) : Prop := ∀ i, i < xs.length → okAt xs i
theorem it_parts {w : World} {b o : Nat} {x : Ix} (h32 : x.d.length = 32) (h : w.rangeAt b o (itC x)) : w.rangeAt b o (Lib.byteCells x.d) ∧ w.rangeAt b (o + 32) (plC ((x.b : Int) - 1) (x.s : Nat)) ∧ w.cell? ⟨b, o + 34, none⟩ = some (.int .i64 (x.u : Nat)) := by
  have hl : (Lib.byteCells x.d).length = 32 := by rw [Lib.byteCells_length, h32]
  refine ⟨fun j v hj => h j v ?_, fun j v hj => ?_, h 34 _ ?_⟩
  · unfold itC
    rw [List.getElem?_append_left (List.getElem?_eq_some_iff.1 hj).1]
    exact hj
  · rw [show o + 32 + j = o + (32 + j) by omega]
    refine h (32 + j) v ?_
    unfold itC
    rw [List.getElem?_append_right (by omega), hl, show 32 + j - 32 = j by omega]
    match j, hj with
    | 0, hj => exact hj
    | 1, hj => exact hj
    | j + 2, hj => exact absurd hj (by simp [plC])
  · unfold itC
    rw [List.getElem?_append_right (by omega), hl]
    rfl

set_option maxHeartbeats 8000000 in
set_option maxRecDepth 100000 in
theorem iright_any (xs : List Ix) (A : Option Addr) (n c : Nat) (w : World) (hn : xs.length = n) (hc : n ≤ c) (hm : c ≤ 9223372036854775807) (h : ItRow w A xs) (hfit : ∀ x ∈ xs, x.b ≤ 2147483648 ∧ x.s ≤ 65535 ∧ x.u ≤ 2147483647) :
    Calls Tryd.prog 25 #[.slice A n c] w fun e w' => (∃ r, e = .returned (.bool r) ∧ (r = true ↔ rightP xs)) ∧ Below w.heap.size w w' := by
  have Hn := Lib.hid hn
  have H := Lib.hid h
  have Hfit := Lib.hid hfit
  clear hn h hfit
  go_enter Tryd.func25, Tryd.ntmps25
  go_wp2_with fail
  go_loopw [3] (fun p wr => ∃ k : Nat, k ≤ n ∧ p = .int .i64 k ∧ (∀ j, j < k → okAt xs j) ∧ Below w.heap.size w wr) (fun i _ => n - (intOf i).toNat)
  case atStart => exact ⟨0, Nat.zero_le _, rfl, (fun j hj => absurd hj (Nat.not_lt_zero _)), Below.refl _ _⟩
  case round =>
    obtain ⟨k, hk, rfl, hall, hbw⟩ := hrel
    by_cases hlt : k < n
    · have hkd : k < xs.length := by rw [Hn.out]; exact hlt
      obtain ⟨x, hx⟩ : ∃ x, xs[k]? = some x := ⟨_, List.getElem?_eq_getElem hkd⟩
      obtain ⟨b, off, rfl, hb, hd⟩ := (H.out.below hbw) (by omega)
      obtain ⟨h32, hr⟩ := hd k x hx
      obtain ⟨f1, f2, f3⟩ := Hfit.out x (List.mem_of_getElem? hx)
      obtain ⟨pd, pp, pu⟩ := it_parts h32 hr
      obtain ⟨xb, hxb⟩ : ∃ z, z = x.b := ⟨_, rfl⟩
      obtain ⟨sl, hsl⟩ : ∃ z, z = x.s := ⟨_, rfl⟩
      obtain ⟨xu, hxu⟩ : ∃ z, z = x.u := ⟨_, rfl⟩
      rw [← hxb] at f1 pp
      rw [← hsl] at f2 pp
      rw [← hxu] at f3 pu
      obtain ⟨PL, hPL⟩ : ∃ z, z = plC ((xb : Int) - 1) (sl : Nat) := ⟨_, rfl⟩
      obtain ⟨DX, hDX⟩ : ∃ z, z = Lib.byteCells x.d := ⟨_, rfl⟩
      rw [← hPL] at pp
      rw [← hDX] at pd
      have HPi := Lib.hid (show (Tryd.prog.info? 48).map (·.size) = some PL.length by rw [hPL]; exact plInfo)
      have HPi2 := Lib.hid (show (Tryd.prog.info? 48).map (·.size) = some PL.toArray.size by rw [hPL]; exact plInfo)
      have HPz := Lib.hid (show (plC 0 0).toArray.size = PL.toArray.size by rw [hPL]; rfl)
      have HP1 := Lib.hid (show PL.toArray.all (·.oneCell') = true by rw [hPL]; simp [plC, Value.oneCell'])
      have HDi := Lib.hid (show (Tryd.prog.info? 39).map (·.size) = some DX.length by rw [hDX, Lib.byteCells_length, h32]; exact digInfo)
      obtain ⟨w1, hw1⟩ : ∃ z, z = (wr.alloc (.cells (plC 0 0).toArray 48)).setRow wr.heap.size PL.toArray := ⟨_, rfl⟩
      obtain ⟨hP1, hb1⟩ := alloc_row wr 48 (plC 0 0).toArray PL
      rw [← hw1] at hP1 hb1
      have p0 : w1.cell? ⟨wr.heap.size, 0, none⟩ = some (.int .i64 ((xb : Int) - 1)) := by rw [hP1.cell, hPL]; rfl
      have p1 : w1.cell? ⟨wr.heap.size, 1, none⟩ = some (.int .i64 (sl : Nat)) := by rw [hP1.cell, hPL]; rfl
      have pd1 : w1.rangeAt b (off + k * 35) DX := fun j v hj => (hb1.cell (p := ⟨b, _, none⟩) hb).trans (pd j v hj)
      have pu1 : w1.cell? ⟨b, off + k * 35 + 34, none⟩ = some (.int .i64 (xu : Nat)) := (hb1.cell (p := ⟨b, _, none⟩) hb).trans pu
      have HW1 := Lib.hid hw1
      have Hb1 := Lib.hid (show Below w.heap.size w w1 from hbw.trans (hb1.mono hbw.size))
      have Hall := Lib.hid hall
      have Hx := Lib.hid (show xs[k]? = some x ∧ xb = x.b ∧ sl = x.s ∧ xu = x.u ∧ DX = Lib.byteCells x.d ∧ x.d.length = 32 from ⟨hx, hxb, hsl, hxu, hDX, h32⟩)
      have Hprev := Lib.hid (show 0 < k → ∃ y, xs[k - 1]? = some y ∧ y.d.length = 32 ∧ w1.rangeAt b (off + (k - 1) * 35) (Lib.byteCells y.d) from fun h0 => by
        obtain ⟨y, hy⟩ : ∃ y, xs[k - 1]? = some y := ⟨_, List.getElem?_eq_getElem (by omega)⟩
        obtain ⟨y1, y2⟩ := hd (k - 1) y hy
        exact ⟨y, hy, y1, fun j v hj => (hb1.cell (p := ⟨b, _, none⟩) hb).trans ((it_parts y1 y2).1 j v hj)⟩)
      have hki : (k : Int) < (n : Int) := by omega
      have hbs : b < w1.heap.size := by have := hb1.size; omega
      clear hw1 hb1 hP1 hd hr hx hxb hsl hxu hDX hPL hall hbw pd pu
      go_upto_region 5 with (first
        | ((with_reducible refine wpList_atI 15 (by rfl) ?_); refine wpList_load_mid rfl _ _ rfl b (off + k * 35 + 32) rfl PL _ pp Tryd.underlying48 rfl HPi.out ?_)
        | (change wpList _ _ _ _ _ (wr.alloc (.cells (plC 0 0).toArray 48)); refine wpList_store_row rfl _ _ _ rfl wr.heap.size PL.toArray rfl rfl 48 (plC 0 0).toArray (heap_alloc_new wr _) HPi2.out HPz.out HP1.out ?_; rw [← HW1.out]))
      by_cases h0 : k = 0
      case pos =>
        have d0 : decide ((0 : Int) < (k : Int)) = false := decide_eq_false (by omega)
        have Hprv := Lib.hid (show ∀ y, 0 < k → xs[k - 1]? = some y → ltD y.d x.d = true from fun y hk0 => absurd hk0 (by omega))
        have H0 := Lib.hid h0
        clear h0
        refine wp_region_held_drew (S := fun w' => w'.rangeAt b (off + k * 35) DX ∧ w'.cell? ⟨b, off + k * 35 + 34, none⟩ = some (.int .i64 (xu : Nat)) ∧ True) (by kernel_rfl) ⟨show w1.drew.rangeAt _ _ _ from pd1, pu1, trivial⟩ (fun hHeld => ?_)
        refine anyH_take (i := 0) (v := .int .i64 (k : Nat)) (some 16) rfl rfl (by kernel_rfl) (by kernel_rfl) (by kernel_rfl) (fun _ _ _ h => h) (Or.inl ⟨by rfl, fun w' hw => by rfl⟩) (by assumption) ?_
        simp only [Act.put, List.setIfInBounds_toArray, List.set_cons_zero, List.set_cons_succ]
        refine anyH_take (i := 1) (v := .bool false) (some 17) rfl rfl (by kernel_rfl) (by kernel_rfl) (by kernel_rfl) (fun _ _ _ h => h) (Or.inl ⟨by rfl, fun w' hw => by (go_simp; exact H0.out)⟩) (by assumption) ?_
        simp only [Act.put, List.setIfInBounds_toArray, List.set_cons_zero, List.set_cons_succ]
        refine anyH_take (i := 2) (v := .bool false) (some 18) rfl rfl (by kernel_rfl) (by kernel_rfl) (by kernel_rfl) (fun _ _ _ h => h) (Or.inl ⟨by rfl, fun w' hw => by rfl⟩) (by assumption) ?_
        simp only [Act.put, List.setIfInBounds_toArray, List.set_cons_zero, List.set_cons_succ]
        refine anyH_take (i := 3) (v := undef) (some 19) rfl rfl (by kernel_rfl) (by kernel_rfl) (by kernel_rfl) (fun _ _ _ h => h) (Or.inr ⟨by rfl, rfl⟩) (by assumption) ?_
        simp only [Act.put, List.setIfInBounds_toArray, List.set_cons_zero, List.set_cons_succ]
        refine anyH_take (i := 4) (v := undef) (some 20) rfl rfl (by kernel_rfl) (by kernel_rfl) (by kernel_rfl) (fun _ _ _ h => h) (Or.inr ⟨by rfl, rfl⟩) (by assumption) ?_
        simp only [Act.put, List.setIfInBounds_toArray, List.set_cons_zero, List.set_cons_succ]
        refine anyH_take (i := 5) (v := undef) (some 21) rfl rfl (by kernel_rfl) (by kernel_rfl) (by kernel_rfl) (fun _ _ _ h => h) (Or.inr ⟨by rfl, rfl⟩) (by assumption) ?_
        simp only [Act.put, List.setIfInBounds_toArray, List.set_cons_zero, List.set_cons_succ]
        refine anyH_take (i := 6) (v := undef) (some 22) rfl rfl (by kernel_rfl) (by kernel_rfl) (by kernel_rfl) (fun _ _ _ h => h) (Or.inr ⟨by rfl, rfl⟩) (by assumption) ?_
        simp only [Act.put, List.setIfInBounds_toArray, List.set_cons_zero, List.set_cons_succ]
        refine anyH_take (i := 7) (v := undef) (some 23) rfl rfl (by kernel_rfl) (by kernel_rfl) (by kernel_rfl) (fun _ _ _ h => h) (Or.inr ⟨by rfl, rfl⟩) (by assumption) ?_
        simp only [Act.put, List.setIfInBounds_toArray, List.set_cons_zero, List.set_cons_succ]
        refine anyH_take (i := 8) (v := undef) (some 24) rfl rfl (by kernel_rfl) (by kernel_rfl) (by kernel_rfl) (fun _ _ _ h => h) (Or.inr ⟨by rfl, rfl⟩) (by assumption) ?_
        simp only [Act.put, List.setIfInBounds_toArray, List.set_cons_zero, List.set_cons_succ]
        refine anyH_take (i := 9) (v := undef) (some 25) rfl rfl (by kernel_rfl) (by kernel_rfl) (by kernel_rfl) (fun _ _ _ h => h) (Or.inr ⟨by rfl, rfl⟩) (by assumption) ?_
        simp only [Act.put, List.setIfInBounds_toArray, List.set_cons_zero, List.set_cons_succ]
        refine anyH_take (i := 10) (v := undef) (some 26) rfl rfl (by kernel_rfl) (by kernel_rfl) (by kernel_rfl) (fun _ _ _ h => h) (Or.inr ⟨by rfl, rfl⟩) (by assumption) ?_
        simp only [Act.put, List.setIfInBounds_toArray, List.set_cons_zero, List.set_cons_succ]
        refine anyH_take (i := 11) (v := undef) (some 27) rfl rfl (by kernel_rfl) (by kernel_rfl) (by kernel_rfl) (fun _ _ _ h => h) (Or.inr ⟨by rfl, rfl⟩) (by assumption) ?_
        simp only [Act.put, List.setIfInBounds_toArray, List.set_cons_zero, List.set_cons_succ]
        refine anyH_take (i := 12) (v := undef) (some 28) rfl rfl (by kernel_rfl) (by kernel_rfl) (by kernel_rfl) (fun _ _ _ h => h) (Or.inr ⟨by rfl, rfl⟩) (by assumption) ?_
        simp only [Act.put, List.setIfInBounds_toArray, List.set_cons_zero, List.set_cons_succ]
        refine anyH_take (i := 13) (v := undef) (some 29) rfl rfl (by kernel_rfl) (by kernel_rfl) (by kernel_rfl) (fun _ _ _ h => h) (Or.inr ⟨by rfl, rfl⟩) (by assumption) ?_
        simp only [Act.put, List.setIfInBounds_toArray, List.set_cons_zero, List.set_cons_succ]
        refine anyH_take (i := 14) (v := undef) (some 30) rfl rfl (by kernel_rfl) (by kernel_rfl) (by kernel_rfl) (fun _ _ _ h => h) (Or.inr ⟨by rfl, rfl⟩) (by assumption) ?_
        simp only [Act.put, List.setIfInBounds_toArray, List.set_cons_zero, List.set_cons_succ]
        refine anyH_take (i := 15) (v := undef) (some 31) rfl rfl (by kernel_rfl) (by kernel_rfl) (by kernel_rfl) (fun _ _ _ h => h) (Or.inr ⟨by rfl, rfl⟩) (by assumption) ?_
        simp only [Act.put, List.setIfInBounds_toArray, List.set_cons_zero, List.set_cons_succ]
        refine anyH_take (i := 16) (v := .bool false) (some 32) rfl rfl (by kernel_rfl) (by kernel_rfl) (by kernel_rfl) (fun _ _ _ h => h) (Or.inl ⟨by rfl, fun w' hw => by go_simp⟩) (by assumption) ?_
        simp only [Act.put, List.setIfInBounds_toArray, List.set_cons_zero, List.set_cons_succ]
        refine anyH_take (i := 17) (v := .bool false) (some 33) rfl rfl (by kernel_rfl) (by kernel_rfl) (by kernel_rfl) (fun _ _ _ h => h) (Or.inl ⟨by rfl, fun w' hw => by rfl⟩) (by assumption) ?_
        simp only [Act.put, List.setIfInBounds_toArray, List.set_cons_zero, List.set_cons_succ]
        refine anyH_take (i := 18) (v := .slice (some ⟨b, off, none⟩) n c) (some 34) rfl rfl (by kernel_rfl) (by kernel_rfl) (by kernel_rfl) (fun _ _ _ h => h) (Or.inl ⟨by rfl, fun w' hw => by rfl⟩) (by assumption) ?_
        simp only [Act.put, List.setIfInBounds_toArray, List.set_cons_zero, List.set_cons_succ]
        refine anyH_take (i := 19) (v := .int .i64 (k : Nat)) (some 35) rfl rfl (by kernel_rfl) (by kernel_rfl) (by kernel_rfl) (fun _ _ _ h => h) (Or.inl ⟨by rfl, fun w' hw => by rfl⟩) (by assumption) ?_
        simp only [Act.put, List.setIfInBounds_toArray, List.set_cons_zero, List.set_cons_succ]
        refine anyH_take (i := 20) (v := .pointer (some ⟨b, off + k * 35, none⟩)) (some 36) rfl rfl (by kernel_rfl) (by kernel_rfl) (by kernel_rfl) (fun _ _ _ h => h) (Or.inl ⟨by rfl, fun w' hw => by go_simp⟩) (by assumption) ?_
        simp only [Act.put, List.setIfInBounds_toArray, List.set_cons_zero, List.set_cons_succ]
        refine anyH_take (i := 21) (v := .pointer (some ⟨b, off + k * 35 + 34, none⟩)) (some 37) rfl rfl (by kernel_rfl) (by kernel_rfl) (by kernel_rfl) (fun _ _ _ h => h) (Or.inl ⟨by rfl, fun w' hw => by go_simp⟩) (by assumption) ?_
        simp only [Act.put, List.setIfInBounds_toArray, List.set_cons_zero, List.set_cons_succ]
        refine anyH_take (i := 22) (v := .int .i64 (xu : Nat)) (some 38) rfl rfl (by kernel_rfl) (by kernel_rfl) (by kernel_rfl) (fun _ _ _ h => h) (Or.inl ⟨by rfl, fun w' hw => by (have hc := hw.2.1; go_simp)⟩) (by assumption) ?_
        simp only [Act.put, List.setIfInBounds_toArray, List.set_cons_zero, List.set_cons_succ]
        by_cases hu : xu < 1
        case pos =>
          have u1 : decide ((xu : Int) < 1) = true := decide_eq_true (by omega)
          refine anyH_take (i := 23) (v := .bool true) (some 39) rfl rfl (by kernel_rfl) (by kernel_rfl) (by kernel_rfl) (fun _ _ _ h => h) (Or.inl ⟨by rfl, fun w' hw => by go_simp⟩) (by assumption) ?_
          simp only [Act.put, List.setIfInBounds_toArray, List.set_cons_zero, List.set_cons_succ]
          refine anyH_take (i := 24) (v := .bool true) (some 40) rfl rfl (by kernel_rfl) (by kernel_rfl) (by kernel_rfl) (fun _ _ _ h => h) (Or.inl ⟨by rfl, fun w' hw => by go_simp⟩) (by assumption) ?_
          simp only [Act.put, List.setIfInBounds_toArray, List.set_cons_zero, List.set_cons_succ]
          refine anyH_take (i := 25) (v := .bool true) (some 41) rfl rfl (by kernel_rfl) (by kernel_rfl) (by kernel_rfl) (fun _ _ _ h => h) (Or.inl ⟨by rfl, fun w' hw => by rfl⟩) (by assumption) ?_
          simp only [Act.put, List.setIfInBounds_toArray, List.set_cons_zero, List.set_cons_succ]
          refine anyH_take (i := 26) (v := undef) (some 42) rfl rfl (by kernel_rfl) (by kernel_rfl) (by kernel_rfl) (fun _ _ _ h => h) (Or.inr ⟨by rfl, rfl⟩) (by assumption) ?_
          simp only [Act.put, List.setIfInBounds_toArray, List.set_cons_zero, List.set_cons_succ]
          refine anyH_take (i := 27) (v := undef) (some 43) rfl rfl (by kernel_rfl) (by kernel_rfl) (by kernel_rfl) (fun _ _ _ h => h) (Or.inr ⟨by rfl, rfl⟩) (by assumption) ?_
          simp only [Act.put, List.setIfInBounds_toArray, List.set_cons_zero, List.set_cons_succ]
          refine anyH_take (i := 28) (v := undef) (some 44) rfl rfl (by kernel_rfl) (by kernel_rfl) (by kernel_rfl) (fun _ _ _ h => h) (Or.inr ⟨by rfl, rfl⟩) (by assumption) ?_
          simp only [Act.put, List.setIfInBounds_toArray, List.set_cons_zero, List.set_cons_succ]
          refine anyH_take (i := 29) (v := undef) (some 45) rfl rfl (by kernel_rfl) (by kernel_rfl) (by kernel_rfl) (fun _ _ _ h => h) (Or.inr ⟨by rfl, rfl⟩) (by assumption) ?_
          simp only [Act.put, List.setIfInBounds_toArray, List.set_cons_zero, List.set_cons_succ]
          refine anyH_take (i := 30) (v := undef) (some 46) rfl rfl (by kernel_rfl) (by kernel_rfl) (by kernel_rfl) (fun _ _ _ h => h) (Or.inr ⟨by rfl, rfl⟩) (by assumption) ?_
          simp only [Act.put, List.setIfInBounds_toArray, List.set_cons_zero, List.set_cons_succ]
          refine anyH_take (i := 31) (v := undef) (some 47) rfl rfl (by kernel_rfl) (by kernel_rfl) (by kernel_rfl) (fun _ _ _ h => h) (Or.inr ⟨by rfl, rfl⟩) (by assumption) ?_
          simp only [Act.put, List.setIfInBounds_toArray, List.set_cons_zero, List.set_cons_succ]
          refine anyH_take (i := 32) (v := .bool true) (some 48) rfl rfl (by kernel_rfl) (by kernel_rfl) (by kernel_rfl) (fun _ _ _ h => h) (Or.inl ⟨by rfl, fun w' hw => by go_simp⟩) (by assumption) ?_
          simp only [Act.put, List.setIfInBounds_toArray, List.set_cons_zero, List.set_cons_succ]
          refine wpAnyH_done (by kernel_rfl) ?_ _
          go_wp2_with fail
          go_ret
          refine ⟨⟨false, rfl, fun h => (by cases h), fun hp => ?_⟩, Hb1.out.drew⟩
          exfalso
          obtain ⟨q1, q2⟩ := hp k (by omega) x Hx.out.1
          have := q2.1
          have := Hx.out.2.2.2.1
          omega
        case neg =>
          have u1 : decide ((xu : Int) < 1) = false := decide_eq_false (by omega)
          have u2 : decide ((2147483647 : Int) < (xu : Int)) = false := decide_eq_false (by omega)
          refine anyH_take (i := 23) (v := .bool false) (some 39) rfl rfl (by kernel_rfl) (by kernel_rfl) (by kernel_rfl) (fun _ _ _ h => h) (Or.inl ⟨by rfl, fun w' hw => by go_simp⟩) (by assumption) ?_
          simp only [Act.put, List.setIfInBounds_toArray, List.set_cons_zero, List.set_cons_succ]
          refine anyH_take (i := 24) (v := .bool false) (some 40) rfl rfl (by kernel_rfl) (by kernel_rfl) (by kernel_rfl) (fun _ _ _ h => h) (Or.inl ⟨by rfl, fun w' hw => by go_simp⟩) (by assumption) ?_
          simp only [Act.put, List.setIfInBounds_toArray, List.set_cons_zero, List.set_cons_succ]
          refine anyH_take (i := 25) (v := .bool false) (some 41) rfl rfl (by kernel_rfl) (by kernel_rfl) (by kernel_rfl) (fun _ _ _ h => h) (Or.inl ⟨by rfl, fun w' hw => by rfl⟩) (by assumption) ?_
          simp only [Act.put, List.setIfInBounds_toArray, List.set_cons_zero, List.set_cons_succ]
          refine anyH_take (i := 26) (v := .slice (some ⟨b, off, none⟩) n c) (some 42) rfl rfl (by kernel_rfl) (by kernel_rfl) (by kernel_rfl) (fun _ _ _ h => h) (Or.inl ⟨by rfl, fun w' hw => by rfl⟩) (by assumption) ?_
          simp only [Act.put, List.setIfInBounds_toArray, List.set_cons_zero, List.set_cons_succ]
          refine anyH_take (i := 27) (v := .int .i64 (k : Nat)) (some 43) rfl rfl (by kernel_rfl) (by kernel_rfl) (by kernel_rfl) (fun _ _ _ h => h) (Or.inl ⟨by rfl, fun w' hw => by rfl⟩) (by assumption) ?_
          simp only [Act.put, List.setIfInBounds_toArray, List.set_cons_zero, List.set_cons_succ]
          refine anyH_take (i := 28) (v := .pointer (some ⟨b, off + k * 35, none⟩)) (some 44) rfl rfl (by kernel_rfl) (by kernel_rfl) (by kernel_rfl) (fun _ _ _ h => h) (Or.inl ⟨by rfl, fun w' hw => by go_simp⟩) (by assumption) ?_
          simp only [Act.put, List.setIfInBounds_toArray, List.set_cons_zero, List.set_cons_succ]
          refine anyH_take (i := 29) (v := .pointer (some ⟨b, off + k * 35 + 34, none⟩)) (some 45) rfl rfl (by kernel_rfl) (by kernel_rfl) (by kernel_rfl) (fun _ _ _ h => h) (Or.inl ⟨by rfl, fun w' hw => by go_simp⟩) (by assumption) ?_
          simp only [Act.put, List.setIfInBounds_toArray, List.set_cons_zero, List.set_cons_succ]
          refine anyH_take (i := 30) (v := .int .i64 (xu : Nat)) (some 46) rfl rfl (by kernel_rfl) (by kernel_rfl) (by kernel_rfl) (fun _ _ _ h => h) (Or.inl ⟨by rfl, fun w' hw => by (have hc := hw.2.1; go_simp)⟩) (by assumption) ?_
          simp only [Act.put, List.setIfInBounds_toArray, List.set_cons_zero, List.set_cons_succ]
          refine anyH_take (i := 31) (v := .bool false) (some 47) rfl rfl (by kernel_rfl) (by kernel_rfl) (by kernel_rfl) (fun _ _ _ h => h) (Or.inl ⟨by rfl, fun w' hw => by go_simp⟩) (by assumption) ?_
          simp only [Act.put, List.setIfInBounds_toArray, List.set_cons_zero, List.set_cons_succ]
          refine anyH_take (i := 32) (v := .bool false) (some 48) rfl rfl (by kernel_rfl) (by kernel_rfl) (by kernel_rfl) (fun _ _ _ h => h) (Or.inl ⟨by rfl, fun w' hw => by go_simp⟩) (by assumption) ?_
          simp only [Act.put, List.setIfInBounds_toArray, List.set_cons_zero, List.set_cons_succ]
          refine wpAnyH_done (by kernel_rfl) ?_ _
          obtain ⟨wq, hwq⟩ : ∃ z, z = w1.drew := ⟨_, rfl⟩
          have c0 : wq.cell? ⟨wr.heap.size, 0, none⟩ = some (.int .i64 ((xb : Int) - 1)) := by rw [hwq]; exact  p0
          have c1 : wq.cell? ⟨wr.heap.size, 1, none⟩ = some (.int .i64 (sl : Nat)) := by rw [hwq]; exact  p1
          have Hbq := Lib.hid (show Below w.heap.size w wq by rw [hwq]; exact Hb1.out.drew)
          rw [← hwq]
          clear hwq p0 p1
          have m1 : decide ((xb : Int) - 1 < -1) = false := decide_eq_false (by omega)
          have m2 : decide ((2147483647 : Int) < (xb : Int) - 1) = false := decide_eq_false (by omega)
          have m3 : decide ((sl : Int) < 0) = false := decide_eq_false (by omega)
          have m4 : decide ((65535 : Int) < (sl : Int)) = false := decide_eq_false (by omega)
          by_cases hbb : xb = 0 ∧ 0 < sl
          case pos =>
            have m5 : decide ((xb : Int) - 1 < 0) = true := decide_eq_true (by omega)
            have m6 : decide ((0 : Int) < (sl : Int)) = true := decide_eq_true (by omega)
            go_wp2_with fail
            go_ret
            refine ⟨⟨false, rfl, fun h => (by cases h), fun hp => ?_⟩, Hbq.out⟩
            exfalso
            obtain ⟨q1, q2⟩ := hp k (by omega) x Hx.out.1
            have := q2.2
            have := Hx.out.2.1
            have := Hx.out.2.2.1
            omega
          case neg =>
            have hkk : okAt xs k := fun x' hx' => by
              obtain rfl : x' = x := by have := hx'.symm.trans Hx.out.1; injection this
              exact ⟨fun y h0 hy => Hprv.out y h0 hy, by have := Hx.out.2.2.2.1; omega, by have := Hx.out.2.1; have := Hx.out.2.2.1; omega⟩
            have Hkk := Lib.hid hkk
            clear hkk
            by_cases hb0 : xb = 0
            case pos =>
              have m5 : decide ((xb : Int) - 1 < 0) = true := decide_eq_true (by omega)
              have m6 : decide ((0 : Int) < (sl : Int)) = false := decide_eq_false (by omega)
              go_wp2_with fail
              go_roundw
              case rel => exact ⟨k + 1, by omega, by go_num, (fun j hj => by
                rcases Nat.lt_or_ge j k with h | h
                · exact Hall.out j h
                · obtain rfl : j = k := by omega
                  exact Hkk.out), Hbq.out⟩
              case measure => simp [intOf]; omega
            case neg =>
              have m5 : decide ((xb : Int) - 1 < 0) = false := decide_eq_false (by omega)
              go_wp2_with fail
              go_roundw
              case rel => exact ⟨k + 1, by omega, by go_num, (fun j hj => by
                rcases Nat.lt_or_ge j k with h | h
                · exact Hall.out j h
                · obtain rfl : j = k := by omega
                  exact Hkk.out), Hbq.out⟩
              case measure => simp [intOf]; omega
      case neg =>
        have h1k : 0 < k := by omega
        have d0 : decide ((0 : Int) < (k : Int)) = true := decide_eq_true (by omega)
        obtain ⟨y, hy, hy32, pdy⟩ := Hprev.out h1k
        obtain ⟨DY, hDY⟩ : ∃ z, z = Lib.byteCells y.d := ⟨_, rfl⟩
        rw [← hDY] at pdy
        obtain ⟨k1, hk1⟩ : ∃ z, z = k - 1 := ⟨_, rfl⟩
        rw [← hk1] at pdy hy
        have Hk1 := Lib.hid (show k = k1 + 1 by omega)
        have Hy := Lib.hid (show xs[k1]? = some y ∧ DY = Lib.byteCells y.d ∧ y.d.length = 32 from ⟨hy, hDY, hy32⟩)
        have HDi2 := Lib.hid (show (Tryd.prog.info? 39).map (·.size) = some DY.length by rw [hDY, Lib.byteCells_length, hy32]; exact digInfo)
        have hk1n : (k1 : Int) < (n : Int) := by omega
        have w64 : IntKind.i64.wrap ((k : Int) - 1) = (k1 : Int) := by rw [IntWalk.i64_in _ (by omega)]; omega
        obtain ⟨r, hr⟩ : ∃ r, ltD y.d x.d = r := ⟨_, rfl⟩
        have Hr := Lib.hid hr
        have Hls := Lib.hid (iless_any y.d x.d hy32 Hx.out.2.2.2.2.2 DY DX hDY Hx.out.2.2.2.2.1 w1.drew)
        rw [hr] at Hls
        clear hk1 hDY hy hr
        refine wp_region_held_drew (S := fun w' => w'.rangeAt b (off + k * 35) DX ∧ w'.cell? ⟨b, off + k * 35 + 34, none⟩ = some (.int .i64 (xu : Nat)) ∧ w'.rangeAt b (off + k1 * 35) DY) (by kernel_rfl) ⟨show w1.drew.rangeAt _ _ _ from pd1, pu1, show w1.drew.rangeAt _ _ _ from pdy⟩ (fun hHeld => ?_)
        refine anyH_take (i := 0) (v := .int .i64 (k : Nat)) (some 16) rfl rfl (by kernel_rfl) (by kernel_rfl) (by kernel_rfl) (fun _ _ _ h => h) (Or.inl ⟨by rfl, fun w' hw => by rfl⟩) (by assumption) ?_
        simp only [Act.put, List.setIfInBounds_toArray, List.set_cons_zero, List.set_cons_succ]
        refine anyH_take (i := 1) (v := .bool true) (some 17) rfl rfl (by kernel_rfl) (by kernel_rfl) (by kernel_rfl) (fun _ _ _ h => h) (Or.inl ⟨by rfl, fun w' hw => by go_simp⟩) (by assumption) ?_
        simp only [Act.put, List.setIfInBounds_toArray, List.set_cons_zero, List.set_cons_succ]
        refine anyH_take (i := 2) (v := .bool true) (some 18) rfl rfl (by kernel_rfl) (by kernel_rfl) (by kernel_rfl) (fun _ _ _ h => h) (Or.inl ⟨by rfl, fun w' hw => by rfl⟩) (by assumption) ?_
        simp only [Act.put, List.setIfInBounds_toArray, List.set_cons_zero, List.set_cons_succ]
        refine anyH_take (i := 3) (v := .slice (some ⟨b, off, none⟩) n c) (some 19) rfl rfl (by kernel_rfl) (by kernel_rfl) (by kernel_rfl) (fun _ _ _ h => h) (Or.inl ⟨by rfl, fun w' hw => by rfl⟩) (by assumption) ?_
        simp only [Act.put, List.setIfInBounds_toArray, List.set_cons_zero, List.set_cons_succ]
        refine anyH_take (i := 4) (v := .int .i64 (k : Nat)) (some 20) rfl rfl (by kernel_rfl) (by kernel_rfl) (by kernel_rfl) (fun _ _ _ h => h) (Or.inl ⟨by rfl, fun w' hw => by rfl⟩) (by assumption) ?_
        simp only [Act.put, List.setIfInBounds_toArray, List.set_cons_zero, List.set_cons_succ]
        refine anyH_take (i := 5) (v := .int .i64 (k1 : Nat)) (some 21) rfl rfl (by kernel_rfl) (by kernel_rfl) (by kernel_rfl) (fun _ _ _ h => h) (Or.inl ⟨by rfl, fun w' hw => by go_simp⟩) (by assumption) ?_
        simp only [Act.put, List.setIfInBounds_toArray, List.set_cons_zero, List.set_cons_succ]
        refine anyH_take (i := 6) (v := .pointer (some ⟨b, off + k1 * 35, none⟩)) (some 22) rfl rfl (by kernel_rfl) (by kernel_rfl) (by kernel_rfl) (fun _ _ _ h => h) (Or.inl ⟨by rfl, fun w' hw => by go_simp⟩) (by assumption) ?_
        simp only [Act.put, List.setIfInBounds_toArray, List.set_cons_zero, List.set_cons_succ]
        refine anyH_take (i := 7) (v := .pointer (some ⟨b, off + k1 * 35, none⟩)) (some 23) rfl rfl (by kernel_rfl) (by kernel_rfl) (by kernel_rfl) (fun _ _ _ h => h) (Or.inl ⟨by rfl, fun w' hw => by go_simp⟩) (by assumption) ?_
        simp only [Act.put, List.setIfInBounds_toArray, List.set_cons_zero, List.set_cons_succ]
        refine anyH_take (i := 8) (v := .agg DY.toArray) (some 24) rfl rfl (by kernel_rfl) (by kernel_rfl) (by kernel_rfl) (fun _ _ _ h => h) (yieldsIf_load_mid (by rfl) 39 (.tmp 23) rfl b (off + k1 * 35) rfl DY _ (fun w' h => h.2.2) Tryd.underlying39 rfl HDi2.out) (by assumption) ?_
        simp only [Act.put, List.setIfInBounds_toArray, List.set_cons_zero, List.set_cons_succ]
        refine anyH_take (i := 9) (v := .slice (some ⟨b, off, none⟩) n c) (some 25) rfl rfl (by kernel_rfl) (by kernel_rfl) (by kernel_rfl) (fun _ _ _ h => h) (Or.inl ⟨by rfl, fun w' hw => by rfl⟩) (by assumption) ?_
        simp only [Act.put, List.setIfInBounds_toArray, List.set_cons_zero, List.set_cons_succ]
        refine anyH_take (i := 10) (v := .int .i64 (k : Nat)) (some 26) rfl rfl (by kernel_rfl) (by kernel_rfl) (by kernel_rfl) (fun _ _ _ h => h) (Or.inl ⟨by rfl, fun w' hw => by rfl⟩) (by assumption) ?_
        simp only [Act.put, List.setIfInBounds_toArray, List.set_cons_zero, List.set_cons_succ]
        refine anyH_take (i := 11) (v := .pointer (some ⟨b, off + k * 35, none⟩)) (some 27) rfl rfl (by kernel_rfl) (by kernel_rfl) (by kernel_rfl) (fun _ _ _ h => h) (Or.inl ⟨by rfl, fun w' hw => by go_simp⟩) (by assumption) ?_
        simp only [Act.put, List.setIfInBounds_toArray, List.set_cons_zero, List.set_cons_succ]
        refine anyH_take (i := 12) (v := .pointer (some ⟨b, off + k * 35, none⟩)) (some 28) rfl rfl (by kernel_rfl) (by kernel_rfl) (by kernel_rfl) (fun _ _ _ h => h) (Or.inl ⟨by rfl, fun w' hw => by go_simp⟩) (by assumption) ?_
        simp only [Act.put, List.setIfInBounds_toArray, List.set_cons_zero, List.set_cons_succ]
        refine anyH_take (i := 13) (v := .agg DX.toArray) (some 29) rfl rfl (by kernel_rfl) (by kernel_rfl) (by kernel_rfl) (fun _ _ _ h => h) (yieldsIf_load_mid (by rfl) 39 (.tmp 28) rfl b (off + k * 35) rfl DX _ (fun w' h => h.1) Tryd.underlying39 rfl HDi.out) (by assumption) ?_
        simp only [Act.put, List.setIfInBounds_toArray, List.set_cons_zero, List.set_cons_succ]
        refine wpAnyH_ready (rs := [14]) (by kernel_rfl) (by simp) ?_
        refine AllReadyH.cons rfl (fun K hK => ?_) AllReadyH.nil
        go_simp
        go_at_call 36
        refine Calls.mono Hls.out ?_
        rintro e w2 ⟨rfl, hb2⟩
        have hb12 : Below w1.heap.size w1 w2 := (Below.refl w1.heap.size w1).drew.trans hb2
        have Hb2 := Lib.hid (show Below w.heap.size w w2 from Hb1.out.trans (hb12.mono Hb1.out.size))
        have hp0s : wr.heap.size < w1.heap.size := by
          rcases Nat.lt_or_ge wr.heap.size w1.heap.size with h | h
          · exact h
          · simp [World.cell?, Array.getElem?_eq_none h] at p0
        have p02 := (hb12.cell (p := ⟨wr.heap.size, 0, none⟩) hp0s).trans p0
        have p12 := (hb12.cell (p := ⟨wr.heap.size, 1, none⟩) hp0s).trans p1
        go_wp2_with fail
        refine hK.out _ _ ⟨fun j v hj => (hb12.cell (p := ⟨b, _, none⟩) hbs).trans (pd1 j v hj), (hb12.cell (p := ⟨b, _, none⟩) hbs).trans pu1, fun j v hj => (hb12.cell (p := ⟨b, _, none⟩) hbs).trans (pdy j v hj)⟩ (fun hHeldx => ?_)
        clear hK K p0 p1 pd1 pu1 pdy hb2 hb12
        try simp only [Act.put, List.setIfInBounds_toArray, List.set_cons_zero, List.set_cons_succ]
        cases r with
        | false =>
          refine anyH_take (i := 15) (v := .bool true) (some 31) rfl rfl (by kernel_rfl) (by kernel_rfl) (by kernel_rfl) (fun _ _ _ h => h) (Or.inl ⟨by rfl, fun w' hw => by go_simp⟩) (by assumption) ?_
          simp only [Act.put, List.setIfInBounds_toArray, List.set_cons_zero, List.set_cons_succ]
          refine anyH_take (i := 16) (v := .bool true) (some 32) rfl rfl (by kernel_rfl) (by kernel_rfl) (by kernel_rfl) (fun _ _ _ h => h) (Or.inl ⟨by rfl, fun w' hw => by go_simp⟩) (by assumption) ?_
          simp only [Act.put, List.setIfInBounds_toArray, List.set_cons_zero, List.set_cons_succ]
          refine anyH_take (i := 17) (v := .bool true) (some 33) rfl rfl (by kernel_rfl) (by kernel_rfl) (by kernel_rfl) (fun _ _ _ h => h) (Or.inl ⟨by rfl, fun w' hw => by rfl⟩) (by assumption) ?_
          simp only [Act.put, List.setIfInBounds_toArray, List.set_cons_zero, List.set_cons_succ]
          refine anyH_take (i := 18) (v := undef) (some 34) rfl rfl (by kernel_rfl) (by kernel_rfl) (by kernel_rfl) (fun _ _ _ h => h) (Or.inr ⟨by rfl, rfl⟩) (by assumption) ?_
          simp only [Act.put, List.setIfInBounds_toArray, List.set_cons_zero, List.set_cons_succ]
          refine anyH_take (i := 19) (v := undef) (some 35) rfl rfl (by kernel_rfl) (by kernel_rfl) (by kernel_rfl) (fun _ _ _ h => h) (Or.inr ⟨by rfl, rfl⟩) (by assumption) ?_
          simp only [Act.put, List.setIfInBounds_toArray, List.set_cons_zero, List.set_cons_succ]
          refine anyH_take (i := 20) (v := undef) (some 36) rfl rfl (by kernel_rfl) (by kernel_rfl) (by kernel_rfl) (fun _ _ _ h => h) (Or.inr ⟨by rfl, rfl⟩) (by assumption) ?_
          simp only [Act.put, List.setIfInBounds_toArray, List.set_cons_zero, List.set_cons_succ]
          refine anyH_take (i := 21) (v := undef) (some 37) rfl rfl (by kernel_rfl) (by kernel_rfl) (by kernel_rfl) (fun _ _ _ h => h) (Or.inr ⟨by rfl, rfl⟩) (by assumption) ?_
          simp only [Act.put, List.setIfInBounds_toArray, List.set_cons_zero, List.set_cons_succ]
          refine anyH_take (i := 22) (v := undef) (some 38) rfl rfl (by kernel_rfl) (by kernel_rfl) (by kernel_rfl) (fun _ _ _ h => h) (Or.inr ⟨by rfl, rfl⟩) (by assumption) ?_
          simp only [Act.put, List.setIfInBounds_toArray, List.set_cons_zero, List.set_cons_succ]
          refine anyH_take (i := 23) (v := undef) (some 39) rfl rfl (by kernel_rfl) (by kernel_rfl) (by kernel_rfl) (fun _ _ _ h => h) (Or.inr ⟨by rfl, rfl⟩) (by assumption) ?_
          simp only [Act.put, List.setIfInBounds_toArray, List.set_cons_zero, List.set_cons_succ]
          refine anyH_take (i := 24) (v := .bool true) (some 40) rfl rfl (by kernel_rfl) (by kernel_rfl) (by kernel_rfl) (fun _ _ _ h => h) (Or.inl ⟨by rfl, fun w' hw => by go_simp⟩) (by assumption) ?_
          simp only [Act.put, List.setIfInBounds_toArray, List.set_cons_zero, List.set_cons_succ]
          refine anyH_take (i := 25) (v := .bool true) (some 41) rfl rfl (by kernel_rfl) (by kernel_rfl) (by kernel_rfl) (fun _ _ _ h => h) (Or.inl ⟨by rfl, fun w' hw => by rfl⟩) (by assumption) ?_
          simp only [Act.put, List.setIfInBounds_toArray, List.set_cons_zero, List.set_cons_succ]
          refine anyH_take (i := 26) (v := undef) (some 42) rfl rfl (by kernel_rfl) (by kernel_rfl) (by kernel_rfl) (fun _ _ _ h => h) (Or.inr ⟨by rfl, rfl⟩) (by assumption) ?_
          simp only [Act.put, List.setIfInBounds_toArray, List.set_cons_zero, List.set_cons_succ]
          refine anyH_take (i := 27) (v := undef) (some 43) rfl rfl (by kernel_rfl) (by kernel_rfl) (by kernel_rfl) (fun _ _ _ h => h) (Or.inr ⟨by rfl, rfl⟩) (by assumption) ?_
          simp only [Act.put, List.setIfInBounds_toArray, List.set_cons_zero, List.set_cons_succ]
          refine anyH_take (i := 28) (v := undef) (some 44) rfl rfl (by kernel_rfl) (by kernel_rfl) (by kernel_rfl) (fun _ _ _ h => h) (Or.inr ⟨by rfl, rfl⟩) (by assumption) ?_
          simp only [Act.put, List.setIfInBounds_toArray, List.set_cons_zero, List.set_cons_succ]
          refine anyH_take (i := 29) (v := undef) (some 45) rfl rfl (by kernel_rfl) (by kernel_rfl) (by kernel_rfl) (fun _ _ _ h => h) (Or.inr ⟨by rfl, rfl⟩) (by assumption) ?_
          simp only [Act.put, List.setIfInBounds_toArray, List.set_cons_zero, List.set_cons_succ]
          refine anyH_take (i := 30) (v := undef) (some 46) rfl rfl (by kernel_rfl) (by kernel_rfl) (by kernel_rfl) (fun _ _ _ h => h) (Or.inr ⟨by rfl, rfl⟩) (by assumption) ?_
          simp only [Act.put, List.setIfInBounds_toArray, List.set_cons_zero, List.set_cons_succ]
          refine anyH_take (i := 31) (v := undef) (some 47) rfl rfl (by kernel_rfl) (by kernel_rfl) (by kernel_rfl) (fun _ _ _ h => h) (Or.inr ⟨by rfl, rfl⟩) (by assumption) ?_
          simp only [Act.put, List.setIfInBounds_toArray, List.set_cons_zero, List.set_cons_succ]
          refine anyH_take (i := 32) (v := .bool true) (some 48) rfl rfl (by kernel_rfl) (by kernel_rfl) (by kernel_rfl) (fun _ _ _ h => h) (Or.inl ⟨by rfl, fun w' hw => by go_simp⟩) (by assumption) ?_
          simp only [Act.put, List.setIfInBounds_toArray, List.set_cons_zero, List.set_cons_succ]
          refine wpAnyH_done (by kernel_rfl) ?_ _
          go_wp2_with fail
          go_ret
          refine ⟨⟨false, rfl, fun h => (by cases h), fun hp => ?_⟩, Hb2.out⟩
          exfalso
          obtain ⟨q1, q2⟩ := hp k (by omega) x Hx.out.1
          have q3 := q1 y h1k (by rw [show k - 1 = k1 by have := Hk1.out; omega]; exact Hy.out.1)
          rw [Hr.out] at q3
          cases q3
        | true =>
          have Hprv := Lib.hid (show ∀ y', 0 < k → xs[k - 1]? = some y' → ltD y'.d x.d = true from fun y' _ hy' => by
            rw [show k - 1 = k1 by have := Hk1.out; omega, Hy.out.1] at hy'
            injection hy' with hy'
            rw [← hy']
            exact Hr.out)
          refine anyH_take (i := 15) (v := .bool false) (some 31) rfl rfl (by kernel_rfl) (by kernel_rfl) (by kernel_rfl) (fun _ _ _ h => h) (Or.inl ⟨by rfl, fun w' hw => by go_simp⟩) (by assumption) ?_
          simp only [Act.put, List.setIfInBounds_toArray, List.set_cons_zero, List.set_cons_succ]
          refine anyH_take (i := 16) (v := .bool false) (some 32) rfl rfl (by kernel_rfl) (by kernel_rfl) (by kernel_rfl) (fun _ _ _ h => h) (Or.inl ⟨by rfl, fun w' hw => by go_simp⟩) (by assumption) ?_
          simp only [Act.put, List.setIfInBounds_toArray, List.set_cons_zero, List.set_cons_succ]
          refine anyH_take (i := 17) (v := .bool false) (some 33) rfl rfl (by kernel_rfl) (by kernel_rfl) (by kernel_rfl) (fun _ _ _ h => h) (Or.inl ⟨by rfl, fun w' hw => by rfl⟩) (by assumption) ?_
          simp only [Act.put, List.setIfInBounds_toArray, List.set_cons_zero, List.set_cons_succ]
          refine anyH_take (i := 18) (v := .slice (some ⟨b, off, none⟩) n c) (some 34) rfl rfl (by kernel_rfl) (by kernel_rfl) (by kernel_rfl) (fun _ _ _ h => h) (Or.inl ⟨by rfl, fun w' hw => by rfl⟩) (by assumption) ?_
          simp only [Act.put, List.setIfInBounds_toArray, List.set_cons_zero, List.set_cons_succ]
          refine anyH_take (i := 19) (v := .int .i64 (k : Nat)) (some 35) rfl rfl (by kernel_rfl) (by kernel_rfl) (by kernel_rfl) (fun _ _ _ h => h) (Or.inl ⟨by rfl, fun w' hw => by rfl⟩) (by assumption) ?_
          simp only [Act.put, List.setIfInBounds_toArray, List.set_cons_zero, List.set_cons_succ]
          refine anyH_take (i := 20) (v := .pointer (some ⟨b, off + k * 35, none⟩)) (some 36) rfl rfl (by kernel_rfl) (by kernel_rfl) (by kernel_rfl) (fun _ _ _ h => h) (Or.inl ⟨by rfl, fun w' hw => by go_simp⟩) (by assumption) ?_
          simp only [Act.put, List.setIfInBounds_toArray, List.set_cons_zero, List.set_cons_succ]
          refine anyH_take (i := 21) (v := .pointer (some ⟨b, off + k * 35 + 34, none⟩)) (some 37) rfl rfl (by kernel_rfl) (by kernel_rfl) (by kernel_rfl) (fun _ _ _ h => h) (Or.inl ⟨by rfl, fun w' hw => by go_simp⟩) (by assumption) ?_
          simp only [Act.put, List.setIfInBounds_toArray, List.set_cons_zero, List.set_cons_succ]
          refine anyH_take (i := 22) (v := .int .i64 (xu : Nat)) (some 38) rfl rfl (by kernel_rfl) (by kernel_rfl) (by kernel_rfl) (fun _ _ _ h => h) (Or.inl ⟨by rfl, fun w' hw => by (have hc := hw.2.1; go_simp)⟩) (by assumption) ?_
          simp only [Act.put, List.setIfInBounds_toArray, List.set_cons_zero, List.set_cons_succ]
          by_cases hu : xu < 1
          case pos =>
            have u1 : decide ((xu : Int) < 1) = true := decide_eq_true (by omega)
            refine anyH_take (i := 23) (v := .bool true) (some 39) rfl rfl (by kernel_rfl) (by kernel_rfl) (by kernel_rfl) (fun _ _ _ h => h) (Or.inl ⟨by rfl, fun w' hw => by go_simp⟩) (by assumption) ?_
            simp only [Act.put, List.setIfInBounds_toArray, List.set_cons_zero, List.set_cons_succ]
            refine anyH_take (i := 24) (v := .bool true) (some 40) rfl rfl (by kernel_rfl) (by kernel_rfl) (by kernel_rfl) (fun _ _ _ h => h) (Or.inl ⟨by rfl, fun w' hw => by go_simp⟩) (by assumption) ?_
            simp only [Act.put, List.setIfInBounds_toArray, List.set_cons_zero, List.set_cons_succ]
            refine anyH_take (i := 25) (v := .bool true) (some 41) rfl rfl (by kernel_rfl) (by kernel_rfl) (by kernel_rfl) (fun _ _ _ h => h) (Or.inl ⟨by rfl, fun w' hw => by rfl⟩) (by assumption) ?_
            simp only [Act.put, List.setIfInBounds_toArray, List.set_cons_zero, List.set_cons_succ]
            refine anyH_take (i := 26) (v := undef) (some 42) rfl rfl (by kernel_rfl) (by kernel_rfl) (by kernel_rfl) (fun _ _ _ h => h) (Or.inr ⟨by rfl, rfl⟩) (by assumption) ?_
            simp only [Act.put, List.setIfInBounds_toArray, List.set_cons_zero, List.set_cons_succ]
            refine anyH_take (i := 27) (v := undef) (some 43) rfl rfl (by kernel_rfl) (by kernel_rfl) (by kernel_rfl) (fun _ _ _ h => h) (Or.inr ⟨by rfl, rfl⟩) (by assumption) ?_
            simp only [Act.put, List.setIfInBounds_toArray, List.set_cons_zero, List.set_cons_succ]
            refine anyH_take (i := 28) (v := undef) (some 44) rfl rfl (by kernel_rfl) (by kernel_rfl) (by kernel_rfl) (fun _ _ _ h => h) (Or.inr ⟨by rfl, rfl⟩) (by assumption) ?_
            simp only [Act.put, List.setIfInBounds_toArray, List.set_cons_zero, List.set_cons_succ]
            refine anyH_take (i := 29) (v := undef) (some 45) rfl rfl (by kernel_rfl) (by kernel_rfl) (by kernel_rfl) (fun _ _ _ h => h) (Or.inr ⟨by rfl, rfl⟩) (by assumption) ?_
            simp only [Act.put, List.setIfInBounds_toArray, List.set_cons_zero, List.set_cons_succ]
            refine anyH_take (i := 30) (v := undef) (some 46) rfl rfl (by kernel_rfl) (by kernel_rfl) (by kernel_rfl) (fun _ _ _ h => h) (Or.inr ⟨by rfl, rfl⟩) (by assumption) ?_
            simp only [Act.put, List.setIfInBounds_toArray, List.set_cons_zero, List.set_cons_succ]
            refine anyH_take (i := 31) (v := undef) (some 47) rfl rfl (by kernel_rfl) (by kernel_rfl) (by kernel_rfl) (fun _ _ _ h => h) (Or.inr ⟨by rfl, rfl⟩) (by assumption) ?_
            simp only [Act.put, List.setIfInBounds_toArray, List.set_cons_zero, List.set_cons_succ]
            refine anyH_take (i := 32) (v := .bool true) (some 48) rfl rfl (by kernel_rfl) (by kernel_rfl) (by kernel_rfl) (fun _ _ _ h => h) (Or.inl ⟨by rfl, fun w' hw => by go_simp⟩) (by assumption) ?_
            simp only [Act.put, List.setIfInBounds_toArray, List.set_cons_zero, List.set_cons_succ]
            refine wpAnyH_done (by kernel_rfl) ?_ _
            go_wp2_with fail
            go_ret
            refine ⟨⟨false, rfl, fun h => (by cases h), fun hp => ?_⟩, Hb2.out⟩
            exfalso
            obtain ⟨q1, q2⟩ := hp k (by omega) x Hx.out.1
            have := q2.1
            have := Hx.out.2.2.2.1
            omega
          case neg =>
            have u1 : decide ((xu : Int) < 1) = false := decide_eq_false (by omega)
            have u2 : decide ((2147483647 : Int) < (xu : Int)) = false := decide_eq_false (by omega)
            refine anyH_take (i := 23) (v := .bool false) (some 39) rfl rfl (by kernel_rfl) (by kernel_rfl) (by kernel_rfl) (fun _ _ _ h => h) (Or.inl ⟨by rfl, fun w' hw => by go_simp⟩) (by assumption) ?_
            simp only [Act.put, List.setIfInBounds_toArray, List.set_cons_zero, List.set_cons_succ]
            refine anyH_take (i := 24) (v := .bool false) (some 40) rfl rfl (by kernel_rfl) (by kernel_rfl) (by kernel_rfl) (fun _ _ _ h => h) (Or.inl ⟨by rfl, fun w' hw => by go_simp⟩) (by assumption) ?_
            simp only [Act.put, List.setIfInBounds_toArray, List.set_cons_zero, List.set_cons_succ]
            refine anyH_take (i := 25) (v := .bool false) (some 41) rfl rfl (by kernel_rfl) (by kernel_rfl) (by kernel_rfl) (fun _ _ _ h => h) (Or.inl ⟨by rfl, fun w' hw => by rfl⟩) (by assumption) ?_
            simp only [Act.put, List.setIfInBounds_toArray, List.set_cons_zero, List.set_cons_succ]
            refine anyH_take (i := 26) (v := .slice (some ⟨b, off, none⟩) n c) (some 42) rfl rfl (by kernel_rfl) (by kernel_rfl) (by kernel_rfl) (fun _ _ _ h => h) (Or.inl ⟨by rfl, fun w' hw => by rfl⟩) (by assumption) ?_
            simp only [Act.put, List.setIfInBounds_toArray, List.set_cons_zero, List.set_cons_succ]
            refine anyH_take (i := 27) (v := .int .i64 (k : Nat)) (some 43) rfl rfl (by kernel_rfl) (by kernel_rfl) (by kernel_rfl) (fun _ _ _ h => h) (Or.inl ⟨by rfl, fun w' hw => by rfl⟩) (by assumption) ?_
            simp only [Act.put, List.setIfInBounds_toArray, List.set_cons_zero, List.set_cons_succ]
            refine anyH_take (i := 28) (v := .pointer (some ⟨b, off + k * 35, none⟩)) (some 44) rfl rfl (by kernel_rfl) (by kernel_rfl) (by kernel_rfl) (fun _ _ _ h => h) (Or.inl ⟨by rfl, fun w' hw => by go_simp⟩) (by assumption) ?_
            simp only [Act.put, List.setIfInBounds_toArray, List.set_cons_zero, List.set_cons_succ]
            refine anyH_take (i := 29) (v := .pointer (some ⟨b, off + k * 35 + 34, none⟩)) (some 45) rfl rfl (by kernel_rfl) (by kernel_rfl) (by kernel_rfl) (fun _ _ _ h => h) (Or.inl ⟨by rfl, fun w' hw => by go_simp⟩) (by assumption) ?_
            simp only [Act.put, List.setIfInBounds_toArray, List.set_cons_zero, List.set_cons_succ]
            refine anyH_take (i := 30) (v := .int .i64 (xu : Nat)) (some 46) rfl rfl (by kernel_rfl) (by kernel_rfl) (by kernel_rfl) (fun _ _ _ h => h) (Or.inl ⟨by rfl, fun w' hw => by (have hc := hw.2.1; go_simp)⟩) (by assumption) ?_
            simp only [Act.put, List.setIfInBounds_toArray, List.set_cons_zero, List.set_cons_succ]
            refine anyH_take (i := 31) (v := .bool false) (some 47) rfl rfl (by kernel_rfl) (by kernel_rfl) (by kernel_rfl) (fun _ _ _ h => h) (Or.inl ⟨by rfl, fun w' hw => by go_simp⟩) (by assumption) ?_
            simp only [Act.put, List.setIfInBounds_toArray, List.set_cons_zero, List.set_cons_succ]
            refine anyH_take (i := 32) (v := .bool false) (some 48) rfl rfl (by kernel_rfl) (by kernel_rfl) (by kernel_rfl) (fun _ _ _ h => h) (Or.inl ⟨by rfl, fun w' hw => by go_simp⟩) (by assumption) ?_
            simp only [Act.put, List.setIfInBounds_toArray, List.set_cons_zero, List.set_cons_succ]
            refine wpAnyH_done (by kernel_rfl) ?_ _
            obtain ⟨wq, hwq⟩ : ∃ z, z = w2 := ⟨_, rfl⟩
            have c0 : wq.cell? ⟨wr.heap.size, 0, none⟩ = some (.int .i64 ((xb : Int) - 1)) := by rw [hwq]; exact  p02
            have c1 : wq.cell? ⟨wr.heap.size, 1, none⟩ = some (.int .i64 (sl : Nat)) := by rw [hwq]; exact  p12
            have Hbq := Lib.hid (show Below w.heap.size w wq by rw [hwq]; exact Hb2.out)
            rw [← hwq]
            clear hwq p02 p12
            have m1 : decide ((xb : Int) - 1 < -1) = false := decide_eq_false (by omega)
            have m2 : decide ((2147483647 : Int) < (xb : Int) - 1) = false := decide_eq_false (by omega)
            have m3 : decide ((sl : Int) < 0) = false := decide_eq_false (by omega)
            have m4 : decide ((65535 : Int) < (sl : Int)) = false := decide_eq_false (by omega)
            by_cases hbb : xb = 0 ∧ 0 < sl
            case pos =>
              have m5 : decide ((xb : Int) - 1 < 0) = true := decide_eq_true (by omega)
              have m6 : decide ((0 : Int) < (sl : Int)) = true := decide_eq_true (by omega)
              go_wp2_with fail
              go_ret
              refine ⟨⟨false, rfl, fun h => (by cases h), fun hp => ?_⟩, Hbq.out⟩
              exfalso
              obtain ⟨q1, q2⟩ := hp k (by omega) x Hx.out.1
              have := q2.2
              have := Hx.out.2.1
              have := Hx.out.2.2.1
              omega
            case neg =>
              have hkk : okAt xs k := fun x' hx' => by
                obtain rfl : x' = x := by have := hx'.symm.trans Hx.out.1; injection this
                exact ⟨fun y h0 hy => Hprv.out y h0 hy, by have := Hx.out.2.2.2.1; omega, by have := Hx.out.2.1; have := Hx.out.2.2.1; omega⟩
              have Hkk := Lib.hid hkk
              clear hkk
              by_cases hb0 : xb = 0
              case pos =>
                have m5 : decide ((xb : Int) - 1 < 0) = true := decide_eq_true (by omega)
                have m6 : decide ((0 : Int) < (sl : Int)) = false := decide_eq_false (by omega)
                go_wp2_with fail
                go_roundw
                case rel => exact ⟨k + 1, by omega, by go_num, (fun j hj => by
                  rcases Nat.lt_or_ge j k with h | h
                  · exact Hall.out j h
                  · obtain rfl : j = k := by omega
                    exact Hkk.out), Hbq.out⟩
                case measure => simp [intOf]; omega
              case neg =>
                have m5 : decide ((xb : Int) - 1 < 0) = false := decide_eq_false (by omega)
                go_wp2_with fail
                go_roundw
                case rel => exact ⟨k + 1, by omega, by go_num, (fun j hj => by
                  rcases Nat.lt_or_ge j k with h | h
                  · exact Hall.out j h
                  · obtain rfl : j = k := by omega
                    exact Hkk.out), Hbq.out⟩
                case measure => simp [intOf]; omega
    · have hd : decide ((k : Int) < (n : Int)) = false := decide_eq_false (by omega)
      have hkn : k = xs.length := by have := Hn.out; omega
      have Hall := Lib.hid (show rightP xs from fun i hi => hall i (by omega))
      have Hbw := Lib.hid hbw
      clear hall hbw
      go_wp2_with fail
      go_ret
      exact ⟨⟨true, rfl, fun _ => Hall.out, fun _ => rfl⟩, Hbw.out⟩

end Go.Proofs.YtfelacpaaialfaaDoor

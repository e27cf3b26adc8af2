/-
  The document's own Read.
-/
import Derived.Test.YtongmiebojilfaaBlobRef
import Derived.Test.YtongmiebojilfaaSecsArg
namespace Go.Proofs.Ytongmiebojilfaa
open Go.RowKit
set_option linter.unusedVariables false
set_option linter.unusedSimpArgs false

theorem SecsAt.below {w w' : World} {A : Option Addr} {S : List (List UInt8)} (h : SecsAt w A S) (hb : Below w.heap.size w w') : SecsAt w' A S := fun hp => by
  obtain ⟨b, off, e, hlt, hc⟩ := h hp
  exact ⟨b, off, e, Nat.lt_of_lt_of_le hlt hb.size, fun i hi => ⟨(hc i hi).1, fun j v hj => (hb.cell (p := ⟨b, _, none⟩) hlt).trans ((hc i hi).2 j v hj)⟩⟩
theorem SecsAt.belowN {w w' : World} {B : Nat} {A : Option Addr} {S : List (List UInt8)} (h : SecsAt w A S) (hb : Below B w w') (hB : w.heap.size ≤ B) : SecsAt w' A S := fun hp => by
  obtain ⟨b, off, e, hlt, hc⟩ := h hp
  exact ⟨b, off, e, Nat.lt_of_lt_of_le hlt hb.size, fun i hi => ⟨(hc i hi).1, fun j v hj => (hb.cell (p := ⟨b, _, none⟩) (show b < B by omega)).trans ((hc i hi).2 j v hj)⟩⟩
theorem SecsAt.s64 {w : World} {A : Option Addr} {S : List (List UInt8)} (h : SecsAt w A S) : ∀ s ∈ S, s.length = 64 := fun s hs => by
  obtain ⟨i, hi, rfl⟩ := List.getElem_of_mem hs
  obtain ⟨b, off, e, hlt, hc⟩ := h (by omega)
  have := (hc i hi).1
  simpa [List.getD, hi] using this

set_option maxHeartbeats 8000000 in
set_option maxRecDepth 100000 in
theorem rread_bad (A : Option Addr) (nd c : Nat) (d : List UInt8) (a n : Int) (DL : List Value) (w : World) (hn : nd ≤ 65536) (hd : d.length = 32)
    (ha : a ≤ 9223372036854775807) (hf : n < 0 ∨ 65536 < n ∨ ∃ m : Nat, n = (m : Int) ∧ m ≤ 65536 ∧ (a < 0 ∨ (nd : Int) < a + secsF m)) (hDL : DL = refC d a n) :
    Calls Try.prog 19 #[.slice A nd c, .agg DL.toArray] w fun e w' => e = .returned (.tuple #[.slice none 0 0, .int .i64 7]) ∧ Below w.heap.size w w' := by
  obtain ⟨W1, hW1⟩ : ∃ x, x = w.alloc (.cells DL.toArray 36) := ⟨_, rfl⟩
  have hR1 : Arr W1 w.heap.size 36 DL := by rw [hW1]; exact Arr.new w _ _
  have hb1 : Below w.heap.size w W1 := by rw [hW1]; exact (Below.refl _ w).alloc (Nat.le_refl _) _
  have h32 : W1.cell? ⟨w.heap.size, 32, none⟩ = some (.int .i64 a) := by rw [hR1.cell, hDL]; exact (refC_at hd a n).1
  have h33 : W1.cell? ⟨w.heap.size, 33, none⟩ = some (.int .i64 n) := by rw [hR1.cell, hDL]; exact (refC_at hd a n).2
  have HW1 := Lib.hid hW1
  clear hW1 hDL hR1
  rcases hf with hf | hf | ⟨m, rfl, hm, hf⟩
  · have hd1 : decide (n < (0 : Int)) = true := by simp; exact hf
    go_enter Try.func19, Try.ntmps19
    go_upto_region 1 with fail
    change Code.wp _ _ _ _ (w.alloc (.cells DL.toArray 36))
    rw [← HW1.out]
    clear HW1
    go_wp2_with fail
    go_quiet (fail)
    go_wp2_with fail
    exact bodyPost_ret (results_tmp2 (t := 4) (u := 5) (by rfl) _ _ _) rfl ⟨rfl, Below.dN hb1 _⟩
  · have hd1 : decide (n < (0 : Int)) = false := by simp; omega
    have hd2 : decide ((65536 : Int) < n) = true := by simp; exact hf
    go_enter Try.func19, Try.ntmps19
    go_upto_region 1 with fail
    change Code.wp _ _ _ _ (w.alloc (.cells DL.toArray 36))
    rw [← HW1.out]
    clear HW1
    go_wp2_with fail
    go_quiet (fail)
    go_wp2_with fail
    exact bodyPost_ret (results_tmp2 (t := 4) (u := 5) (by rfl) _ _ _) rfl ⟨rfl, Below.dN hb1 _⟩
  · have hd1 : decide ((m : Int) < (0 : Int)) = false := by simp
    have hd2 : decide ((65536 : Int) < (m : Int)) = false := by simp; omega
    by_cases h0 : a < 0
    · have hd3 : decide (a < (0 : Int)) = true := by simp; exact h0
      go_enter Try.func19, Try.ntmps19
      go_upto_region 1 with fail
      change Code.wp _ _ _ _ (w.alloc (.cells DL.toArray 36))
      rw [← HW1.out]
      clear HW1
      go_wp2_with fail
      go_quiet (fail)
      go_wp2_with fail
      exact bodyPost_ret (results_tmp2 (t := 4) (u := 5) (by rfl) _ _ _) rfl ⟨rfl, Below.dN hb1 _⟩
    · have hd3 : decide (a < (0 : Int)) = false := by simp; omega
      by_cases hge : (nd : Int) ≤ a
      · have hd4 : decide ((nd : Int) ≤ a) = true := by simp; exact hge
        go_enter Try.func19, Try.ntmps19
        go_upto_region 1 with fail
        change Code.wp _ _ _ _ (w.alloc (.cells DL.toArray 36))
        rw [← HW1.out]
        clear HW1
        go_wp2_with fail
        go_quiet (fail)
        go_wp2_with fail
        exact bodyPost_ret (results_tmp2 (t := 4) (u := 5) (by rfl) _ _ _) rfl ⟨rfl, Below.dN hb1 _⟩
      · have hd4 : decide ((nd : Int) ≤ a) = false := by simp; omega
        obtain ⟨s, hs⟩ : ∃ s, secsF m = s := ⟨_, rfl⟩
        rw [hs] at hf
        have hd5 : decide ((nd : Int) - a < (s : Int)) = true := by simp; omega
        have hr1 : -9223372036854775808 ≤ (nd : Int) - a := by omega
        have hr2 : (nd : Int) - a ≤ 9223372036854775807 := by omega
        have Hs := Lib.hid hs
        have hsr : ∀ w, Calls Try.prog 20 #[.int .i64 (m : Nat)] w fun e w' => e = .returned (.int .i64 (s : Nat)) ∧ w' = w := fun w => by
          rw [← Hs.out]; exact rsectors_any m (by omega) w
        clear hf hs
        go_enter Try.func19, Try.ntmps19
        go_upto_region 1 with fail
        change Code.wp _ _ _ _ (w.alloc (.cells DL.toArray 36))
        rw [← HW1.out]
        clear HW1
        go_wp2_with fail
        go_quiet ((go_at_call 20; exact Calls.quiet_of_same (hsr _)))
        go_wp2_with fail
        exact bodyPost_ret (results_tmp2 (t := 4) (u := 5) (by rfl) _ _ _) rfl ⟨rfl, Below.dN hb1 _⟩

theorem firstF_get {S : List (List UInt8)} {a s : Nat} (h64 : ∀ x ∈ S, x.length = 64) (h : a + s ≤ S.length) {i : Nat} (hi : i < 64 * s) : (firstF S a s).getD i 0 = (S.getD (a + i / 64) []).getD (i % 64) 0 := by
  induction s with
  | zero => omega
  | succ s ih =>
    have hl := firstF_length (a := a) (i := s) h64 (by omega)
    rw [firstF_succ]
    by_cases hlt : i < 64 * s
    · rw [← ih (by omega) hlt]
      simp only [List.getD]
      rw [List.getElem?_append_left (by omega)]
    · have e1 : i / 64 = s := by omega
      have e2 : i % 64 = i - 64 * s := by omega
      simp only [List.getD]
      rw [List.getElem?_append_right (by omega), hl, e1, e2]

def RReadPost (S : List (List UInt8)) (a m : Nat) (ok : Bool) (w : World) (e : Ending) (w' : World) : Prop :=
  (ok = true → ∃ v, e = .returned (.tuple #[v, .int .i64 0]) ∧ Owns w' w.heap.size 5 v (getF S a m)) ∧ (ok = false → e = .returned (.tuple #[.slice none 0 0, .int .i64 7])) ∧ Below w.heap.size w w'

set_option maxHeartbeats 8000000 in
set_option maxRecDepth 100000 in
theorem rread_got (A : Option Addr) (nd c : Nat) (S : List (List UInt8)) (d : List UInt8) (a m : Nat) (DL : List Value) (ok : Bool) (w : World) (hS : SecsAt w A S) (hSl : S.length = nd) (hn : nd ≤ 65536) (hc : nd ≤ c) (hcm : c ≤ maxLen) (hd : d.length = 32)
    (hm : m ≤ 65536) (hf : a + secsF m ≤ nd) (hDL : DL = refC d a m) (hok : decide (blobDig (getF S a m) = d) = ok) :
    Calls Try.prog 19 #[.slice A nd c, .agg DL.toArray] w (RReadPost S a m ok w) := by
  obtain ⟨i0, hi, hz0, hz1, hz2⟩ := info_parts byteInfo
  obtain ⟨W1, hW1⟩ : ∃ x, x = w.alloc (.cells DL.toArray 36) := ⟨_, rfl⟩
  have hR1 : Arr W1 w.heap.size 36 DL := by rw [hW1]; exact Arr.new w _ _
  have hW1s : W1.heap.size = w.heap.size + 1 := by rw [hW1]; simp
  have hb1 : Below w.heap.size w W1 := by rw [hW1]; exact (Below.refl _ w).alloc (Nat.le_refl _) _
  have h32 : W1.cell? ⟨w.heap.size, 32, none⟩ = some (.int .i64 a) := by rw [hR1.cell, hDL]; exact (refC_at hd a m).1
  have h33 : W1.cell? ⟨w.heap.size, 33, none⟩ = some (.int .i64 m) := by rw [hR1.cell, hDL]; exact (refC_at hd a m).2
  have HW1 := Lib.hid hW1
  have hs1 := secsF_pos m
  have hd1 : decide ((m : Int) < (0 : Int)) = false := by simp
  have hd2 : decide ((65536 : Int) < (m : Int)) = false := by simp; omega
  have hd3 : decide ((a : Int) < (0 : Int)) = false := by simp
  have hd4 : decide ((nd : Int) ≤ (a : Int)) = false := by simp; omega
  obtain ⟨s, hs⟩ : ∃ s, secsF m = s := ⟨_, rfl⟩
  rw [hs] at hf hs1
  have hd5 : decide ((nd : Int) - (a : Int) < (s : Int)) = false := by simp; omega
  have hr1 : -9223372036854775808 ≤ (nd : Int) - (a : Int) := by omega
  have hr2 : (nd : Int) - (a : Int) ≤ 9223372036854775807 := by omega
  have hd4n : decide (nd ≤ a) = false := by simp; omega
  have Hs := Lib.hid hs
  have hms : m ≤ 64 * s := by rw [← hs]; exact secsF_last
  have hsr : ∀ w, Calls Try.prog 20 #[.int .i64 (m : Nat)] w fun e w' => e = .returned (.int .i64 (s : Nat)) ∧ w' = w := fun w => by
    rw [← Hs.out]; exact rsectors_any m (by omega) w
  have h64 := hS.s64
  have hBv : w.heap.size < W1.heap.size := by omega
  have hwin : (w.heap.size + 1) ≤ W1.heap.size := by omega
  have hG : ∀ i, i ≤ m → i < m → (firstF S a s).take (i + 1) = (firstF S a s).take i ++ [(S.getD (a + i / 64) []).getD (i % 64) 0] := fun i _ hlt => by
    have hl := firstF_length (a := a) (i := s) h64 (by omega)
    rw [← firstF_get h64 (by omega : a + s ≤ S.length) (by omega : i < 64 * s), List.take_succ_eq_append_getElem (by omega)]
    simp [List.getD, show i < (firstF S a s).length by omega]
  have HG := Lib.hid hG
  have HDL := Lib.hid hDL
  have Hok := Lib.hid hok
  clear hW1 hDL hs hG hok
  go_enter Try.func19, Try.ntmps19
  go_upto_region 1 with fail
  change Code.wp _ _ _ _ (w.alloc (.cells DL.toArray 36))
  rw [← HW1.out]
  clear HW1
  go_wp2_with fail
  go_quiet ((go_at_call 20; exact Calls.quiet_of_same (hsr _)))
  clear hd1 hd2 hd3 hd4 hd5 hr1 hr2 hd4n hsr
  go_wp2_with fail
  change Code.wp _ _ _ _ ((W1.drewN nq).alloc (.cells #[] 5))
  obtain ⟨W3, hW3⟩ : ∃ x, x = (W1.drewN nq).alloc (.cells #[] 5) := ⟨_, rfl⟩
  obtain ⟨B1, hB1⟩ : ∃ B, B = w.heap.size + 1 := ⟨_, rfl⟩
  have hW1B : W1.heap.size = B1 := by omega
  have hown3 : Owns W3 B1 5 (.slice (some ⟨B1, 0, none⟩) 0 0) ((firstF S a s).take 0) := by
    have h := Owns.of_row (w := W3) (B := B1) (T := 5) (g := B1) (c := 0) (l := []) (cur := []) (Nat.le_refl _) (Nat.le_refl _) (by unfold maxLen; omega) (by rw [hW3, ← hW1B]; exact heap_alloc_new (W1.drewN nq) _) rfl rfl
    simpa using h
  have hb3 : Below B1 W1 W3 := by rw [hW3, ← hW1B]; exact (Below.dN (Below.refl _ W1) nq).alloc (Nat.le_refl _) _
  rw [← hW3, ← hB1]
  have hwB : w.heap.size < B1 := by omega
  have hR3 : Arr W3 w.heap.size 36 DL := hR1.below hb3 hwB
  have hbw3 : Below w.heap.size w W3 := hb1.trans (hb3.mono (Nat.le_of_lt hwB))
  have hB3 : B1 ≤ W3.heap.size := by have := hb3.size; omega
  have h33 : W3.cell? ⟨w.heap.size, 33, none⟩ = some (.int .i64 m) := (hb3.cell (p := ⟨w.heap.size, 33, none⟩) hwB).trans h33
  have h32 : W3.cell? ⟨w.heap.size, 32, none⟩ = some (.int .i64 a) := (hb3.cell (p := ⟨w.heap.size, 32, none⟩) hwB).trans h32
  clear hW3 hB1 hR1 hb3 hb1 hW1s hW1B hBv hwin
  go_loopw [6, 7] (fun v x wr => ∃ i : Nat, i ≤ m ∧ x = .int .i64 i ∧ Owns wr B1 5 v ((firstF S a s).take i) ∧ Below B1 W3 wr) (fun _ x _ => m - (intOf x).toNat)
  case atStart => exact ⟨0, by omega, rfl, hown3, Below.refl _ _⟩
  case round =>
    clear hown3
    obtain ⟨i, him, rfl, hown, hbel⟩ := hrel
    have hbz := hbel.size
    have h33r : wr.cell? ⟨w.heap.size, 33, none⟩ = some (.int .i64 m) := (hbel.cell (p := ⟨w.heap.size, 33, none⟩) hwB).trans h33
    have h32r : wr.cell? ⟨w.heap.size, 32, none⟩ = some (.int .i64 a) := (hbel.cell (p := ⟨w.heap.size, 32, none⟩) hwB).trans h32
    by_cases hlt : i < m
    · have hG := HG.out i him hlt
      obtain ⟨p, hp⟩ : ∃ p, i / 64 = p := ⟨_, rfl⟩
      obtain ⟨j, hj⟩ : ∃ j, i % 64 = j := ⟨_, rfl⟩
      obtain ⟨q, hq⟩ : ∃ q, a + p = q := ⟨_, rfl⟩
      have hqn : q < S.length := by omega
      have hj64 : j < 64 := by omega
      obtain ⟨b, off, hAe, hbB, hrow⟩ := (hS.below (hbw3.trans (hbel.mono (Nat.le_of_lt hwB)))) (by omega)
      obtain ⟨h64q, hrg⟩ := hrow q hqn
      rw [hp, hj, hq] at hG
      obtain ⟨X, hX⟩ : ∃ X, S.getD q [] = X := ⟨_, rfl⟩
      rw [hX] at hG h64q hrg
      have hce := hrg j _ (byteCells_get (l := X) (j := j) (by omega))
      obtain ⟨y, hy⟩ : ∃ y, X.getD j 0 = y := ⟨_, rfl⟩
      rw [hy] at hG hce
      obtain ⟨Y, hY⟩ : ∃ Y, (firstF S a s).take i = Y := ⟨_, rfl⟩
      have hYl : Y.length = i := by
        rw [← hY, List.length_take, firstF_length (a := a) (i := s) h64 (by omega)]; omega
      rw [hY] at hG hown
      have hyl : y.toNat < 256 := UInt8.toNat_lt _
      obtain ⟨z, hz⟩ : ∃ z, y.toNat = z := ⟨_, rfl⟩
      rw [hz] at hce hyl
      have hpI : (i : Int) / 64 = (p : Int) := by omega
      have hpT : (i : Int).tdiv 64 = (p : Int) := by rw [Int.tdiv_eq_ediv_of_nonneg (by omega)]; exact hpI
      have hjI : (i : Int) % 64 = (j : Int) := by omega
      have hjT : (i : Int).tmod 64 = (j : Int) := by rw [Int.tmod_eq_emod_of_nonneg (by omega)]; exact hjI
      have hqI : (a : Int) + (p : Int) = (q : Int) := by omega
      have hqB : q ≤ 65536 := by omega
      have hpB : p ≤ 65536 := by omega
      have hd1 : decide ((i : Int) < (m : Int)) = true := by simp; exact hlt
      have hd2 : decide (i < m) = true := by simp; exact hlt
      have hqn2 : q < nd := by omega
      have hqnI : (q : Int) < (nd : Int) := by omega
      have hjb : (j : Int) < 64 := by omega
      have Hz := Lib.hid hz
      have HGi := Lib.hid hG
      have HYl := Lib.hid hYl
      have hce2 : wr.cell? ⟨b, off + q * 64 + j, none⟩ = some (.int .u8 (z : Nat)) := hce
      subst hAe
      clear hp hj hq hX hy hY hz hG hYl hce hrow hrg h64q hqn
      go_wp2_with (at_builtin; refine wpList_append_own_at _ rfl _ _ 22 rfl B1 5 i0 (.int .u8 0) 1 1 Try.underlying22 hi hz0 hz1 hz2 rfl (by decide) _ _ _ rfl (World.ownsRow.alloc hown _) ⟨wr.heap.size, 0, none⟩ 1 1 [Value.int .u8 (z : Nat)] rfl rfl ?c1 ?c2 ?c3 ?c4 ?c5 ?_)
      case c1 =>
        intro j u hj
        match j, hj with
        | 0, hj => simp at hj; subst hj; simp [Addr.add]
      case c2 => intro u hu; simp at hu; subst hu; rfl
      case c3 => rw [HYl.out]; unfold maxLen; omega
      case c4 => rw [HYl.out]; omega
      case c5 => simp; omega
      intro v' w1 hown' hgrow _ hplace
      have hbz1 : Below B1 W3 w1 := (hbel.alloc (by omega) _).grown hgrow (by simp; omega) (fun k hk => (hown.lt k hk).1)
      have hon : Owns w1 B1 5 v' ((firstF S a s).take (i + 1)) := by
        rw [HGi.out, show y = z.toUInt8 from by rw [← Hz.out]; simp]
        exact Owns.snoc hyl (by rw [HYl.out]) rfl hown'
      clear hown hown' hgrow hplace hbel
      go_wp2
      go_roundw
      case rel => exact ⟨i + 1, by omega, by go_num, hon, hbz1⟩
      case measure => simp [intOf]; omega
    · obtain rfl : i = m := by omega
      have hd1 : decide ((i : Int) < (i : Int)) = false := by simp
      have hd2 : decide (i < i) = false := by simp
      have hBw : Below w.heap.size w wr := hbw3.trans (hbel.mono (Nat.le_of_lt hwB))
      obtain ⟨L, hL⟩ : ∃ L, (firstF S a s).take i = L := ⟨_, rfl⟩
      have hLg : getF S a i = L := by rw [← hL]; unfold getF firstF; rw [Hs.out]
      have hLl : L.length = i := by
        rw [← hL, List.length_take, firstF_length (a := a) (i := s) h64 (by omega)]; omega
      rw [hL] at hown
      have Hok2 := Hok.out
      rw [hLg] at Hok2
      obtain ⟨A6, c6, rfl, h61, h62, h63⟩ := hown.slice
      rw [hLl]
      have hRr : Arr wr w.heap.size 36 DL := hR3.below hbel hwB
      obtain ⟨VL, hVL⟩ : ∃ V, V = Lib.byteCells d := ⟨_, rfl⟩
      have hrv : wr.drew.rangeAt w.heap.size 0 VL := fun k v hk => by
        rw [Nat.zero_add]
        show wr.cell? _ = _
        rw [hRr.cell, HDL.out]
        unfold refC
        rw [← hVL, List.getElem?_append_left (List.getElem?_eq_some_iff.1 hk).1]
        exact hk
      have hVl : VL.length = 32 := by rw [hVL, Lib.byteCells_length]; exact hd
      have hi32 : (Try.prog.info? 34).map (·.size) = some VL.length := by rw [hVl]; exact digInfo
      obtain ⟨SL, hSL⟩ : ∃ V, V = Lib.byteCells (blobDig L) := ⟨_, rfl⟩
      have hcmp : ∀ w, (Op.equalIn 10000 34 (.agg SL.toArray) (.agg VL.toArray)).run Try.prog w = .ok ok w := fun w => by
        have h := dig_eqv_at 9998 (blobDig L) d (blobDig_length _) hd w
        rw [← hSL, ← hVL, Hok2] at h
        exact h
      have hgt : Try.prog.eqGuardType Try.prog.depth 34 = false := by kernel_rfl
      have HSL := Lib.hid hSL
      have HLl := Lib.hid hLl
      have Hown := Lib.hid hown
      have HLg := Lib.hid hLg
      have h61' : i ≤ c6 := by omega
      clear hSL hVL hL hLl Hok Hok2 hown hLg HG
      go_wp2_with fail
      refine wp_region_held_drew (S := fun w' => w'.rangeAt w.heap.size 0 VL) (by kernel_rfl) hrv (fun hHeld => ?_)
      refine anyH_take (i := 0) (v := .slice A6 i c6) (some 60) rfl rfl (by kernel_rfl) (by kernel_rfl) (by kernel_rfl) (fun _ _ _ h => h) (Or.inl ⟨by rfl, fun _ _ => by rfl⟩) (by assumption) ?_
      simp only [Act.put, List.setIfInBounds_toArray, List.set_cons_zero, List.set_cons_succ]
      refine anyH_take (i := 3) (v := .pointer (some ⟨w.heap.size, 0, none⟩)) (some 63) rfl rfl (by kernel_rfl) (by kernel_rfl) (by kernel_rfl) (fun _ _ _ h => h) (Or.inl ⟨by rfl, fun _ _ => by go_simp⟩) (by assumption) ?_
      simp only [Act.put, List.setIfInBounds_toArray, List.set_cons_zero, List.set_cons_succ]
      refine anyH_take (i := 4) (some 64) rfl rfl (by kernel_rfl) (by kernel_rfl) (by kernel_rfl) (fun _ _ _ h => h) (yieldsIf_load_mid (by rfl) 34 (.tmp 63) rfl w.heap.size 0 rfl VL _ (fun _ h => h) Try.underlying34 rfl hi32) (by assumption) ?_
      simp only [Act.put, List.setIfInBounds_toArray, List.set_cons_zero, List.set_cons_succ]
      refine wpAnyH_ready (rs := [1]) (by kernel_rfl) (by simp) ?_
      refine AllReadyH.cons rfl (fun K hK => ?_) AllReadyH.nil
      go_simp
      have hrow7 : RowsAt (wr.drew.alloc (.cells #[.slice A6 i c6] 22)) (wr.drew.alloc (.cells #[.slice A6 i c6] 22)).heap.size (some ⟨wr.heap.size, 0, none⟩) [L] := (rows_one (w := wr.drew) (B := wr.heap.size) 22 HLl.out h61' h62 (h63.drewN 1) (Nat.le_refl _)).more (Nat.le_of_eq (by simp))
      have hb7 : Below wr.heap.size wr (wr.drew.alloc (.cells #[.slice A6 i c6] 22)) := (Below.dN (Below.refl _ wr) 1).alloc (Nat.le_refl _) _
      obtain ⟨W7, hW7⟩ : ∃ x, x = wr.drew.alloc (.cells #[.slice A6 i c6] 22) := ⟨_, rfl⟩
      change K _ (wr.drew.alloc (.cells #[.slice A6 i c6] 22))
      rw [← hW7] at hrow7 hb7 ⊢
      have hR7 : Arr W7 w.heap.size 36 DL := hRr.below hb7 hRr.lt
      have hrv7 : ∀ {w' : World}, Arr w' w.heap.size 36 DL → w'.rangeAt w.heap.size 0 VL := fun {w'} h k v hk => by
        have h1 := hrv k v hk
        rw [Nat.zero_add] at h1 ⊢
        rw [h.cell, ← hRr.cell]
        exact h1
      clear hW7
      refine hK.out _ _ (hrv7 hR7) (fun hHeld => ?_)
      clear hK K
      try simp only [Act.put, List.setIfInBounds_toArray, List.set_cons_zero, List.set_cons_succ]
      refine wpAnyH_ready (rs := [2]) (by kernel_rfl) (by simp) ?_
      refine AllReadyH.cons rfl (fun K hK => ?_) AllReadyH.nil
      go_simp
      go_at_call 35
      have hlim : (tagF 3 [L]).length ≤ 1000000 := by
        unfold tagF
        have e1 := Lib.uvarint_length64 (x := L.length) (by rw [HLl.out]; omega)
        have e2 := HLl.out
        simp only [List.length_cons, List.flatMap_cons, List.flatMap_nil, List.length_append, List.length_nil]
        omega
      refine Calls.mono (rtagged_atB 3 3 [L] SL (some ⟨wr.heap.size, 0, none⟩) 1 1 W7 rfl HSL.out rfl (by omega) hrow7 hlim) ?_
      rintro e w9 ⟨rfl, hb9⟩
      have hR9 : Arr w9 w.heap.size 36 DL := hR7.below hb9 hR7.lt
      clear hrow7
      dsimp only
      go_wp2_with fail
      refine hK.out _ _ (hrv7 hR9) (fun hHeld => ?_)
      clear hK K
      try simp only [Act.put, List.setIfInBounds_toArray, List.set_cons_zero, List.set_cons_succ]
      refine wpAnyH_ready (rs := [5]) (by kernel_rfl) (by simp) ?_
      refine AllReadyH.cons rfl (fun K hK => ?_) AllReadyH.nil
      go_simp
      refine hK.out _ _ (hrv7 hR9) (fun hHeld => ?_)
      clear hK K
      have hb79 : Below wr.heap.size wr w9 := hb7.trans (hb9.mono hb7.size)
      have hlast : Below w.heap.size w w9 := hBw.trans (hb79.mono hBw.size)
      have hownI : Owns wr B1 5 (.slice A6 i c6) L := by have h := Hown.out; rwa [HLl.out] at h
      have hown9 : Owns w9 w.heap.size 5 (.slice A6 i c6) L := (hownI.below hb79 (fun k hk => (hownI.lt k hk).2)).base (Nat.le_of_lt hwB)
      cases ok
      · refine wpAnyH_done (by kernel_rfl) ?_ _
        go_wp2_with fail
        refine bodyPost_ret (results_tmp2 (t := 4) (u := 5) (by rfl) _ _ _) rfl ⟨(fun h => by cases h), fun _ => rfl, hlast⟩
      · refine wpAnyH_done (by kernel_rfl) ?_ _
        go_wp2_with fail
        refine bodyPost_ret (results_tmp2 (t := 4) (u := 5) (by rfl) _ _ _) rfl ⟨fun _ => ⟨_, rfl, by rw [HLg.out]; exact hown9⟩, (fun h => by cases h), hlast⟩

end Go.Proofs.Ytongmiebojilfaa

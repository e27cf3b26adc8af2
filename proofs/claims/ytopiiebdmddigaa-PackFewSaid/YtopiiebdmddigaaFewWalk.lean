/-
  PackFew answers true, and writes nothing that was there.
-/
import Derived.Test.YtopiiebdmddigaaSpeaks
import Derived.OpenShut
namespace Go.Proofs.Ytopiiebdmddigaa
open Go.RowKit
set_option linter.unusedVariables false

set_option maxHeartbeats 4000000 in
set_option maxRecDepth 100000 in
theorem few_walk (v : Nat) (hv : v < 18446744073709551616) (w : Nat) (hw : w < 18446744073709551616) (W : World) :
    Calls Try.prog 6 #[.int .u64 v, .int .u64 w] W fun e w' => e = .returned (.bool true) ∧ Below W.heap.size W w' := by
  have hmono := uv_mono w v w (Nat.le_refl _)
  have hX1 := Lib.uvarint_pos v
  have hX2 := Lib.uvarint_length64 hv
  have hget := Lib.hid (uv_get v v · (Nat.le_refl _))
  go_enter Try.func6, Try.ntmps6
  go_wp2_with fail
  refine (speaks_true _).mono ?_
  rintro e w1 ⟨rfl, hb1⟩
  go_wp2_with fail
  refine (number_nil v (by omega) (by omega) _).mono ?_
  rintro e w2 ⟨A, c, rfl, hx, hb2⟩
  rw [Int.toNat_natCast] at hx ⊢
  go_wp2_with fail
  refine (number_nil w (by omega) (by omega) _).mono ?_
  rintro e w3 ⟨A', c', rfl, hy, hb3⟩
  rw [Int.toNat_natCast] at hy ⊢
  have hbs := (hx.bs).2.below hb3 (Nat.le_refl _)
  have hbW : Below W.heap.size W w3 := (hb1.trans (hb2.mono hb1.size)).trans (hb3.mono (Nat.le_trans hb1.size hb2.size))
  generalize hXe : Lib.uvarint v = X at *
  generalize hYe : Lib.uvarint w = Y at *
  have HX := Lib.hid hXe
  clear hXe hYe
  have hfin : 2 ≤ X.length → 0 < (v : Int) / 2 ^ (7 * (X.length - 1)) := by
    intro h2
    have hl := uv_low (X.length - 2) v (by rw [HX.out]; omega)
    rw [pow128, show X.length - 2 + 1 = X.length - 1 from by omega] at hl
    have hd := Nat.div_pos hl (Nat.pos_of_ne_zero (by simp))
    exact_mod_cast hd
  have Hfin := Lib.hid hfin
  clear hfin
  have hm : v ≤ w → X.length ≤ Y.length := hmono
  clear hmono
  by_cases hvw : v ≤ w
  · have hm' := hm hvw
    clear hm
    go_wp2
    go_loop [37] (fun i => ∃ k : Nat, i = .int .i64 k ∧ k ≤ X.length) (fun i => X.length - (intOf i).toNat)
    case atStart => exact ⟨0, rfl, by omega⟩
    case round =>
      obtain ⟨k, rfl, hk⟩ := hrel
      by_cases hlt : k < X.length
      · obtain ⟨b, off, x, rfl, hbB, hc, hx, Hxk⟩ := hbs.at_ hlt
        have hiff := hget.out k hlt
        rw [Hxk.out] at hiff
        by_cases h128 : x < 128
        · have hk1 : ((k : Int) == (X.length : Int) - 1) = true := by rw [beq_iff_eq]; have := hiff.1 h128; omega
          have hk2 : decide ((x : Int) < 128) = true := by simp; omega
          clear hiff
          go_wp2
          go_round
          case rel => exact ⟨k + 1, by go_num, by omega⟩
          case measure => simp [intOf]; omega
        · have hk1 : ((k : Int) == (X.length : Int) - 1) = false := by
            rw [beq_eq_false_iff_ne]
            intro e
            exact h128 (hiff.2 (by omega))
          have hk2 : decide ((x : Int) < 128) = false := by simp; omega
          clear hiff
          go_wp2
          go_round
          case rel => exact ⟨k + 1, by go_num, by omega⟩
          case measure => simp [intOf]; omega
      · obtain rfl : k = X.length := by omega
        by_cases h1 : X.length = 1
        · have h1b : ((X.length : Int) == 1) = true := by rw [beq_iff_eq]; omega
          clear h1
          go_wp2
          go_ret
          exact ⟨rfl, hbW⟩
        · have h1b : ((X.length : Int) == 1) = false := by rw [beq_eq_false_iff_ne]; omega
          have hs1 : 0 ≤ (7 * ((X.length : Int) - 1)) := by omega
          have hs2 : (7 * ((X.length : Int) - 1)) < 64 := by omega
          have h2 : 2 ≤ X.length := by omega
          clear h1
          go_wp2
          go_ret
          exact ⟨ret_bool (decide_eq_true (Hfin.out h2)), hbW⟩
  · clear hm
    go_wp2
    go_loop [37] (fun i => ∃ k : Nat, i = .int .i64 k ∧ k ≤ X.length) (fun i => X.length - (intOf i).toNat)
    case atStart => exact ⟨0, rfl, by omega⟩
    case round =>
      obtain ⟨k, rfl, hk⟩ := hrel
      by_cases hlt : k < X.length
      · obtain ⟨b, off, x, rfl, hbB, hc, hx, Hxk⟩ := hbs.at_ hlt
        have hiff := hget.out k hlt
        rw [Hxk.out] at hiff
        by_cases h128 : x < 128
        · have hk1 : ((k : Int) == (X.length : Int) - 1) = true := by rw [beq_iff_eq]; have := hiff.1 h128; omega
          have hk2 : decide ((x : Int) < 128) = true := by simp; omega
          clear hiff
          go_wp2
          go_round
          case rel => exact ⟨k + 1, by go_num, by omega⟩
          case measure => simp [intOf]; omega
        · have hk1 : ((k : Int) == (X.length : Int) - 1) = false := by
            rw [beq_eq_false_iff_ne]
            intro e
            exact h128 (hiff.2 (by omega))
          have hk2 : decide ((x : Int) < 128) = false := by simp; omega
          clear hiff
          go_wp2
          go_round
          case rel => exact ⟨k + 1, by go_num, by omega⟩
          case measure => simp [intOf]; omega
      · obtain rfl : k = X.length := by omega
        by_cases h1 : X.length = 1
        · have h1b : ((X.length : Int) == 1) = true := by rw [beq_iff_eq]; omega
          clear h1
          go_wp2
          go_ret
          exact ⟨rfl, hbW⟩
        · have h1b : ((X.length : Int) == 1) = false := by rw [beq_eq_false_iff_ne]; omega
          have hs1 : 0 ≤ (7 * ((X.length : Int) - 1)) := by omega
          have hs2 : (7 * ((X.length : Int) - 1)) < 64 := by omega
          have h2 : 2 ≤ X.length := by omega
          clear h1
          go_wp2
          go_ret
          exact ⟨ret_bool (decide_eq_true (Hfin.out h2)), hbW⟩

end Go.Proofs.Ytopiiebdmddigaa

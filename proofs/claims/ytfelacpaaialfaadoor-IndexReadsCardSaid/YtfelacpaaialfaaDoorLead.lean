/-
  The number with which bytes begin, as pack tells it: its value, and how many groups it has (0: there is none).
-/
import Derived.Test.YtfelacpaaialfaaDoorRows
import Derived.Test.YtfelacpaaialfaaDoorMem
import Derived.Outline
import Derived.Laws.BitsAllLaws
import Derived.Lib.EndianBits
namespace Go.Proofs.YtfelacpaaialfaaDoor
open Go.RowKit
set_option linter.unusedVariables false

def leadFrom : Nat → Nat → List UInt8 → Nat × Nat
  | _, _, [] => (0, 0)
  | i, acc, b :: r =>
    if i = 9 ∧ 1 < b.toNat then (0, 0)
    else if b.toNat = 0 ∧ 0 < i then (0, 0)
    else if b.toNat < 128 then (acc + b.toNat % 128 * 2 ^ (7 * i), i + 1)
    else leadFrom (i + 1) (acc + b.toNat % 128 * 2 ^ (7 * i)) r

def lead (l : List UInt8) : Nat × Nat := leadFrom 0 0 l

theorem leadFrom_drop {l : List UInt8} {k acc x : Nat} (hk : k < l.length) (hx : (l.getD k 0).toNat = x) :
    leadFrom k acc (l.drop k) = if k = 9 ∧ 1 < x then (0, 0) else if x = 0 ∧ 0 < k then (0, 0) else if x < 128 then (acc + x % 128 * 2 ^ (7 * k), k + 1) else leadFrom (k + 1) (acc + x % 128 * 2 ^ (7 * k)) (l.drop (k + 1)) := by
  subst hx
  rw [List.drop_eq_getElem_cons hk]
  simp only [leadFrom]
  have : l.getD k 0 = l[k] := by simp [List.getD, hk]
  rw [this]

set_option maxRecDepth 100000 in
theorem andNot128_nat : ∀ a : Fin 256, (a.val &&& 127) = a.val % 128 := by decide

theorem andNot128 (x : Nat) (hx : x < 256) : bits .andNot .u8 (x : Int) 128 = ((x % 128 : Nat) : Int) := by
  have h := u8_andNot_nat x 128 hx (by decide)
  have e : ((128 : Nat) : Int) = 128 := rfl
  rw [e] at h
  rw [h]
  exact congrArg _ (andNot128_nat ⟨x, hx⟩)

theorem or_low (k acc y : Nat) (hk : k ≤ 9) (ha : acc < 2 ^ (7 * k)) (hy : y * 2 ^ (7 * k) < 18446744073709551616) (ha64 : acc < 18446744073709551616) :
    bits .or .u64 (acc : Int) ((y * 2 ^ (7 * k) : Nat) : Int) = ((acc + y * 2 ^ (7 * k) : Nat) : Int) := by
  have h := bits_join_low .u64 64 (by decide) wraps_u64 (7 * k) (acc : Int) ((y * 2 ^ (7 * k) : Nat) : Int) (by omega) (by exact_mod_cast ha) (by exact_mod_cast ha64) (by omega)
    (by
      have : (y * 2 ^ (7 * k)) % 2 ^ (7 * k) = 0 := Nat.mul_mod_left _ _
      exact_mod_cast this) (by exact_mod_cast hy)
  rw [h]
  simp

theorem or_step (k acc x : Nat) (hk : k ≤ 9) (ha : acc < 2 ^ (7 * k)) (h9 : k = 9 → x ≤ 1) (hx : x < 256) :
    acc + x % 128 * 2 ^ (7 * k) < 18446744073709551616 ∧ (k < 9 → acc + x % 128 * 2 ^ (7 * k) < 2 ^ (7 * (k + 1))) ∧
    bits .or .u64 (acc : Int) (IntKind.u64.wrap ((x : Int) % 128 * 2 ^ (7 * k))) = ((acc + x % 128 * 2 ^ (7 * k) : Nat) : Int) := by
  have hp : ∀ j, j ≤ 9 → (2 : Nat) ^ (7 * j) ≤ 2 ^ 63 := fun j hj => Nat.pow_le_pow_right (by omega) (by omega)
  have hs : acc + x % 128 * 2 ^ (7 * k) < 18446744073709551616 ∧ (k < 9 → acc + x % 128 * 2 ^ (7 * k) < 2 ^ (7 * (k + 1))) := by
    by_cases h : k = 9
    · have := h9 h
      subst h
      have : x % 128 ≤ 1 := by omega
      have h2 : x % 128 * 2 ^ (7 * 9) ≤ 1 * 2 ^ (7 * 9) := Nat.mul_le_mul_right _ this
      refine ⟨?_, fun h => by omega⟩
      have h3 : (2 : Nat) ^ (7 * 9) = 9223372036854775808 := by decide
      omega
    · have h1 : x % 128 * 2 ^ (7 * k) ≤ 127 * 2 ^ (7 * k) := Nat.mul_le_mul_right _ (by omega)
      have h2 : (2 : Nat) ^ (7 * (k + 1)) = 128 * 2 ^ (7 * k) := by rw [show 7 * (k + 1) = 7 + 7 * k from by omega, Nat.pow_add]
      have h3 := hp (k + 1) (by omega)
      have h4 : (2 : Nat) ^ 63 = 9223372036854775808 := by decide
      refine ⟨by omega, fun _ => by omega⟩
  refine ⟨hs.1, hs.2, ?_⟩
  have hw : IntKind.u64.wrap ((x : Int) % 128 * 2 ^ (7 * k)) = ((x % 128 * 2 ^ (7 * k) : Nat) : Int) := by
    have e : ((x : Int) % 128 * 2 ^ (7 * k)) = ((x % 128 * 2 ^ (7 * k) : Nat) : Int) := by simp
    rw [e]
    exact wraps_u64 _ (by omega) (by have := hs.1; omega)
  rw [hw]
  exact or_low k acc (x % 128) hk ha (by omega) (by omega)

set_option maxHeartbeats 8000000 in
set_option maxRecDepth 100000 in
theorem lead_any (B : Nat) (A : Option Addr) (c : Nat) (l : List UInt8) (w : World) (hA : Bs w B A l) (hl : l.length ≤ maxLen) :
    Calls Tryd.prog 30 #[.slice A l.length c] w fun e w' => e = .returned (.tuple #[.int .u64 (lead l).1, .int .i64 (lead l).2]) ∧ w = w' := by
  unfold maxLen at hl
  go_enter Tryd.func30, Tryd.ntmps30
  go_wp2
  go_loop [4, 9] (fun v i => ∃ k acc : Nat, v = .int .u64 acc ∧ i = .int .i64 k ∧ k ≤ l.length ∧ k ≤ 9 ∧ Hid (acc < 2 ^ (7 * k)) ∧ Hid (leadFrom k acc (l.drop k) = lead l)) (fun _ i => l.length - (intOf i).toNat)
  case atStart => exact ⟨0, 0, rfl, rfl, by omega, by omega, (by decide : (0 : Nat) < 2 ^ (7 * 0)), rfl⟩
  case round =>
    obtain ⟨k, acc, rfl, rfl, hk, hk9, hacc, hlead⟩ := hrel
    by_cases hlt : k < l.length
    · obtain ⟨b, off, x, rfl, hbB, hc, hx, Hx⟩ := hA.at_ hlt
      have hstep := leadFrom_drop (acc := acc) hlt Hx.out
      rw [hlead.out] at hstep
      have hand := andNot128 x hx
      by_cases h9 : k = 9 ∧ 1 < x
      · rw [if_pos h9] at hstep
        have Hs := Lib.hid hstep
        clear hstep
        obtain ⟨rfl, h1⟩ := h9
        go_wp2
        go_ret2
        exact ⟨by rw [Hs.out]; rfl, rfl⟩
      · rw [if_neg h9] at hstep
        obtain ⟨hs1, hs2, hor⟩ := or_step k acc x hk9 hacc.out (fun e => by omega) hx
        have Hs2 := Lib.hid hs2
        clear hs2
        have hcase : (((k : Int) == 9) = true ∧ x ≤ 1 ∧ 9 ≤ k) ∨ (((k : Int) == 9) = false ∧ x ≤ 255 ∧ k < 9) := by
          by_cases e : k = 9
          · exact .inl ⟨by rw [beq_iff_eq]; omega, by omega, by omega⟩
          · exact .inr ⟨by rw [beq_eq_false_iff_ne]; omega, by omega, by omega⟩
        generalize acc + x % 128 * 2 ^ (7 * k) = acc' at *
        clear h9
        by_cases hB : x = 0 ∧ 0 < k
        · rw [if_pos hB] at hstep
          have Hs := Lib.hid hstep
          have hx0 : ((x : Int) == 0) = true := by rw [beq_iff_eq]; omega
          obtain ⟨hxx, hk0⟩ := hB
          have hxle : x ≤ 0 := by omega
          clear hstep hxx
          rcases hcase with ⟨h9b, hx1, h9k⟩ | ⟨h9b, hx1, h9k⟩
          all_goals
            go_wp2
            go_ret2
            exact ⟨by rw [Hs.out]; rfl, rfl⟩
        · rw [if_neg hB] at hstep
          by_cases hC : x < 128
          · rw [if_pos hC] at hstep
            have Hs := Lib.hid hstep
            have hx0 : (((x : Int) == 0) = true ∧ k ≤ 0) ∨ ((x : Int) == 0) = false := by
              by_cases e : x = 0
              · exact .inl ⟨by rw [beq_iff_eq]; omega, by omega⟩
              · exact .inr (by rw [beq_eq_false_iff_ne]; omega)
            clear hstep hB
            rcases hcase with ⟨h9b, hx1, h9k⟩ | ⟨h9b, hx1, h9k⟩
            all_goals
              rcases hx0 with ⟨hx0, hk0⟩ | hx0
              all_goals
                go_wp2
                all_goals
                  go_ret2
                  exact ⟨by rw [Hs.out] <;> simp, rfl⟩
          · rw [if_neg hC] at hstep
            have Hs := Lib.hid hstep
            have hx0 : ((x : Int) == 0) = false := by rw [beq_eq_false_iff_ne]; omega
            clear hstep hB
            rcases hcase with ⟨h9b, hx1, h9k⟩ | ⟨h9b, hx1, h9k⟩
            · omega
            · go_wp2
              go_round
              case rel => exact ⟨k + 1, acc', rfl, by go_num, by omega, by omega, Hs2.out h9k, Hs.out.symm⟩
              case measure => simp [intOf]; omega
    · have he : l.drop k = [] := List.drop_eq_nil_of_le (by omega)
      have hl0 := hlead.out
      rw [he] at hl0
      have Hs := Lib.hid hl0
      clear hl0 he
      go_wp2
      go_ret2
      exact ⟨by rw [← Hs.out]; rfl, rfl⟩

end Go.Proofs.YtfelacpaaialfaaDoor

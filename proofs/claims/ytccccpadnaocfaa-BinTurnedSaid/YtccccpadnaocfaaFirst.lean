/-
  bits.Len, and merkle's firstOnes.
-/
import Derived.Test.YtccccpadnaocfaaSplit
import Derived.Test.YtccccpadnaocfaaLen64
namespace Go.Proofs.Ytccccpadnaocfaa
open Go.RowKit
set_option linter.unusedVariables false

theorem bitLen_lenF : ∀ (x : Nat), x < 18446744073709551616 → Lib.bitLen x = lenF x := by
  intro x
  induction x using Nat.strongRecOn with
  | ind x ih =>
    intro hx
    by_cases h0 : x = 0
    · subst h0; rfl
    · by_cases h1 : x = 1
      · subst h1; rfl
      · have e := lenF_shift (x := x) (k := 1) (by omega)
        rw [show (2 : Nat) ^ 1 = 2 from rfl] at e
        rw [Lib.bitLen_half x h0 (by omega), ih (x / 2) (by omega) (by omega), e]
        omega

theorem lenF_le {x k : Nat} (h : x < 2 ^ k) : lenF x ≤ k := by
  unfold lenF
  split
  · omega
  · rename_i h0
    have := (Nat.log2_lt h0).2 h
    omega

set_option maxHeartbeats 2000000 in
theorem len_any (n : Nat) (w : World) (h1 : n < 18446744073709551616) :
    Calls Try.prog 68 #[.int .u64 (n : Nat)] w fun e w' => e = .returned (.int .i64 (lenF n : Nat)) ∧ w' = w := by
  go_enter Try.func68, Try.ntmps68
  go_wp2_with fail
  refine Calls.mono (len64_walk n w h1) ?_
  rintro e w1 ⟨rfl, rfl⟩
  rw [bitLen_lenF n h1]
  go_wp2_with fail
  exact bodyPost_ret (v := .int .i64 (lenF n : Nat)) (by simp [results, Try.f68]) rfl ⟨rfl, rfl⟩

set_option maxHeartbeats 2000000 in
theorem first_any (n : Nat) (h2 : 2 ≤ n) (hn : n < 9223372036854775808) (w : World) :
    Calls Try.prog 58 #[.int .i64 (n : Nat)] w fun e w' => e = .returned (.int .i64 (splitF n : Nat)) ∧ w' = w := by
  have hs := splitF_len h2
  have hf := splitF_facts h2
  obtain ⟨m, hm⟩ : ∃ m, n - 1 = m := ⟨_, rfl⟩
  have hmI : (n : Int) - 1 = (m : Int) := by omega
  have hl := lenF_le (x := m) (k := 63) (by omega)
  have hp : 1 ≤ lenF m := by unfold lenF; rw [if_neg (by omega)]; omega
  rw [hm] at hs
  obtain ⟨k, hk⟩ : ∃ k, lenF m = k := ⟨_, rfl⟩
  rw [hk] at hs hl hp
  have Hk := Lib.hid hk
  obtain ⟨j, hj⟩ : ∃ j, k - 1 = j := ⟨_, rfl⟩
  have hjI : (k : Int) - 1 = (j : Int) := by omega
  rw [hj] at hs
  have Hs := Lib.hid hs
  have h62 : 2 ^ j < 9223372036854775808 := by rw [← hs]; omega
  clear hm hk hj hs
  go_enter Try.func58, Try.ntmps58
  go_wp2_with fail
  refine Calls.mono (len_any m w (by omega)) ?_
  rintro e w1 ⟨rfl, rfl⟩
  rw [Hk.out]
  go_wp2_with fail
  have hw : wrap64 ((2 : Int) ^ j) = ((2 ^ j : Nat) : Int) := by
    have e : (2 : Int) ^ j = ((2 ^ j : Nat) : Int) := by rw [Int.natCast_pow]; rfl
    rw [e]
    obtain ⟨q, hq⟩ : ∃ q, 2 ^ j = q := ⟨_, rfl⟩
    rw [hq] at h62 ⊢
    unfold wrap64
    omega
  exact bodyPost_ret (v := .int .i64 (wrap64 (2 ^ j))) (by simp [results, Try.f58]) rfl ⟨by rw [hw, Hs.out], rfl⟩

end Go.Proofs.Ytccccpadnaocfaa

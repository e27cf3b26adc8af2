/-
  TrieCommon: texts on the way to the laws, as one.
-/
import Derived.Test.YtblgmnjegkfoaaaGreatK05
import Derived.Test.YtblgmnjegkfoaaaGreatK06
import Derived.BigQuiet
import Derived.Deep.QuietTactic
set_option maxRecDepth 100000
namespace Go.Proofs.YtblgmnjegkfoaaaGreat
open Go.RowKit
set_option linter.unusedVariables false
set_option linter.unusedSimpArgs false

/-- How many first nibbles two keys have in common. -/
def commF (a b : List UInt8) : Nat := sharedF [(a, []), (b, [])] 0
theorem agree2 {a b : List UInt8} {i : Nat} : agreeF [(a, []), (b, [])] i = true ↔ nibF a i = nibF b i := by
  rw [agreeF_iff]
  constructor
  · intro h; exact h (a, []) (by simp) (b, []) (by simp)
  · intro h x hx y hy
    simp only [List.mem_cons, List.not_mem_nil, or_false] at hx hy
    rcases hx with rfl | rfl <;> rcases hy with rfl | rfl <;> simp [h]
theorem commF_le (a b : List UInt8) : commF a b ≤ 64 := sharedF_le _ (Nat.zero_le _)
theorem commF_in {a b : List UInt8} {i : Nat} (h : i < commF a b) : nibF a i = nibF b i := agree2.1 (sharedF_in (Nat.zero_le _) h)
theorem commF_end {a b : List UInt8} (h : commF a b < 64) : nibF a (commF a b) ≠ nibF b (commF a b) := fun e => by
  have h1 := sharedF_end h
  have h2 := agree2.2 e
  exact absurd (h2.symm.trans h1) (by simp)
theorem commF_is {a b : List UInt8} {e : Nat} (he : e ≤ 64) (h1 : ∀ i, i < e → nibF a i = nibF b i) (h2 : e < 64 → nibF a e ≠ nibF b e) : commF a b = e :=
  sharedF_is (Nat.zero_le _) he (fun i _ hi => agree2.2 (h1 i hi)) (fun h => by
    cases hq : agreeF [(a, []), (b, [])] e with
    | false => rfl
    | true => exact absurd (agree2.1 hq) (h2 h))
theorem commF_comm (a b : List UInt8) : commF a b = commF b a := commF_is (commF_le b a) (fun i hi => (commF_in hi).symm) (fun h e => commF_end h e.symm)
theorem commF_all {a b : List UInt8} (ha : a.length = 32) (hb : b.length = 32) : commF a b = 64 ↔ a = b := by
  constructor
  · intro h; exact nib_ext ha hb fun i hi => commF_in (by rw [h]; exact hi)
  · rintro rfl; exact commF_is (Nat.le_refl _) (fun _ _ => rfl) (fun h => absurd h (Nat.lt_irrefl _))

theorem len_z (z : Nat) (h : z < 256) : Lib.bitLen z ≤ 8 ∧ (z ≠ 0 → (8 - Lib.bitLen z) / 4 = if z < 16 then 1 else 0) := by
  have h1 : ∀ z : Fin 256, Lib.bitLen z.val ≤ 8 ∧ (z.val ≠ 0 → (8 - Lib.bitLen z.val) / 4 = if z.val < 16 then 1 else 0) := by decide +kernel
  exact h1 ⟨z, h⟩
set_option maxHeartbeats 4000000 in
theorem xor_byte (a b : UInt8) : bits .xor .u8 ((a.toNat : Nat) : Int) ((b.toNat : Nat) : Int) = (((a.toNat ^^^ b.toNat : Nat)) : Int) ∧ a.toNat ^^^ b.toNat < 256 ∧ (a ≠ b → (8 - Lib.bitLen (a.toNat ^^^ b.toNat)) / 4 = if a.toNat / 16 = b.toNat / 16 then 1 else 0) ∧ Lib.bitLen (a.toNat ^^^ b.toNat) ≤ 8 := by
  have h0 : ∀ a b : Fin 256, bits .xor .u8 ((a.val : Nat) : Int) ((b.val : Nat) : Int) = (((a.val ^^^ b.val : Nat)) : Int) := by decide +kernel
  have h : ∀ a b : Fin 256, a.val ^^^ b.val < 256 ∧ (a.val ^^^ b.val = 0 → a.val = b.val) ∧ (decide (a.val ^^^ b.val < 16) = decide (a.val / 16 = b.val / 16)) := by decide +kernel
  have e := h0 ⟨a.toNat, a.toNat_lt⟩ ⟨b.toNat, b.toNat_lt⟩
  obtain ⟨h2, h3, h4⟩ := h ⟨a.toNat, a.toNat_lt⟩ ⟨b.toNat, b.toNat_lt⟩
  simp only at e h2 h3 h4
  obtain ⟨l1, l2⟩ := len_z _ h2
  refine ⟨e, h2, fun hn => ?_, l1⟩
  rw [l2 (fun e0 => hn (UInt8.toNat_inj.1 (h3 e0)))]
  have h5 : (a.toNat ^^^ b.toNat < 16) ↔ (a.toNat / 16 = b.toNat / 16) := by simpa using h4
  by_cases hq : a.toNat / 16 = b.toNat / 16
  · rw [if_pos hq, if_pos (h5.2 hq)]
  · rw [if_neg hq, if_neg (fun h => hq (h5.1 h))]
theorem commF_at {a b : List UInt8} {i : Nat} (hi : i < 32) (h : ∀ j, j < i → a.getD j 0 = b.getD j 0) (hne : a.getD i 0 ≠ b.getD i 0) :
    commF a b = 2 * i + (8 - Lib.bitLen ((a.getD i 0).toNat ^^^ (b.getD i 0).toNat)) / 4 := by
  obtain ⟨_, _, h3, _⟩ := xor_byte (a.getD i 0) (b.getD i 0)
  have h3 := h3 hne
  have hlow : ∀ j, j < 2 * i → nibF a j = nibF b j := fun j hj => by unfold nibF; rw [h (j / 2) (by omega)]
  rw [h3]
  split
  · rename_i e
    refine commF_is (by omega) (fun j hj => ?_) (fun _ e2 => ?_)
    · by_cases hj2 : j < 2 * i
      · exact hlow j hj2
      · obtain rfl : j = 2 * i := by omega
        unfold nibF
        rw [if_pos (by omega), if_pos (by omega), show 2 * i / 2 = i by omega, e]
    · unfold nibF at e2
      rw [if_neg (by omega), if_neg (by omega), show (2 * i + 1) / 2 = i by omega] at e2
      exact hne (UInt8.toNat_inj.1 (by omega))
  · rename_i e
    refine commF_is (by omega) (fun j hj => hlow j (by omega)) (fun _ e2 => ?_)
    unfold nibF at e2
    rw [if_pos (by omega), if_pos (by omega), show (2 * i + 0) / 2 = i by omega] at e2
    exact e e2

end Go.Proofs.YtblgmnjegkfoaaaGreat

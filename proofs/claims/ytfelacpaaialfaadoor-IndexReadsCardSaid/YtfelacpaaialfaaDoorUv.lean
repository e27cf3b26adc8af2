/-
  Plain facts on the groups of seven bits. No program.
-/
import Derived.Lib.VarintMem
namespace Go.Proofs.YtfelacpaaialfaaDoor

theorem uv_mono : ∀ (n v w : Nat), w ≤ n → v ≤ w → (Lib.uvarint v).length ≤ (Lib.uvarint w).length := by
  intro n
  induction n using Nat.strongRecOn with
  | ind n ih =>
    intro v w hn h
    by_cases hv : v < 128
    · rw [Lib.uvarint_small hv]
      exact Lib.uvarint_pos w
    · rw [Lib.uvarint_big (x := v) (by omega), Lib.uvarint_big (x := w) (by omega), List.length_cons, List.length_cons]
      have := ih (n / 128) (by omega) (v / 128) (w / 128) (by omega) (by omega)
      omega

/-- Of the groups the last one alone is below 128. -/
theorem uv_get : ∀ (n v i : Nat), v ≤ n → i < (Lib.uvarint v).length → (((Lib.uvarint v).getD i 0).toNat < 128 ↔ i + 1 = (Lib.uvarint v).length) := by
  intro n
  induction n using Nat.strongRecOn with
  | ind n ih =>
    intro v i hn hi
    by_cases hv : v < 128
    · rw [Lib.uvarint_small hv] at hi ⊢
      have : i = 0 := by simpa using hi
      subst this
      simp [Nat.toUInt8, UInt8.toNat_ofNat']
      omega
    · rw [Lib.uvarint_big (by omega)] at hi ⊢
      have hp := Lib.uvarint_pos (v / 128)
      cases i with
      | zero =>
        simp [Nat.toUInt8, UInt8.toNat_ofNat']
        constructor
        · intro h; omega
        · intro h; rw [h] at hp; simp at hp
      | succ i =>
        rw [List.length_cons] at hi
        have := ih (n / 128) (by omega) (v / 128) i (by omega) (by omega)
        simp only [List.getD_cons_succ, List.length_cons]
        rw [this]
        omega

/-- A number is at least what its groups but the last one can't hold. -/
theorem uv_low : ∀ (k v : Nat), (Lib.uvarint v).length = k + 2 → 128 ^ (k + 1) ≤ v := by
  intro k
  induction k with
  | zero =>
    intro v h
    by_cases hv : v < 128
    · rw [Lib.uvarint_small hv] at h; simp at h
    · omega
  | succ k ih =>
    intro v h
    by_cases hv : v < 128
    · rw [Lib.uvarint_small hv] at h; simp at h
    · rw [Lib.uvarint_big (by omega), List.length_cons] at h
      have := ih (v / 128) (by omega)
      rw [Nat.pow_succ]
      omega

theorem pow128 (k : Nat) : (128 : Nat) ^ k = 2 ^ (7 * k) := by rw [Nat.pow_mul]

/-- A number's groups come to it. -/
def uval : List UInt8 → Nat
  | [] => 0
  | b :: r => b.toNat % 128 + 128 * uval r

theorem uval_uvarint : ∀ (n v : Nat), v ≤ n → uval (Lib.uvarint v) = v := by
  intro n
  induction n using Nat.strongRecOn with
  | ind n ih =>
    intro v hn
    by_cases hv : v < 128
    · rw [Lib.uvarint_small hv]
      simp [uval, Nat.toUInt8, UInt8.toNat_ofNat']
      omega
    · rw [Lib.uvarint_big (by omega)]
      simp only [uval]
      rw [ih (n / 128) (by omega) (v / 128) (by omega)]
      simp [Nat.toUInt8, UInt8.toNat_ofNat']
      omega

theorem uv_inj {v w : Nat} (h : Lib.uvarint v = Lib.uvarint w) : v = w := by
  rw [← uval_uvarint v v (Nat.le_refl _), ← uval_uvarint w w (Nat.le_refl _), h]

theorem uv300 : Lib.uvarint 300 = [172, 2] := by
  rw [Lib.uvarint_big (by omega), Lib.uvarint_small (by omega)]
  rfl

end Go.Proofs.YtfelacpaaialfaaDoor

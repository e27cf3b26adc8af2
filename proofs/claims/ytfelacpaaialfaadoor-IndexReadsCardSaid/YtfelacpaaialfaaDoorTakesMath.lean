/-
  Plain facts: the number with which bytes begin, as the document finds it (the first byte below 128, the sum, the same bytes again), is the one that pack finds.
-/
import Derived.Test.YtfelacpaaialfaaDoorPackMath
namespace Go.Proofs.YtfelacpaaialfaaDoor
set_option linter.unusedVariables false

/-- Where the first byte below 128 stands. -/
def fstS : List UInt8 → Nat
  | [] => 0
  | b :: r => if b.toNat < 128 then 0 else fstS r + 1

theorem fstS_le : ∀ l : List UInt8, fstS l ≤ l.length
  | [] => Nat.le_refl _
  | b :: r => by
    unfold fstS
    have := fstS_le r
    split
    · exact Nat.zero_le _
    · simp only [List.length_cons]; omega

theorem fstS_big : ∀ (l : List UInt8) (i : Nat), i < fstS l → 128 ≤ (l.getD i 0).toNat
  | [], i, h => by simp [fstS] at h
  | b :: r, 0, h => by
    unfold fstS at h
    split at h
    · omega
    · simp; omega
  | b :: r, i + 1, h => by
    unfold fstS at h
    split at h
    · omega
    · simpa using fstS_big r i (by omega)

theorem fstS_small : ∀ (l : List UInt8), fstS l < l.length → (l.getD (fstS l) 0).toNat < 128
  | [], h => by simp [fstS] at h
  | b :: r, h => by
    unfold fstS at h ⊢
    split at h
    · rename_i hb
      rw [if_pos hb]
      simpa using hb
    · rename_i hb
      rw [if_neg hb]
      simpa using fstS_small r (by simpa using h)

def rNum (most : Nat) (l : List UInt8) : Nat × List UInt8 × Bool :=
  if l.length ≤ fstS l ∨ 9 < fstS l then (0, [], true)
  else if Lib.uvarint (uval (l.take (fstS l + 1)) % 18446744073709551616) ≠ l.take (fstS l + 1) ∨ most < uval (l.take (fstS l + 1)) % 18446744073709551616 then (0, [], true)
  else (uval (l.take (fstS l + 1)) % 18446744073709551616, l.drop (fstS l + 1), false)

theorem leadFrom_sound : ∀ (l : List UInt8) (i acc v g : Nat), leadFrom i acc l = (v, g) → g ≠ 0 → ∃ u r, l = Lib.uvarint u ++ r ∧ g = i + (Lib.uvarint u).length ∧ v = acc + u * 2 ^ (7 * i) ∧ (0 < i → 0 < u)
  | [], i, acc, v, g, h, hg => by simp [leadFrom] at h; omega
  | b :: r, i, acc, v, g, h, hg => by
    have hb : b.toNat < 256 := UInt8.toNat_lt b
    have hbb : (b.toNat).toUInt8 = b := by simp [Nat.toUInt8]
    unfold leadFrom at h
    by_cases h9 : i = 9 ∧ 1 < b.toNat
    · rw [if_pos h9] at h; simp at h; omega
    · rw [if_neg h9] at h
      by_cases h0 : b.toNat = 0 ∧ 0 < i
      · rw [if_pos h0] at h; simp at h; omega
      · rw [if_neg h0] at h
        by_cases hc : b.toNat < 128
        · rw [if_pos hc] at h
          simp only [Prod.mk.injEq] at h
          refine ⟨b.toNat, r, ?_, ?_, ?_, fun hi => by omega⟩
          · rw [Lib.uvarint_small hc, hbb]; rfl
          · rw [Lib.uvarint_small hc]; simp; omega
          · rw [← h.1, Nat.mod_eq_of_lt hc]
        · rw [if_neg hc] at h
          obtain ⟨u, r', h1, h2, h3, h4⟩ := leadFrom_sound r (i + 1) _ v g h hg
          have hu := h4 (by omega)
          have hbig : 128 ≤ b.toNat % 128 + 128 * u := by omega
          have hd : (b.toNat % 128 + 128 * u) / 128 = u := by omega
          have hm : (b.toNat % 128 + 128 * u) % 128 + 128 = b.toNat := by omega
          have huv : Lib.uvarint (b.toNat % 128 + 128 * u) = b :: Lib.uvarint u := by rw [Lib.uvarint_big hbig, hd, hm, hbb]
          refine ⟨b.toNat % 128 + 128 * u, r', ?_, ?_, ?_, fun _ => by omega⟩
          · rw [huv, h1]; rfl
          · rw [huv, h2]; simp; omega
          · have hp : (2 : Nat) ^ (7 * (i + 1)) = 128 * 2 ^ (7 * i) := by rw [show 7 * (i + 1) = 7 + 7 * i from by omega, Nat.pow_add]
            rw [h3, hp, Nat.add_mul, Nat.mul_comm 128 u, Nat.mul_assoc]
            omega

theorem fstS_uv (v : Nat) (r : List UInt8) : fstS (Lib.uvarint v ++ r) + 1 = (Lib.uvarint v).length := by
  have hp := Lib.uvarint_pos v
  have hle := fstS_le (Lib.uvarint v ++ r)
  have key : ∀ j, j < (Lib.uvarint v).length → (Lib.uvarint v ++ r).getD j 0 = (Lib.uvarint v).getD j 0 := by
    intro j hj
    simp [List.getD, List.getElem?_append_left hj]
  rcases Nat.lt_trichotomy (fstS (Lib.uvarint v ++ r) + 1) (Lib.uvarint v).length with h | h | h
  · have h1 := fstS_small (Lib.uvarint v ++ r) (by rw [List.length_append]; omega)
    rw [key _ (by omega)] at h1
    have := (uv_get v v _ (Nat.le_refl _) (by omega)).1 h1
    omega
  · exact h
  · have h1 := fstS_big (Lib.uvarint v ++ r) ((Lib.uvarint v).length - 1) (by omega)
    rw [key _ (by omega)] at h1
    have := (uv_get v v ((Lib.uvarint v).length - 1) (Nat.le_refl _) (by omega)).2 (by omega)
    omega

theorem rNum_eq (most : Nat) (l : List UInt8) : rNum most l = numF most l := by
  by_cases hg : (lead l).2 = 0
  · have hnF : numF most l = (0, [], true) := by unfold numF; rw [if_pos (.inl hg)]
    rw [hnF]
    unfold rNum
    split
    · rfl
    · split
      · rfl
      · rename_i h1 h2
        exfalso
        have h3 : Lib.uvarint (uval (l.take (fstS l + 1)) % 18446744073709551616) = l.take (fstS l + 1) := by
          by_cases h : Lib.uvarint (uval (l.take (fstS l + 1)) % 18446744073709551616) = l.take (fstS l + 1)
          · exact h
          · exact absurd (.inl h) h2
        have h4 := lead_uv (uval (l.take (fstS l + 1)) % 18446744073709551616) (l.drop (fstS l + 1)) (Nat.mod_lt _ (by omega))
        rw [h3, List.take_append_drop] at h4
        rw [h4] at hg
        simp at hg
        subst hg
        simp at h1
  · obtain ⟨v, g, hL⟩ : ∃ v g, lead l = (v, g) := ⟨_, _, rfl⟩
    rw [hL] at hg
    obtain ⟨u, r, h1, h2, h3, _⟩ := leadFrom_sound l 0 0 v g hL hg
    have hvu : v = u := by simpa using h3
    subst hvu
    have hv := (lead_le l).2
    rw [hL] at hv
    simp only at hv
    have hf := fstS_uv v r
    rw [← h1] at hf
    have hlen := congrArg List.length h1
    rw [List.length_append] at hlen
    have h10 := Lib.uvarint_length64 hv
    have ht : l.take (fstS l + 1) = Lib.uvarint v := by rw [hf, h1]; simp
    have hd : l.drop (fstS l + 1) = r := by rw [hf, h1]; simp
    have hval : uval (l.take (fstS l + 1)) % 18446744073709551616 = v := by rw [ht, uval_uvarint v v (Nat.le_refl _), Nat.mod_eq_of_lt hv]
    unfold rNum numF
    rw [if_neg (by omega), hval, ht, hd, hL]
    simp only
    have hg' : ¬ g = 0 := hg
    by_cases hm : most < v
    · rw [if_pos (.inr hm), if_pos (.inr hm)]
    · rw [if_neg (by simp; omega), if_neg (by simp; omega)]
      have : g = (Lib.uvarint v).length := by omega
      rw [this, h1]
      simp

end Go.Proofs.YtfelacpaaialfaaDoor

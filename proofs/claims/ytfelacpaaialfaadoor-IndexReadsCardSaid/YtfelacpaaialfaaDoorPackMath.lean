/-
  Plain facts: a number's groups, read again; a beginning of them; what is put comes back. No program runs here.
-/
import Derived.Test.YtfelacpaaialfaaDoorFrom
import Derived.Test.YtfelacpaaialfaaDoorUv
namespace Go.Proofs.YtfelacpaaialfaaDoor
set_option linter.unusedVariables false

theorem toNat_small {v : Nat} (h : v < 256) : (v.toUInt8).toNat = v := Lib.toUInt8_toNat h

theorem leadFrom_uv : ∀ (n v i acc : Nat) (r : List UInt8), v ≤ n → i ≤ 9 → acc + v * 2 ^ (7 * i) < 18446744073709551616 → (i = 0 ∨ 0 < v) →
    leadFrom i acc (Lib.uvarint v ++ r) = (acc + v * 2 ^ (7 * i), i + (Lib.uvarint v).length) := by
  intro n
  induction n using Nat.strongRecOn with
  | ind n ih =>
    intro v i acc r hn hi hlt hpos
    have h9 : i = 9 → v ≤ 1 := by
      intro e
      subst e
      have : (2 : Nat) ^ (7 * 9) = 9223372036854775808 := by decide
      rw [this] at hlt
      omega
    by_cases hv : v < 128
    · rw [Lib.uvarint_small hv]
      simp only [List.cons_append, List.nil_append, leadFrom, toNat_small (show v < 256 by omega), List.length_cons, List.length_nil]
      rw [if_neg (by omega), if_neg (by omega), if_pos hv, Nat.mod_eq_of_lt hv]
    · rw [Lib.uvarint_big (by omega)]
      simp only [List.cons_append, leadFrom, toNat_small (show v % 128 + 128 < 256 by omega), List.length_cons]
      rw [if_neg (by omega), if_neg (by omega), if_neg (by omega)]
      have hp : (2 : Nat) ^ (7 * (i + 1)) = 128 * 2 ^ (7 * i) := by rw [show 7 * (i + 1) = 7 + 7 * i from by omega, Nat.pow_add]
      have hm : (v % 128 + 128) % 128 = v % 128 := by omega
      have hsum : acc + v % 128 * 2 ^ (7 * i) + v / 128 * (128 * 2 ^ (7 * i)) = acc + v * 2 ^ (7 * i) := by
        have : v * 2 ^ (7 * i) = (v % 128 + v / 128 * 128) * 2 ^ (7 * i) := by congr 1; omega
        rw [this, Nat.add_mul, Nat.mul_assoc]
        omega
      rw [hm, ih (n / 128) (by omega) (v / 128) (i + 1) _ r (by omega) (by omega) (by rw [hp, hsum]; exact hlt) (.inr (by omega)), hp, hsum]
      congr 1
      omega

theorem lead_uv (v : Nat) (r : List UInt8) (h : v < 18446744073709551616) : lead (Lib.uvarint v ++ r) = (v, (Lib.uvarint v).length) := by
  have := leadFrom_uv v v 0 0 r (Nat.le_refl _) (by omega) (by simpa using h) (.inl rfl)
  simpa [lead] using this

theorem leadFrom_big : ∀ (l : List UInt8) (i acc : Nat), (∀ b ∈ l, 128 ≤ b.toNat) → leadFrom i acc l = (0, 0)
  | [], _, _, _ => rfl
  | b :: r, i, acc, h => by
    have hb := h b (by simp)
    unfold leadFrom
    split
    · rfl
    · rw [if_neg (by omega), if_neg (by omega)]
      exact leadFrom_big r _ _ fun x hx => h x (by simp [hx])

theorem lead_cut (v k : Nat) (hk : k < (Lib.uvarint v).length) : lead ((Lib.uvarint v).take k) = (0, 0) := by
  refine leadFrom_big _ 0 0 fun b hb => ?_
  obtain ⟨j, hj, rfl⟩ := List.getElem_of_mem hb
  rw [List.length_take] at hj
  have hg := uv_get v v j (Nat.le_refl _) (by omega)
  have e : ((Lib.uvarint v).take k)[j]'(by rw [List.length_take]; exact hj) = (Lib.uvarint v).getD j 0 := by
    simp [List.getElem_take, List.getD, show j < (Lib.uvarint v).length from by omega]
  rw [e]
  rcases Nat.lt_or_ge ((Lib.uvarint v).getD j 0).toNat 128 with hlt | hge
  · have := hg.1 hlt; omega
  · exact hge

theorem uv_prefix (v w n : Nat) (hn : n = min (Lib.uvarint v).length (Lib.uvarint w).length) : ((Lib.uvarint v).take n = (Lib.uvarint w).take n) ↔ v = w := by
  constructor
  · intro h
    have hv1 := Lib.uvarint_pos v
    have hw1 := Lib.uvarint_pos w
    have hg : ∀ j, j < n → (Lib.uvarint v).getD j 0 = (Lib.uvarint w).getD j 0 := by
      intro j hj
      have h1 : ((Lib.uvarint v).take n)[j]? = ((Lib.uvarint w).take n)[j]? := by rw [h]
      simpa [List.getElem?_take, hj, List.getD] using congrArg (fun o => Option.getD o (0 : UInt8)) h1
    have hlast := hg (n - 1) (by omega)
    have g1 := uv_get v v (n - 1) (Nat.le_refl _) (by omega)
    have g2 := uv_get w w (n - 1) (Nat.le_refl _) (by omega)
    rw [hlast] at g1
    have hlen : (Lib.uvarint v).length = (Lib.uvarint w).length := by
      rcases Nat.le_total (Lib.uvarint v).length (Lib.uvarint w).length with hle | hle
      · have := g2.1 (g1.2 (by omega)); omega
      · have := g1.1 (g2.2 (by omega)); omega
    rw [List.take_of_length_le (by omega), List.take_of_length_le (by omega)] at h
    exact uv_inj h
  · rintro rfl; rfl

theorem numF_uv (v : Nat) (r : List UInt8) (h : v < 18446744073709551616) : numF v (Lib.uvarint v ++ r) = (v, r, false) := by
  have hp := Lib.uvarint_pos v
  unfold numF
  rw [lead_uv v r h]
  simp only
  rw [if_neg (by omega)]
  simp

theorem bytesF_uv (b r : List UInt8) (h : b.length < 9223372036854775808) : bytesF b.length (Lib.uvarint b.length ++ (b ++ r)) = (b, r, false) := by
  unfold bytesF
  rw [if_neg (by omega), Int.toNat_natCast, numF_uv _ _ (by omega)]
  simp only [cutF]
  rw [if_neg (by simp)]
  simp

/-- No beginning of what was put comes back. -/
theorem cut_wrong (v k : Nat) (b : List UInt8) (hv : v < 18446744073709551616) (hb : b.length < 9223372036854775808) (hk : k < (Lib.uvarint v ++ (Lib.uvarint b.length ++ b)).length) :
    doneF (bytesF b.length (numF v ((Lib.uvarint v ++ (Lib.uvarint b.length ++ b)).take k)).2.1).2.1 ((numF v ((Lib.uvarint v ++ (Lib.uvarint b.length ++ b)).take k)).2.2 || (bytesF b.length (numF v ((Lib.uvarint v ++ (Lib.uvarint b.length ++ b)).take k)).2.1).2.2) = 3 := by
  simp only [List.length_append] at hk
  by_cases h1 : k < (Lib.uvarint v).length
  · have : numF v ((Lib.uvarint v ++ (Lib.uvarint b.length ++ b)).take k) = (0, [], true) := by
      rw [List.take_append_of_le_length (by omega)]
      unfold numF
      rw [lead_cut v k h1, if_pos (.inl rfl)]
    rw [this]
    simp [doneF]
  · rw [List.take_append, List.take_of_length_le (by omega), numF_uv v _ hv]
    simp only [Bool.false_or]
    generalize hj : k - (Lib.uvarint v).length = j
    have hjl : j < (Lib.uvarint b.length).length + b.length := by omega
    have : (bytesF b.length ((Lib.uvarint b.length ++ b).take j)).2.2 = true := by
      unfold bytesF
      rw [if_neg (by omega), Int.toNat_natCast]
      by_cases h2 : j < (Lib.uvarint b.length).length
      · have : numF b.length ((Lib.uvarint b.length ++ b).take j) = (0, [], true) := by
          rw [List.take_append_of_le_length (by omega)]
          unfold numF
          rw [lead_cut _ j h2, if_pos (.inl rfl)]
        rw [this]
        simp
      · rw [List.take_append, List.take_of_length_le (by omega), numF_uv _ _ (by omega)]
        simp only [cutF]
        rw [if_pos (by rw [List.length_take]; omega)]
        simp
    rw [this]
    simp [doneF]

/-- 'cut & 0xffff' is at least 0, whatever cut is. -/
theorem and_ffff (x : Int) : ∃ m : Nat, bits .and .i64 x 65535 = (m : Int) ∧ m ≤ 65535 := by
  have hb : BitVec.ofInt IntKind.i64.bits 65535 = BitVec.ofNat IntKind.i64.bits 65535 := rfl
  have hle : ((BitVec.ofInt IntKind.i64.bits x).toNat &&& 65535) ≤ 65535 := Nat.and_le_right
  refine ⟨(BitVec.ofInt IntKind.i64.bits x).toNat &&& 65535, ?_, hle⟩
  have h2 : (BitVec.ofNat IntKind.i64.bits 65535).toNat = 65535 := rfl
  simp only [bits, hb, BitVec.toNat_and, h2]
  rw [IntKind.wrap_i64]
  omega

end Go.Proofs.YtfelacpaaialfaaDoor

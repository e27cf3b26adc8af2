/-
  Plain facts: what pack's In takes is what the document's takes, step by step.
-/
import Derived.Test.YtfelacpaaialfaaDoorRefDig
namespace Go.Proofs.YtfelacpaaialfaaDoor
set_option linter.unusedVariables false

/-- What is left of both is one. -/
def Rel (l L : List UInt8) (o : Nat) (b : Bool) : Prop := (b = false → l = L.drop o) ∧ (b = true → l = []) ∧ o ≤ L.length

theorem numF_nil (most : Nat) : numF most [] = (0, [], true) := by unfold numF; rw [if_pos (.inl rfl)]

theorem rel_num {l L : List UInt8} {o : Nat} {b : Bool} (h : Rel l L o b) (most : Nat) :
    (numF most l).1 = (rnF most L o b).1 ∧ (b || (numF most l).2.2) = (rnF most L o b).2.2 ∧ Rel (numF most l).2.1 L (rnF most L o b).2.1 (rnF most L o b).2.2 := by
  obtain ⟨h1, h2, h3⟩ := h
  cases b with
  | true =>
    rw [h2 rfl, numF_nil]
    unfold rnF
    rw [if_pos (.inl rfl)]
    exact ⟨rfl, rfl, (fun h => by cases h), fun _ => rfl, h3⟩
  | false =>
    rw [h1 rfl]
    have hle := (lead_le (L.drop o)).1
    rw [List.length_drop] at hle
    unfold rnF
    by_cases hb : (lead (L.drop o)).2 = 0 ∨ most < (lead (L.drop o)).1
    · have : numF most (L.drop o) = (0, [], true) := by unfold numF; rw [if_pos hb]
      rw [this, if_pos (.inr rfl)]
      exact ⟨rfl, rfl, (fun h => by cases h), fun _ => rfl, h3⟩
    · have : numF most (L.drop o) = ((lead (L.drop o)).1, (L.drop o).drop (lead (L.drop o)).2, false) := by unfold numF; rw [if_neg hb]
      rw [this, if_neg (by simp)]
      refine ⟨rfl, rfl, fun _ => ?_, (fun h => by cases h), by simp only; omega⟩
      simp only [List.drop_drop, List.length_drop]
      congr 1
      omega

theorem rel_cut {l L : List UInt8} {o : Nat} {b : Bool} (h : Rel l L o b) (n : Nat) (hn : b = true → n = 0 ∨ 0 < n) :
    (cutF n l).1 = (takeF n L o b).1 ∧ (b || (cutF n l).2.2) = (takeF n L o b).2.2 ∧ Rel (cutF n l).2.1 L (takeF n L o b).2.1 (takeF n L o b).2.2 := by
  obtain ⟨h1, h2, h3⟩ := h
  cases b with
  | true =>
    rw [h2 rfl]
    have ht : takeF n L o true = ([], o, true) := by unfold takeF; rw [if_pos (.inl rfl)]
    rw [ht]
    unfold cutF
    split
    · exact ⟨rfl, rfl, (fun h => by cases h), fun _ => rfl, h3⟩
    · exact ⟨by simp, rfl, (fun h => by cases h), fun _ => by simp, h3⟩
  | false =>
    rw [h1 rfl]
    unfold takeF cutF
    rw [List.length_drop]
    by_cases hc : L.length - o < n
    · rw [if_pos hc, if_pos (.inr hc)]
      exact ⟨rfl, rfl, (fun h => by cases h), fun _ => rfl, h3⟩
    · rw [if_neg hc, if_neg (by simp; omega)]
      refine ⟨rfl, rfl, fun _ => ?_, (fun h => by cases h), by simp only; omega⟩
      simp only [List.drop_drop]

theorem rel_bytes {l L : List UInt8} {o : Nat} {b : Bool} (h : Rel l L o b) (most : Int) :
    (bytesF most l).1 = (rbF most L o b).1 ∧ (b || (bytesF most l).2.2) = (rbF most L o b).2.2 ∧ Rel (bytesF most l).2.1 L (rbF most L o b).2.1 (rbF most L o b).2.2 := by
  unfold bytesF rbF
  by_cases hm : most < 0
  · rw [if_pos hm, if_pos hm]
    exact ⟨rfl, by simp, (fun h => by cases h), fun _ => rfl, h.2.2⟩
  · rw [if_neg hm, if_neg hm]
    obtain ⟨e1, e2, e3⟩ := rel_num h most.toNat
    obtain ⟨f1, f2, f3⟩ := rel_cut e3 (rnF most.toNat L o b).1 (fun _ => by omega)
    rw [e1]
    refine ⟨f1, ?_, f3⟩
    rw [← f2, ← e2, Bool.or_assoc]

theorem rel_dig {l L : List UInt8} {o : Nat} {b : Bool} (h : Rel l L o b) : digF l = rdF L o b := by
  obtain ⟨f1, f2, f3⟩ := rel_cut h 32 (fun _ => by omega)
  unfold rdF
  rw [← f1]
  unfold digF cutF
  split
  · simp [zeros]
  · rename_i hl
    have h32 : (l.take 32).length = 32 := by rw [List.length_take]; omega
    simp only [h32]
    rw [List.drop_of_length_le (by simp [zeros]), List.append_nil]

theorem rel_done {l L : List UInt8} {o : Nat} {b : Bool} (h : Rel l L o b) : doneF (L.drop o) b = doneF l b := by
  cases b with
  | true => simp [doneF]
  | false => rw [h.1 rfl]

end Go.Proofs.YtfelacpaaialfaaDoor

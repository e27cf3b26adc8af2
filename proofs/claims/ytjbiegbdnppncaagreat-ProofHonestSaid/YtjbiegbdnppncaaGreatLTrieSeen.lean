/-
  The rows of items on the way to a key. No program.
-/
import Derived.Test.YtjbiegbdnppncaaGreatK13
import Derived.Test.YtjbiegbdnppncaaGreatK14
namespace Go.Proofs.YtjbiegbdnppncaaGreat
open Go.RowKit
set_option linter.unusedVariables false
set_option linter.unusedSimpArgs false

/-- The rows on the way to a key, and where their nodes begin. -/
def wayF (key : List UInt8) : Nat → List It → Nat → List (List It × Nat)
  | 0, _, _ => []
  | f + 1, l, t => if l = [] then [] else (l, t) :: (if l.length = 1 ∨ restF (l.headD ([], [])).1 t (sharedF l t) ≠ restF key t (sharedF l t) then [] else wayF key f (subF l (sharedF l t) (nibF key (sharedF l t))) (sharedF l t + 1))
theorem wayF_none (key : List UInt8) (f t : Nat) : wayF key f [] t = [] := by
  cases f with
  | zero => rfl
  | succ f => unfold wayF; rw [if_pos rfl]
theorem proveF_way (key : List UInt8) : ∀ (f : Nat) (l : List It) (t : Nat), proveF key f l t = (wayF key f l t).map fun p => nodeF 65 p.1 p.2
  | 0, _, _ => rfl
  | f + 1, l, t => by
    unfold proveF wayF
    split
    · rfl
    · rw [List.map_cons]
      congr 1
      split
      · rfl
      · exact proveF_way key f _ _
/-- Items that a row's key leaves at a place, or before it: none is the key's. -/
theorem rest_off {key : List UInt8} {l : List It} {t e : Nat} (hag : ∀ i, i < e → agreeF l i = true) (hne : restF (l.headD ([], [])).1 t e ≠ restF key t e) : ∀ x ∈ l, x.1 ≠ key := by
  intro x hx e2
  apply hne
  cases l with
  | nil => cases hx
  | cons y l =>
    rw [← e2]
    exact restF_congr fun i _ h => agreeF_iff.1 (hag i h) y (by simp) x hx
/-- What the last row on the way tells. -/
def endF (key : List UInt8) (p : Option (List It × Nat)) : Option (List UInt8) :=
  match p with
  | some ([x], _) => if x.1 = key then some x.2 else none
  | _ => none
theorem find_way (key : List UInt8) : ∀ (f : Nat) (l : List It) (t : Nat), Good l → (∀ i, i < t → agreeF l i = true) → t ≤ 64 → 65 - t ≤ f → findF l key = endF key (wayF key f l t).getLast?
  | 0, l, t, _, _, ht, hf => by omega
  | f + 1, l, t, hg, hag, ht, hf => by
    unfold wayF
    by_cases hl : l = []
    · subst hl
      rw [if_pos rfl]
      rfl
    · rw [if_neg hl]
      by_cases h1 : l.length = 1
      · rw [if_pos (.inl h1)]
        obtain ⟨x, rfl⟩ := List.length_eq_one_iff.1 h1
        show _ = endF key (some ([x], t))
        unfold endF findF
        by_cases e : x.1 = key
        · simp [e]
        · simp [e]
      · have h2 : 2 ≤ l.length := by
          have := List.length_pos_iff.2 hl
          omega
        have hs := hg.split h2 ht hag
        have hts := sharedF_ge l t
        have hshag : ∀ i, i < sharedF l t → agreeF l i = true := shared_agree hag
        have hlast : endF key (some (l, t)) = none := by
          match l, h2 with
          | _ :: _ :: _, _ => rfl
        by_cases hr : restF (l.headD ([], [])).1 t (sharedF l t) = restF key t (sharedF l t)
        · rw [if_neg (by rintro (h | h); exact h1 h; exact h hr)]
          rw [← findF_sub l key (sharedF l t), find_way key f _ _ (hg.part _ _) (part_agree hshag) (by omega) (by omega)]
          rw [List.getLast?_cons]
          cases hw : (wayF key f (subF l (sharedF l t) (nibF key (sharedF l t))) (sharedF l t + 1)).getLast? with
          | none => rw [Option.getD_none, hlast]; rfl
          | some p => rfl
        · rw [if_pos (.inr hr), List.getLast?_singleton, hlast, findF_none]
          exact rest_off hshag hr
/-- A row on the way is of items that begin as the key does. -/
theorem way_key (key : List UInt8) : ∀ (f : Nat) (l : List It) (t : Nat), (∀ i, i < t → agreeF l i = true) → (∀ x ∈ l, ∀ i, i < t → nibF x.1 i = nibF key i) → ∀ p ∈ wayF key f l t, p.1 ≠ [] ∧ (∀ x ∈ p.1, x ∈ l) ∧ t ≤ p.2 ∧ (∀ x ∈ p.1, ∀ i, i < p.2 → nibF x.1 i = nibF key i)
  | 0, _, _, _, _ => fun p hp => by cases hp
  | f + 1, l, t, hag, hkey => fun p hp => by
    unfold wayF at hp
    by_cases hl : l = []
    · rw [if_pos hl] at hp; cases hp
    · rw [if_neg hl] at hp
      rcases List.mem_cons.1 hp with rfl | hp
      · exact ⟨hl, fun x hx => hx, Nat.le_refl _, hkey⟩
      · split at hp
        · cases hp
        · rename_i hc
          have hr : restF (l.headD ([], [])).1 t (sharedF l t) = restF key t (sharedF l t) := by
            by_cases e : restF (l.headD ([], [])).1 t (sharedF l t) = restF key t (sharedF l t)
            · exact e
            · exact absurd (.inr e) hc
          have hts := sharedF_ge l t
          have hshag : ∀ i, i < sharedF l t → agreeF l i = true := shared_agree hag
          obtain ⟨q1, q2, q3, q4⟩ := way_key key f _ _ (part_agree hshag) (fun x hx i hi => by
            obtain ⟨hx1, hx2⟩ := mem_subF.1 hx
            by_cases h1 : i = sharedF l t
            · rw [h1, hx2]
            · by_cases h3 : i < t
              · exact hkey x hx1 i h3
              · cases l with
                | nil => cases hx1
                | cons y l =>
                  have h4 := agreeF_iff.1 (hshag i (by omega)) x hx1 y (by simp)
                  have h5 := restF_getT y.1 (t := t) (u := i) (v := sharedF (y :: l) t) (by omega) (by omega)
                  have h6 := restF_getT key (t := t) (u := i) (v := sharedF (y :: l) t) (by omega) (by omega)
                  rw [h4, ← h5, ← h6]
                  rw [show (y :: l).headD ([], []) = y from rfl] at hr
                  rw [hr]) p hp
          exact ⟨q1, fun x hx => (mem_subF.1 (q2 x hx)).1, by omega, q4⟩

end Go.Proofs.YtjbiegbdnppncaaGreat

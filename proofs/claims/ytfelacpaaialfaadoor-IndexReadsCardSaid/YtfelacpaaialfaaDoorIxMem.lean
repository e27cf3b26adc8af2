/-
  The index's map.
-/
import Derived.Test.YtfelacpaaialfaaDoorIxKey
namespace Go.Proofs.YtfelacpaaialfaaDoor
open Go.RowKit
set_option linter.unusedVariables false
set_option linter.unusedSimpArgs false

noncomputable def mkR {α : Type} (V : α → Value) (D : α → DataW Unit) (v : Value) : Option (DataW Unit × List MemPlace) :=
  open Classical in if h : ∃ a, v = V a then some (D (Classical.choose h), []) else none
theorem mkR_mk {α : Type} {V : α → Value} {D : α → DataW Unit} (hV : ∀ a b, V a = V b → a = b) (a : α) : mkR V D (V a) = some (D a, []) := by
  have h : ∃ b, V a = V b := ⟨a, rfl⟩
  unfold mkR
  rw [dif_pos h]
  rw [hV _ _ (Classical.choose_spec h).symm]
theorem mkR_inv {α : Type} {V : α → Value} {D : α → DataW Unit} (hD : ∀ a b, D a = D b → a = b) {v : Value} {a : α} {ps : List MemPlace} (h : mkR V D v = some (D a, ps)) : v = V a := by
  unfold mkR at h
  split at h
  · rename_i hx
    simp only [Option.some.injEq, Prod.mk.injEq] at h
    have hs := Classical.choose_spec hx
    rw [hD _ _ h.1] at hs
    exact hs
  · cases h


/-- A standing: a bin and one, a slot, the uses. -/
def stV (p : Nat × Nat × Nat) : Value := .agg (stC p.1 p.2.1 p.2.2).toArray
def stDx (p : Nat × Nat × Nat) : DataW Unit := .agg [.lit (.int .i64 ((p.1 : Int) - 1)), .lit (.int .i64 (p.2.1 : Nat)), .lit (.int .i64 (p.2.2 : Nat))]
theorem stV_inj (a b : Nat × Nat × Nat) (h : stV a = stV b) : a = b := by
  obtain ⟨a1, a2, a3⟩ := a
  obtain ⟨b1, b2, b3⟩ := b
  unfold stV stC at h
  simp only [Value.agg.injEq, Array.mk.injEq, List.cons.injEq, Value.int.injEq, true_and, and_true] at h
  obtain ⟨h1, h2, h3⟩ := h
  rw [show a1 = b1 by omega, show a2 = b2 by omega, show a3 = b3 by omega]
theorem stDx_inj (a b : Nat × Nat × Nat) (h : stDx a = stDx b) : a = b := by
  obtain ⟨a1, a2, a3⟩ := a
  obtain ⟨b1, b2, b3⟩ := b
  unfold stDx at h
  simp only [DataW.agg.injEq, List.cons.injEq, DataW.lit.injEq, Lit.int.injEq, true_and, and_true] at h
  obtain ⟨h1, h2, h3⟩ := h
  rw [show a1 = b1 by omega, show a2 = b2 by omega, show a3 = b3 by omega]
noncomputable def stR := mkR stV stDx
theorem stR_mk (p : Nat × Nat × Nat) : stR (stV p) = some (stDx p, []) := mkR_mk stV_inj p
theorem stR_inv {v : Value} {p : Nat × Nat × Nat} {ps : List MemPlace} (h : stR v = some (stDx p, ps)) : v = stV p := mkR_inv stDx_inj h
def litX (x : Ix) : Lit × DataW Unit := (.string x.d, stDx (x.b, x.s, x.u))
def ixD (L : List Ix) : DataW Unit := .map (L.map litX)
theorem ltD_before : ∀ a b : List UInt8, ltD a b = bytesBefore a b
  | [], [] => rfl
  | [], _ :: _ => rfl
  | _ :: _, [] => rfl
  | a :: x, b :: y => by
    unfold ltD bytesBefore
    rw [ltD_before x y]
    by_cases h1 : a.toNat < b.toNat
    · rw [if_pos h1]
      have : a < b := UInt8.lt_iff_toNat_lt.2 h1
      simp [this]
    · rw [if_neg h1]
      have n1 : ¬ a < b := fun h => h1 (UInt8.lt_iff_toNat_lt.1 h)
      by_cases h2 : b.toNat < a.toNat
      · rw [if_pos h2]
        have : a ≠ b := fun e => by rw [e] at h2; omega
        simp [n1, this]
      · rw [if_neg h2]
        have e : a = b := UInt8.toNat_inj.1 (by omega)
        subst e
        simp [n1]
theorem ixD_ins (x : Ix) : ∀ L : List Ix, (∀ y ∈ L, ltD y.d x.d = true) → DataW.insert (litX x) (L.map litX) = (L ++ [x]).map litX
  | [], _ => rfl
  | y :: r, h => by
    rw [List.map_cons]
    unfold DataW.insert
    have e : (litX x).1.before (litX y).1 = bytesBefore x.d y.d := rfl
    rw [e, ← ltD_before, ltD_asymm (h y List.mem_cons_self)]
    simp [ixD_ins x r fun z hz => h z (List.mem_cons_of_mem _ hz)]
theorem ixD_snoc {L : List Ix} {x : Ix} (h : ∀ y ∈ L, ltD y.d x.d = true) : (ixD L).put (.string x.d) (stDx (x.b, x.s, x.u)) = ixD (L ++ [x]) := by
  unfold ixD DataW.put
  dsimp only
  have hf : (L.map litX).filter (fun p => !p.1.sameKey (.string x.d)) = L.map litX := by
    refine List.filter_eq_self.2 fun p hp => ?_
    obtain ⟨y, hy, rfl⟩ := List.mem_map.1 hp
    have hne : y.d ≠ x.d := fun e => by have := h y hy; rw [e, ltD_irrefl] at this; cases this
    simp [litX, Lit.sameKey, hne]
  rw [hf]
  show DataW.map (DataW.insert (litX x) (L.map litX)) = _
  rw [ixD_ins x L h]

end Go.Proofs.YtfelacpaaialfaaDoor

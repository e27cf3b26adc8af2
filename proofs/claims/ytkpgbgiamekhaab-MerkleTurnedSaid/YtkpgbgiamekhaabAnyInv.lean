/-
  A region that draws its order, by an invariant over what has been done: one proof for each operation, no order is walked. No program.
-/
import Derived.Orders
import Derived.RegionTactic
import Derived.OrdersHeld
namespace Go.Proofs.Ytkpgbgiamekhaab
set_option linter.unusedVariables false

/-- What waits waits for what stands ahead of it. -/
def fwdB (ops : Array Oper) : Bool := (List.range ops.size).all fun i => ((ops[i]?).map (·.after.all fun e => !Region.binds .any e || decide (e.on < i))).getD true

theorem all_listed {ops : Array Oper} {listed : Array Bool} (hf : fwdB ops = true) (hsz : listed.size = ops.size) (hr : Region.ready .any ops listed = []) : ∀ i, i < ops.size → listed.getD i false = true := by
  intro i
  induction i using Nat.strongRecOn with
  | ind i ih =>
    intro hi
    cases hl : listed.getD i false with
    | true => rfl
    | false =>
      exfalso
      have h1 : i ∈ Region.ready .any ops listed := by
        unfold Region.ready
        rw [List.mem_filter]
        refine ⟨List.mem_range.2 hi, ?_⟩
        have hg : listed.getD i true = false := by
          rw [Array.getD_eq_getD_getElem?, Array.getElem?_eq_getElem (by omega)] at hl ⊢
          exact hl
        have ho : ops[i]? = some ops[i] := Array.getElem?_eq_getElem hi
        rw [hg, ho]
        simp only [Option.map_some, Option.getD_some, Bool.not_false, Bool.true_and]
        have hfi := (List.all_eq_true.1 hf) i (List.mem_range.2 hi)
        rw [ho] at hfi
        simp only [Option.map_some, Option.getD_some] at hfi
        rw [Array.all_eq_true_iff_forall_mem] at hfi ⊢
        intro e he
        have h2 := hfi e he
        cases hb : Region.binds .any e with
        | false => rfl
        | true =>
          rw [hb] at h2
          have hlt : e.on < i := by simpa using h2
          simp [ih e.on hlt (by omega)]
      rw [hr] at h1
      cases h1

theorem wpAny_inv {P : Program} {ops : Array Oper} {Q : Exit → Act → World → Prop} (I : (Nat → Prop) → Act → World → Prop) (hf : fwdB ops = true)
    (hstep : ∀ (D : Nat → Prop) (a : Act) (w : World) (i : Nat) (o : Oper), I D a w → ops[i]? = some o → ¬ D i → (∀ e ∈ o.after, Region.binds .any e = true → D e.on) →
      ∀ K : Act → World → Prop, (∀ a' w', I (fun j => D j ∨ j = i) a' w' → K a' w') → if Region.wanted o (yielded ops a.tmps) = true then Oper.wp P o a w K Q else K (a.put o.dst undef) w)
    (hdone : ∀ (D : Nat → Prop) (a : Act) (w : World), I D a w → (∀ i, i < ops.size → D i) → Q .normal a w)
    (hext : ∀ (D D' : Nat → Prop) (a : Act) (w : World), I D a w → (∀ i, D i ↔ D' i) → I D' a w) :
    ∀ (fuel : Nat) (R : List Nat) (listed : Array Bool) (a : Act) (w : World), listed.size = ops.size → R.length ≤ fuel → (∀ i, i < ops.size → listed.getD i false = false → i ∈ R) → I (fun i => listed.getD i false = true) a w → wpAny P .any ops Q fuel listed a w
  | 0, R, listed, a, w, hsz, hR, hun, hI => by
    obtain rfl : R = [] := List.eq_nil_of_length_eq_zero (by omega)
    have hall : ∀ i, i < ops.size → listed.getD i false = true := fun i hi => by
      cases hl : listed.getD i false with
      | true => rfl
      | false => exact absurd (hun i hi hl) (by simp)
    refine ⟨?_, hdone _ a w hI hall⟩
    unfold Region.ready
    rw [List.filter_eq_nil_iff]
    intro i hi
    have h1 := hall i (List.mem_range.1 hi)
    have h2 : listed.getD i true = true := by
      rw [Array.getD_eq_getD_getElem?, Array.getElem?_eq_getElem (by have := List.mem_range.1 hi; omega)] at h1 ⊢
      exact h1
    rw [h2]
    simp
  | fuel + 1, R, listed, a, w, hsz, hR, hun, hI => by
    refine ⟨fun hr => hdone _ a w hI (all_listed hf hsz hr), fun i hi => ?_⟩
    have hi' := hi
    unfold Region.ready at hi'
    rw [List.mem_filter] at hi'
    obtain ⟨hlt, hcond⟩ := hi'
    have hlt := List.mem_range.1 hlt
    have ho : ops[i]? = some ops[i] := Array.getElem?_eq_getElem hlt
    rw [ho] at hcond
    simp only [Option.map_some, Option.getD_some, Bool.and_eq_true, Bool.not_eq_true'] at hcond
    have hli : listed.getD i false = false := by
      rw [Array.getD_eq_getD_getElem?, Array.getElem?_eq_getElem (by omega)]
      have := hcond.1
      rw [Array.getD_eq_getD_getElem?, Array.getElem?_eq_getElem (by omega)] at this
      exact this
    have hset : ∀ j, (listed.setIfInBounds i true).getD j false = true ↔ (listed.getD j false = true ∨ j = i) := fun j => by
      rw [Array.getD_eq_getD_getElem?, Array.getD_eq_getD_getElem?, Array.getElem?_setIfInBounds]
      by_cases hj : i = j
      · subst hj
        simp [hsz, hlt]
      · rw [if_neg hj]
        simp [Ne.symm hj]
    refine wpOp_step ho fun K hK => ?_
    refine hstep _ a w i _ hI ho (by rw [hli]; simp) (fun e he hb => ?_) K (fun a' w' hI' => hK _ _ ?_)
    · have := (Array.all_eq_true_iff_forall_mem.1 hcond.2) e he
      rw [hb] at this
      simpa using this
    · refine wpAny_inv I hf hstep hdone hext fuel (R.erase i) _ a' w' (by simpa using hsz) ?_ ?_ (hext _ _ _ _ hI' fun j => (hset j).symm)
      · rw [List.length_erase_of_mem (hun i hlt hli)]; omega
      · intro j hj hlj
        have hne : j ≠ i := by
          rintro rfl
          have := (hset j).2 (.inr rfl)
          rw [this] at hlj; cases hlj
        refine (List.mem_erase_of_ne hne).2 (hun j hj ?_)
        cases hl : listed.getD j false with
        | false => rfl
        | true =>
          have := (hset j).2 (.inl hl)
          rw [this] at hlj; cases hlj

theorem wp_region_inv {P : Program} {id : Nat} {ops : Array Oper} {Q : Exit → Act → World → Prop} {a : Act} {w : World} (I : (Nat → Prop) → Act → World → Prop) (hm : P.follows .mixedOrders = true) (hf : fwdB ops = true)
    (h0 : I (fun _ => False) a w.drew)
    (hstep : ∀ (D : Nat → Prop) (a : Act) (w : World) (i : Nat) (o : Oper), I D a w → ops[i]? = some o → ¬ D i → (∀ e ∈ o.after, Region.binds .any e = true → D e.on) →
      ∀ K : Act → World → Prop, (∀ a' w', I (fun j => D j ∨ j = i) a' w' → K a' w') → if Region.wanted o (yielded ops a.tmps) = true then Oper.wp P o a w K Q else K (a.put o.dst undef) w)
    (hdone : ∀ (D : Nat → Prop) (a : Act) (w : World), I D a w → (∀ i, i < ops.size → D i) → Q .normal a w)
    (hext : ∀ (D D' : Nat → Prop) (a : Act) (w : World), I D a w → (∀ i, D i ↔ D' i) → I D' a w) : (Code.region id ops true).wp P Q a w := by
  refine wp_region_any hm ?_
  refine wpAny_inv I hf hstep hdone hext ops.size (List.range ops.size) (Array.replicate ops.size false) a w.drew (by simp) (by simp) (fun i hi _ => List.mem_range.2 hi) (hext _ _ _ _ h0 fun i => ?_)
  rw [Array.getD_eq_getD_getElem?, Array.getElem?_replicate]
  split <;> simp

end Go.Proofs.Ytkpgbgiamekhaab

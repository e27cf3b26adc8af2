/-
  Items compared.
-/
import Derived.Test.YtfelacpaaialfaaDoorIxMay
namespace Go.Proofs.YtfelacpaaialfaaDoor
open Go.RowKit
set_option linter.unusedVariables false
set_option linter.unusedSimpArgs false

set_option maxRecDepth 100000 in
theorem dig_eqv_at (e : Nat) (X Y : List UInt8) (hX : X.length = 32) (hY : Y.length = 32) (w : World) :
    (Op.equalIn (e + 1 + 1) 39 (.agg (Lib.byteCells X).toArray) (.agg (Lib.byteCells Y).toArray)).run Tryd.prog w = .ok (decide (X = Y)) w := by
  have hi : Tryd.prog.info? 5 = some ((Tryd.prog.info? 5).get (by kernel_rfl)) := (Option.some_get _).symm
  have h1 := run_equalIn_array (P := Tryd.prog) (w := w) (e + 1) (Lib.byteCells X).toArray (Lib.byteCells Y).toArray Tryd.underlying39 hi
  have hc : Tryd.prog.cellsOf 5 = 1 := by kernel_rfl
  rw [hc, eqItems_bytes e X Y w (List.range 32) (fun i hi => by have := List.mem_range.1 hi; omega), all_getD hX hY] at h1
  exact h1
theorem it_fields : (Tryd.prog.fieldsOf 61).toList.map (fun f => (f.name == "_", f.type, f.offset)) = [(false, 39, 0), (false, 48, 32), (false, 3, 34)] := by kernel_rfl
theorem it_held : Tryd.prog.stoodInHeld 61 = false := by kernel_rfl
theorem it_under : Tryd.prog.underlying 61 = some (.struct (Tryd.prog.fieldsOf 61)) := by kernel_rfl
theorem itInfo : (Tryd.prog.info? 61).map (·.size) = some 35 := by kernel_rfl
theorem itGuard : Tryd.prog.eqGuardType Tryd.prog.depth 61 = false := by kernel_rfl
/-- An item's cells. -/
def itC (x : Ix) : List Value := Lib.byteCells x.d ++ stC x.b x.s x.u
theorem itC_length {x : Ix} (h : x.d.length = 32) : (itC x).length = 35 := by
  unfold itC
  rw [List.length_append, Lib.byteCells_length, h]
  rfl
theorem it_dig_part {x : Ix} (h : x.d.length = 32) (w : World) : (part 39 (itC x).toArray 0).run Tryd.prog w = .ok (.agg (Lib.byteCells x.d).toArray) w := by
  have hs : (Tryd.prog.info? 39).map (·.size) = some 32 := digInfo
  have hu := Tryd.underlying39
  have hl : (Lib.byteCells x.d).length = 32 := by rw [Lib.byteCells_length, h]
  cases hq : Tryd.prog.info? 39 with
  | none => simp [hq] at hs
  | some i0 =>
    have h1 : i0.size = 32 := by simpa [hq] using hs
    have e : List.take 32 (itC x) = Lib.byteCells x.d := by
      unfold itC
      rw [List.take_append_of_le_length (Nat.le_of_eq hl.symm), List.take_of_length_le (Nat.le_of_eq hl)]
    simp [part, isAgg, run_underlying hu, sizeOf, typeInfo, hq, h1, e]
theorem it_pl_part {x : Ix} (h : x.d.length = 32) (w : World) : (part 48 (itC x).toArray 32).run Tryd.prog w = .ok (.agg (plC ((x.b : Int) - 1) (x.s : Nat)).toArray) w := by
  have hs : (Tryd.prog.info? 48).map (·.size) = some 2 := plInfo
  have hu := Tryd.underlying48
  have hl : (Lib.byteCells x.d).length = 32 := by rw [Lib.byteCells_length, h]
  cases hq : Tryd.prog.info? 48 with
  | none => simp [hq] at hs
  | some i0 =>
    have h1 : i0.size = 2 := by simpa [hq] using hs
    have e : List.take 2 (List.drop 32 (itC x)) = plC ((x.b : Int) - 1) (x.s : Nat) := by
      unfold itC
      rw [← hl, List.drop_left]
      rfl
    simp [part, isAgg, run_underlying hu, sizeOf, typeInfo, hq, h1, e]
theorem it_int_part {x : Ix} (h : x.d.length = 32) (w : World) : (part 3 (itC x).toArray 34).run Tryd.prog w = .ok (.int .i64 (x.u : Nat)) w := by
  have hu := Tryd.underlying3
  have hl : (Lib.byteCells x.d).length = 32 := by rw [Lib.byteCells_length, h]
  have e : (itC x)[34]? = some (.int .i64 (x.u : Nat)) := by
    unfold itC
    rw [List.getElem?_append_right (by omega), hl]
    rfl
  simp [part, isAgg, run_underlying hu, e]
theorem it_list : ∃ f g h : Field, (Tryd.prog.fieldsOf 61).toList = [f, g, h] ∧ (f.name ≠ "_" ∧ f.type = 39 ∧ f.offset = 0) ∧ (g.name ≠ "_" ∧ g.type = 48 ∧ g.offset = 32) ∧ (h.name ≠ "_" ∧ h.type = 3 ∧ h.offset = 34) := by
  have h := it_fields
  revert h
  generalize (Tryd.prog.fieldsOf 61).toList = l
  intro h
  cases l with
  | nil => simp at h
  | cons f l => cases l with
    | nil => simp at h
    | cons g l => cases l with
      | nil => simp at h
      | cons k l => cases l with
        | cons _ _ => simp at h
        | nil =>
          simp only [List.map_cons, List.map_nil, List.cons.injEq, Prod.mk.injEq, beq_eq_false_iff_ne, and_true] at h
          exact ⟨f, g, k, rfl, h.1, h.2.1, h.2.2⟩
/-- Two items are one if all their parts are. -/
theorem item_eqv (x y : Ix) (hx : x.d.length = 32) (hy : y.d.length = 32) (XL YL : List Value) (hX : XL = itC x) (hY : YL = itC y) (w : World) :
    (Op.equalIn 10000 61 (.agg XL.toArray) (.agg YL.toArray)).run Tryd.prog w = .ok (decide (x = y)) w := by
  subst hX hY
  obtain ⟨f, g, h, hl, ⟨f1, f2, f3⟩, ⟨g1, g2, g3⟩, ⟨h1, h2, h3⟩⟩ := it_list
  have e0 : ∀ (X Y : Value), Op.equalIn 10000 61 X Y = Op.equalIn (9998 + 1 + 1) 61 X Y := fun _ _ => rfl
  rw [e0, run_equalIn_struct w (9998 + 1) 61 _ _ it_under it_held, hl]
  have p1 := it_dig_part hx w
  have p2 := it_dig_part hy w
  have p3 := it_pl_part hx w
  have p4 := it_pl_part hy w
  have p5 := it_int_part hx w
  have p6 := it_int_part hy w
  have q1 : (Op.equalIn (9998 + 1) 39 (.agg (Lib.byteCells x.d).toArray) (.agg (Lib.byteCells y.d).toArray)).run Tryd.prog w = .ok (decide (x.d = y.d)) w := dig_eqv_at 9997 x.d y.d hx hy w
  have q2 := place_eqv 9997 ((x.b : Int) - 1) (x.s : Nat) ((y.b : Int) - 1) (y.s : Nat) w
  have q3 := int_eqv_same (d := 9998) (a := (x.u : Int)) (b := (y.u : Int)) (w := w)
  by_cases c1 : x.d = y.d
  · rw [decide_eq_true c1] at q1
    rw [eqFieldsN_yes f1 (by rw [f2, f3]; exact p1) (by rw [f2, f3]; exact p2) (by rw [f2]; exact q1)]
    by_cases c2 : x.b = y.b ∧ x.s = y.s
    · rw [show (decide ((x.b : Int) - 1 = (y.b : Int) - 1) && decide (((x.s : Nat) : Int) = (y.s : Nat))) = true by simp [c2.1, c2.2]] at q2
      rw [eqFieldsN_yes g1 (by rw [g2, g3]; exact p3) (by rw [g2, g3]; exact p4) (by rw [g2]; exact q2)]
      by_cases c3 : x.u = y.u
      · rw [decide_eq_true (show (x.u : Int) = (y.u : Int) by omega)] at q3
        rw [eqFieldsN_yes h1 (by rw [h2, h3]; exact p5) (by rw [h2, h3]; exact p6) (by rw [h2]; exact q3), eqFieldsN_nil]
        rw [decide_eq_true (show x = y by obtain ⟨a1, a2, a3, a4⟩ := x; obtain ⟨b1, b2, b3, b4⟩ := y; simp only at c1 c2 c3; rw [c1, c2.1, c2.2, c3])]
      · rw [decide_eq_false (show ¬ (x.u : Int) = (y.u : Int) by omega)] at q3
        rw [eqFieldsN_no h1 (by rw [h2, h3]; exact p5) (by rw [h2, h3]; exact p6) (by rw [h2]; exact q3)]
        rw [decide_eq_false (fun e => c3 (by rw [e]))]
    · rw [show (decide ((x.b : Int) - 1 = (y.b : Int) - 1) && decide (((x.s : Nat) : Int) = (y.s : Nat))) = false by
        rw [← Bool.not_eq_true]; intro e; simp only [Bool.and_eq_true, decide_eq_true_eq] at e; exact c2 ⟨by omega, by omega⟩] at q2
      rw [eqFieldsN_no g1 (by rw [g2, g3]; exact p3) (by rw [g2, g3]; exact p4) (by rw [g2]; exact q2)]
      rw [decide_eq_false (fun e => c2 (by rw [e]; exact ⟨rfl, rfl⟩))]
  · rw [decide_eq_false c1] at q1
    rw [eqFieldsN_no f1 (by rw [f2, f3]; exact p1) (by rw [f2, f3]; exact p2) (by rw [f2]; exact q1)]
    rw [decide_eq_false (fun e => c1 (by rw [e]))]

end Go.Proofs.YtfelacpaaialfaaDoor

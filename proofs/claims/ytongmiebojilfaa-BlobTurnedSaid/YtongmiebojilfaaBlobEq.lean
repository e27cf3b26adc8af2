/-
  Two Refs compared.
-/
import Derived.Test.YtongmiebojilfaaBlobRead
namespace Go.Proofs.Ytongmiebojilfaa
open Go.RowKit
set_option linter.unusedVariables false
set_option linter.unusedSimpArgs false

theorem ref_fields : (Try.prog.fieldsOf 36).toList.map (fun f => (f.name == "_", f.type, f.offset)) = [(false, 34, 0), (false, 3, 32), (false, 3, 33)] := by kernel_rfl
theorem ref_held : Try.prog.stoodInHeld 36 = false := by kernel_rfl
theorem ref_under : Try.prog.underlying 36 = some (.struct (Try.prog.fieldsOf 36)) := by kernel_rfl

theorem dig_part {d : List UInt8} (hd : d.length = 32) (a n : Int) (w : World) : (part 34 (refC d a n).toArray 0).run Try.prog w = .ok (.agg (Lib.byteCells d).toArray) w := by
  have hs : (Try.prog.info? 34).map (·.size) = some 32 := digInfo
  have hu := Try.underlying34
  have hl : (Lib.byteCells d).length = 32 := by rw [Lib.byteCells_length, hd]
  cases hq : Try.prog.info? 34 with
  | none => simp [hq] at hs
  | some i0 =>
    have h1 : i0.size = 32 := by simpa [hq] using hs
    have e : List.take 32 (refC d a n) = Lib.byteCells d := by
      unfold refC
      rw [← hl, List.take_left]
    simp [part, isAgg, run_underlying hu, sizeOf, typeInfo, hq, h1, e]

theorem int_part {d : List UInt8} (hd : d.length = 32) (a n : Int) (w : World) : (part 3 (refC d a n).toArray 32).run Try.prog w = .ok (.int .i64 a) w ∧ (part 3 (refC d a n).toArray 33).run Try.prog w = .ok (.int .i64 n) w := by
  have hu := Try.underlying3
  have h := refC_at hd a n
  constructor <;> simp [part, isAgg, run_underlying hu, h.1, h.2]

set_option maxRecDepth 100000 in
theorem dig_eqv_at (e : Nat) (X Y : List UInt8) (hX : X.length = 32) (hY : Y.length = 32) (w : World) :
    (Op.equalIn (e + 1 + 1) 34 (.agg (Lib.byteCells X).toArray) (.agg (Lib.byteCells Y).toArray)).run Try.prog w = .ok (decide (X = Y)) w := by
  have hi : Try.prog.info? 5 = some ((Try.prog.info? 5).get (by kernel_rfl)) := (Option.some_get _).symm
  have h1 := run_equalIn_array (P := Try.prog) (w := w) (e + 1) (Lib.byteCells X).toArray (Lib.byteCells Y).toArray Try.underlying34 hi
  have hc : Try.prog.cellsOf 5 = 1 := by kernel_rfl
  rw [hc, eqItems_bytesD e X Y w (List.range 32) (fun i hi => by have := List.mem_range.1 hi; omega), all_getDD hX hY] at h1
  exact h1

theorem ref_list : ∃ f g h : Field, (Try.prog.fieldsOf 36).toList = [f, g, h] ∧ (f.name ≠ "_" ∧ f.type = 34 ∧ f.offset = 0) ∧ (g.name ≠ "_" ∧ g.type = 3 ∧ g.offset = 32) ∧ (h.name ≠ "_" ∧ h.type = 3 ∧ h.offset = 33) := by
  have h := ref_fields
  revert h
  generalize (Try.prog.fieldsOf 36).toList = l
  intro h
  cases l with
  | nil => simp at h
  | cons f l => cases l with
    | nil => simp at h
    | cons g l => cases l with
      | nil => simp at h
      | cons k l => cases l with
        | cons _ _ => simp at h
        | nil =>
          simp only [List.map_cons, List.map_nil, List.cons.injEq, Prod.mk.injEq, beq_eq_false_iff_ne, and_true] at h
          exact ⟨f, g, k, rfl, h.1, h.2.1, h.2.2⟩

theorem eqFields_yes {P : Program} {d : Nat} {xs ys : Array Value} {f : Field} {fs : List Field} {w : World} {a b : Value} (hn : f.name ≠ "_") (ha : (part f.type xs f.offset).run P w = .ok a w) (hb : (part f.type ys f.offset).run P w = .ok b w) (he : (Op.equalIn d f.type a b).run P w = .ok true w) :
    (Op.eqFields d xs ys (f :: fs)).run P w = (Op.eqFields d xs ys fs).run P w := by
  rw [Op.eqFields, if_pos hn]
  simp only [Sem.run_bind, ha, hb, he, Result.andThen_ok, Bool.not_true, Bool.false_eq_true, if_false]
theorem eqFields_no {P : Program} {d : Nat} {xs ys : Array Value} {f : Field} {fs : List Field} {w : World} {a b : Value} (hn : f.name ≠ "_") (ha : (part f.type xs f.offset).run P w = .ok a w) (hb : (part f.type ys f.offset).run P w = .ok b w) (he : (Op.equalIn d f.type a b).run P w = .ok false w) :
    (Op.eqFields d xs ys (f :: fs)).run P w = .ok false w := by
  rw [Op.eqFields, if_pos hn]
  simp only [Sem.run_bind, ha, hb, he, Result.andThen_ok, Bool.not_false, if_true, Sem.run_pure]
theorem eqFields_nil {P : Program} {d : Nat} {xs ys : Array Value} {w : World} : (Op.eqFields d xs ys []).run P w = .ok true w := by
  rw [Op.eqFields, Sem.run_pure]

/-- '==' on two Refs, at any depth. -/
theorem ref_eqv_at (e : Nat) (X Y : List UInt8) (hX : X.length = 32) (hY : Y.length = 32) (a n b m : Int) (w : World) :
    (Op.equalIn (e + 1 + 1 + 1) 36 (.agg (refC X a n).toArray) (.agg (refC Y b m).toArray)).run Try.prog w = .ok (decide (X = Y) && (a == b) && (n == m)) w := by
  obtain ⟨f, g, h, hl, ⟨f1, f2, f3⟩, ⟨g1, g2, g3⟩, ⟨h1, h2, h3⟩⟩ := ref_list
  rw [run_equalIn_struct w (e + 1 + 1) 36 _ _ ref_under ref_held, hl]
  have p1 := dig_part hX a n w
  have p2 := dig_part hY b m w
  have p3 := int_part hX a n w
  have p4 := int_part hY b m w
  have q1 := dig_eqv_at e X Y hX hY w
  have q2 := run_equalIn_int w (e + 1) 3 .i64 .i64 a b Try.underlying3
  have q3 := run_equalIn_int w (e + 1) 3 .i64 .i64 n m Try.underlying3
  by_cases hXY : X = Y
  · rw [decide_eq_true hXY] at q1
    rw [eqFields_yes f1 (by rw [f2, f3]; exact p1) (by rw [f2, f3]; exact p2) (by rw [f2]; exact q1), decide_eq_true hXY]
    by_cases hab : a = b
    · have hab' : (a == b) = true := by simp [hab]
      rw [hab'] at q2
      rw [eqFields_yes g1 (by rw [g2, g3]; exact p3.1) (by rw [g2, g3]; exact p4.1) (by rw [g2]; exact q2), hab']
      by_cases hnm : n = m
      · have hnm' : (n == m) = true := by simp [hnm]
        rw [hnm'] at q3
        rw [eqFields_yes h1 (by rw [h2, h3]; exact p3.2) (by rw [h2, h3]; exact p4.2) (by rw [h2]; exact q3), hnm', eqFields_nil]
        rfl
      · have hnm' : (n == m) = false := by simp [hnm]
        rw [hnm'] at q3
        rw [eqFields_no h1 (by rw [h2, h3]; exact p3.2) (by rw [h2, h3]; exact p4.2) (by rw [h2]; exact q3), hnm']
        rfl
    · have hab' : (a == b) = false := by simp [hab]
      rw [hab'] at q2
      rw [eqFields_no g1 (by rw [g2, g3]; exact p3.1) (by rw [g2, g3]; exact p4.1) (by rw [g2]; exact q2), hab']
      rfl
  · rw [decide_eq_false hXY] at q1
    rw [eqFields_no f1 (by rw [f2, f3]; exact p1) (by rw [f2, f3]; exact p2) (by rw [f2]; exact q1), decide_eq_false hXY]
    rfl

theorem ref_eqv (X Y : List UInt8) (hX : X.length = 32) (hY : Y.length = 32) (a n b m : Int) (XL YL : List Value) (hXL : XL = refC X a n) (hYL : YL = refC Y b m) (w : World) :
    (Op.equalIn 10000 36 (.agg XL.toArray) (.agg YL.toArray)).run Try.prog w = .ok (decide (X = Y) && (a == b) && (n == m)) w := by
  subst hXL hYL
  exact ref_eqv_at 9997 X Y hX hY a n b m w
theorem gtR : Try.prog.eqGuardType Try.prog.depth 36 = false := by kernel_rfl

end Go.Proofs.Ytongmiebojilfaa

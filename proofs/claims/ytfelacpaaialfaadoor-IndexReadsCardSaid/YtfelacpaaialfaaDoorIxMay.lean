/-
  Places compared; what an index may have.
-/
import Derived.Test.YtfelacpaaialfaaDoorIxTake
namespace Go.Proofs.YtfelacpaaialfaaDoor
open Go.RowKit
set_option linter.unusedVariables false
set_option linter.unusedSimpArgs false

theorem eqFieldsN_yes {P : Program} {d : Nat} {xs ys : Array Value} {f : Field} {fs : List Field} {w : World} {a b : Value} (hn : f.name ≠ "_") (ha : (part f.type xs f.offset).run P w = .ok a w) (hb : (part f.type ys f.offset).run P w = .ok b w) (he : (Op.equalIn d f.type a b).run P w = .ok true w) :
    (Op.eqFields d xs ys (f :: fs)).run P w = (Op.eqFields d xs ys fs).run P w := by
  rw [Op.eqFields, if_pos hn]
  simp only [Sem.run_bind, ha, hb, he, Result.andThen_ok, Bool.not_true, Bool.false_eq_true, if_false]

theorem eqFieldsN_nil {P : Program} {d : Nat} {xs ys : Array Value} {w : World} : (Op.eqFields d xs ys []).run P w = .ok true w := by
  rw [Op.eqFields, Sem.run_pure]
/-! ### bins compared -/
theorem eqFieldsN_no {P : Program} {d : Nat} {xs ys : Array Value} {f : Field} {fs : List Field} {w : World} {a b : Value} (hn : f.name ≠ "_") (ha : (part f.type xs f.offset).run P w = .ok a w) (hb : (part f.type ys f.offset).run P w = .ok b w) (he : (Op.equalIn d f.type a b).run P w = .ok false w) :
    (Op.eqFields d xs ys (f :: fs)).run P w = .ok false w := by
  rw [Op.eqFields, if_pos hn]
  simp only [Sem.run_bind, ha, hb, he, Result.andThen_ok, Bool.not_false, if_true, Sem.run_pure]

theorem int_eqv_same {d : Nat} {a b : Int} {w : World} : (Op.equalIn (d + 1) 3 (.int .i64 a) (.int .i64 b)).run Tryd.prog w = .ok (decide (a = b)) w := by
  rw [run_equalIn_int w d 3 .i64 .i64 a b Tryd.underlying3]
  rfl

theorem pl_fields : (Tryd.prog.fieldsOf 48).toList.map (fun f => (f.name == "_", f.type, f.offset)) = [(false, 3, 0), (false, 3, 1)] := by kernel_rfl
theorem pl_held : Tryd.prog.stoodInHeld 48 = false := by kernel_rfl
theorem pl_under : Tryd.prog.underlying 48 = some (.struct (Tryd.prog.fieldsOf 48)) := by kernel_rfl
theorem plInfo : (Tryd.prog.info? 48).map (·.size) = some 2 := by kernel_rfl
theorem plGuard : Tryd.prog.eqGuardType Tryd.prog.depth 48 = false := by kernel_rfl
def plC (a b : Int) : List Value := [.int .i64 a, .int .i64 b]
theorem pl_part (a b : Int) (w : World) : (part 3 (plC a b).toArray 0).run Tryd.prog w = .ok (.int .i64 a) w ∧ (part 3 (plC a b).toArray 1).run Tryd.prog w = .ok (.int .i64 b) w := by
  have hu := Tryd.underlying3
  refine ⟨?_, ?_⟩ <;> simp [part, isAgg, run_underlying hu, plC]
theorem pl_list : ∃ f g : Field, (Tryd.prog.fieldsOf 48).toList = [f, g] ∧ (f.name ≠ "_" ∧ f.type = 3 ∧ f.offset = 0) ∧ (g.name ≠ "_" ∧ g.type = 3 ∧ g.offset = 1) := by
  have h := pl_fields
  revert h
  generalize (Tryd.prog.fieldsOf 48).toList = l
  intro h
  cases l with
  | nil => simp at h
  | cons f l => cases l with
    | nil => simp at h
    | cons g l => cases l with
      | cons _ _ => simp at h
      | nil =>
        simp only [List.map_cons, List.map_nil, List.cons.injEq, Prod.mk.injEq, beq_eq_false_iff_ne, and_true] at h
        exact ⟨f, g, rfl, h.1, h.2⟩
/-- Two places are one if both numbers are. -/
theorem place_eqv (n : Nat) (a b c d : Int) (w : World) : (Op.equalIn (n + 1 + 1) 48 (.agg (plC a b).toArray) (.agg (plC c d).toArray)).run Tryd.prog w = .ok (decide (a = c) && decide (b = d)) w := by
  obtain ⟨f, g, hl, ⟨f1, f2, f3⟩, ⟨g1, g2, g3⟩⟩ := pl_list
  rw [run_equalIn_struct w (n + 1) 48 _ _ pl_under pl_held, hl]
  have p1 := pl_part a b w
  have p2 := pl_part c d w
  have q1 := int_eqv_same (d := n) (a := a) (b := c) (w := w)
  have q2 := int_eqv_same (d := n) (a := b) (b := d) (w := w)
  by_cases c1 : a = c
  · rw [decide_eq_true c1] at q1 ⊢
    rw [eqFieldsN_yes f1 (by rw [f2, f3]; exact p1.1) (by rw [f2, f3]; exact p2.1) (by rw [f2]; exact q1)]
    by_cases c2 : b = d
    · rw [decide_eq_true c2] at q2 ⊢
      rw [eqFieldsN_yes g1 (by rw [g2, g3]; exact p1.2) (by rw [g2, g3]; exact p2.2) (by rw [g2]; exact q2), eqFieldsN_nil]
      rfl
    · rw [decide_eq_false c2] at q2 ⊢
      rw [eqFieldsN_no g1 (by rw [g2, g3]; exact p1.2) (by rw [g2, g3]; exact p2.2) (by rw [g2]; exact q2)]
      rfl
  · rw [decide_eq_false c1] at q1 ⊢
    rw [eqFieldsN_no f1 (by rw [f2, f3]; exact p1.1) (by rw [f2, f3]; exact p2.1) (by rw [f2]; exact q1)]
    rfl
theorem wpList_load_mid_if {P : Program} {ops : Array Oper} {rest : List Oper} {o : Oper} {a : Act} {w : World} {Q : Exit → Act → World → Prop} (hw : Region.wanted o (yielded ops a.tmps) = true) (ty : TypeId) (x : Operand) (ho : o.op = .load ty x)
    (b off : Nat) (hx : a.eval x = .pointer (some ⟨b, off, none⟩)) (cs : List Value) (d : TypeDesc) (hc : w.rangeAt b off cs)
    (hu : P.underlying ty = some d) (hd : d.isRow = true) (hi : (P.info? ty).map (·.size) = some cs.length)
    (h : wpList P ops Q rest (a.put o.dst (.agg cs.toArray)) w) : wpList P ops Q (o :: rest) a w :=
  wpList_step fun K hK => by
    rw [if_pos hw]
    exact wp_load_mid ty x ho b off hx cs d hc hu hd hi (hK _ _ h)
theorem wpList_atI {P : Program} {ops : Array Oper} {rest : List Oper} {o : Oper} {a : Act} {w : World} {Q : Exit → Act → World → Prop} (n : Nat) (hd : o.dst = some n) (h : wpList P ops Q (o :: rest) a w) : wpList P ops Q (o :: rest) a w := h

set_option maxHeartbeats 8000000 in
set_option maxRecDepth 100000 in
theorem imay_any (b s u : Nat) (hb : b ≤ 2147483648) (hs : s ≤ 65535) (hu : u ≤ 2147483647) (VL : List Value) (hVL : VL = stC b s u) (w : World) (hno : w.rangeAt 0 0 (plC (-1) 0)) (h0 : 0 < w.heap.size) :
    Calls Tryd.prog 20 #[.agg VL.toArray] w fun e w' => e = .returned (.bool (decide (0 < u) && (decide (0 < b) || decide (s = 0)))) ∧ Below w.heap.size w w' := by
  obtain ⟨g, hg⟩ : ∃ z, z = w.heap.size := ⟨_, rfl⟩
  obtain ⟨w0, hw0⟩ : ∃ z, z = w.alloc (.cells VL.toArray 50) := ⟨_, rfl⟩
  have hV0 : Arr w0 g 50 VL := by rw [hw0, hg]; exact Arr.new w _ _
  have hb0 : Below w.heap.size w w0 := by rw [hw0]; exact (Below.refl _ w).alloc (Nat.le_refl _) _
  have hn0 : w0.rangeAt 0 0 (plC (-1) 0) := fun j v hj => by rw [← hno j v hj]; exact World.cell?_of_block (hb0.block 0 h0)
  obtain ⟨bi, hbi⟩ : ∃ z, z = (b : Int) - 1 := ⟨_, rfl⟩
  obtain ⟨ui, hui⟩ : ∃ z, z = (u : Int) := ⟨_, rfl⟩
  have hc0 : w0.cell? ⟨g, 0, none⟩ = some (.int .i64 bi) := by rw [hV0.cell, hVL, hbi]; rfl
  have hc2 : w0.cell? ⟨g, 2, none⟩ = some (.int .i64 ui) := by rw [hV0.cell, hVL, hui]; rfl
  obtain ⟨PL, hPL⟩ : ∃ z, z = plC ((b : Int) - 1) (s : Nat) := ⟨_, rfl⟩
  obtain ⟨NL, hNL⟩ : ∃ z, z = plC (-1) 0 := ⟨_, rfl⟩
  have hp0 : w0.rangeAt g 0 PL := by
    intro j v hj
    rw [hPL] at hj
    rw [Nat.zero_add, hV0.cell, hVL]
    match j, hj with
    | 0, hj => exact hj
    | 1, hj => exact hj
    | j + 2, hj => simp [plC] at hj
  have HPi := Lib.hid (show (Tryd.prog.info? 48).map (·.size) = some PL.length by rw [hPL]; exact plInfo)
  have HNi := Lib.hid (show (Tryd.prog.info? 48).map (·.size) = some NL.length by rw [hNL]; exact plInfo)
  have HVi := Lib.hid (show (Tryd.prog.info? 50).map (·.size) = some VL.toArray.size by rw [hVL]; exact stInfo)
  have HV1 := Lib.hid (show VL.toArray.all (·.oneCell') = true by rw [hVL]; simp [stC, Value.oneCell'])
  have hcmp : ∀ w, (Op.equalIn 10000 48 (.agg PL.toArray) (.agg NL.toArray)).run Tryd.prog w = .ok (decide ((b : Int) - 1 = -1) && decide (((s : Nat) : Int) = 0)) w := fun w => by rw [hPL, hNL]; exact place_eqv 9998 _ _ _ _ w
  have hguard := plGuard
  rw [← hNL] at hn0
  have Hw0 := Lib.hid hw0
  have Hg := Lib.hid hg
  clear hVL hno hPL hNL hw0 hg
  go_enter Tryd.func20, Tryd.ntmps20
  go_upto_region 1 with fail
  rw [← Hw0.out, ← Hg.out]
  by_cases hu0 : 0 < u
  · have hd1 : decide ((0 : Int) < ui) = true := by simp; omega
    by_cases hb1 : 0 < b
    · have hd2 : decide ((0 : Int) ≤ bi) = true := by simp; omega
      have Hr := Lib.hid (show (decide (0 < u) && (decide (0 < b) || decide (s = 0))) = true by simp [hu0, hb1])
      clear hu0 hb1 hcmp hn0 hp0 hbi hui
      go_wp2_with fail
      go_ret
      exact ⟨by rw [Hr.out]; rfl, hb0⟩
    · have hd2 : decide ((0 : Int) ≤ bi) = false := by simp; omega
      obtain ⟨r, hr⟩ : ∃ z, decide (s = 0) = z := ⟨_, rfl⟩
      have Hr := Lib.hid (show (decide (0 < u) && (decide (0 < b) || decide (s = 0))) = r by simp [hu0, hb1, hr])
      have hq : (decide ((b : Int) - 1 = -1) && decide (((s : Nat) : Int) = 0)) = r := by rw [← hr, decide_eq_true (show (b : Int) - 1 = -1 by omega)]; simp
      rw [hq] at hcmp
      clear hu0 hb1 hr hq hbi hui
      go_wp2_with (first
        | ((with_reducible refine wpList_atI 13 (by rfl) ?_); refine wpList_load_mid_if (by rfl) _ _ rfl g 0 rfl PL _ hp0 Tryd.underlying48 rfl HPi.out ?_)
        | ((with_reducible refine wpList_atI 14 (by rfl) ?_); refine wpList_load_mid_if (by rfl) _ _ rfl 0 0 rfl NL _ hn0 Tryd.underlying48 rfl HNi.out ?_))
      go_ret
      exact ⟨by rw [Hr.out]; rfl, hb0⟩
  · have hd1 : decide ((0 : Int) < ui) = false := by simp; omega
    have Hr := Lib.hid (show (decide (0 < u) && (decide (0 < b) || decide (s = 0))) = false by simp [hu0])
    clear hu0 hcmp hn0 hp0 hbi hui
    go_wp2_with fail
    go_ret
    exact ⟨by rw [Hr.out]; rfl, hb0⟩

end Go.Proofs.YtfelacpaaialfaaDoor

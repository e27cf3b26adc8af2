/-
  Commits in memory; taking, whatever went wrong; comparing.
-/
import Derived.Test.YtkepfigoeaheaaaComMath
namespace Go.Proofs.Ytkepfigoeaheaaa
open Go.RowKit
set_option linter.unusedVariables false
set_option linter.unusedSimpArgs false


def I64 (a : Int) : Prop := -9223372036854775808 ≤ a ∧ a ≤ 9223372036854775807
def rC (r : RefF) : List Value := refC r.d r.a r.n
def bC (b : BinF) : List Value := binC b.x b.a b.n b.d
structure RefW (r : RefF) : Prop where
  d : r.d.length = 32
  a : I64 r.a
  n : I64 r.n
structure BinW (b : BinF) : Prop where
  x : I64 b.x
  a : I64 b.a
  n : I64 b.n
  d : b.d.length = 32
theorem rC_length {r : RefF} (h : RefW r) : (rC r).length = 34 := refC_length h.d _ _
theorem bC_length {b : BinF} (h : BinW b) : (bC b).length = 35 := binC_length _ _ _ h.d
theorem rC_one (r : RefF) : ∀ v ∈ rC r, v.oneCell' = true := refC_cell _ _ _
theorem bC_one (b : BinF) : ∀ v ∈ bC b, v.oneCell' = true := binC_cell _ _ _ _
theorem all_oneC {l : List Value} (h : ∀ v ∈ l, v.oneCell' = true) : l.toArray.all (·.oneCell') = true := by
  rw [List.all_toArray, List.all_eq_true]
  exact h
/-- Things of so many cells each, one behind the other, in blocks below B. -/
def RowOf {α : Type} (f : α → List Value) (sz : Nat) (w : World) (B : Nat) (A : Option Addr) (xs : List α) : Prop :=
  0 < xs.length → ∃ b off, A = some ⟨b, off, none⟩ ∧ b < B ∧ ∀ i x, xs[i]? = some x → w.rangeAt b (off + i * sz) (f x)
theorem RowOf.below {α : Type} {f : α → List Value} {sz : Nat} {w w' : World} {B B' : Nat} {A : Option Addr} {xs : List α} (h : RowOf f sz w B A xs) (hb : Below B' w w') (hB : B ≤ B') : RowOf f sz w' B A xs := fun hp => by
  obtain ⟨b, off, e, hlt, hr⟩ := h hp
  exact ⟨b, off, e, hlt, fun i x hi j v hj => (hb.cell (p := ⟨b, _, none⟩) (show b < B' by omega)).trans (hr i x hi j v hj)⟩
theorem RowOf.more {α : Type} {f : α → List Value} {sz : Nat} {w : World} {B B' : Nat} {A : Option Addr} {xs : List α} (h : RowOf f sz w B A xs) (hB : B ≤ B') : RowOf f sz w B' A xs := fun hp => by
  obtain ⟨b, off, e, hlt, hr⟩ := h hp
  exact ⟨b, off, e, by omega, hr⟩
theorem wpList_allocZC {P : Program} {ops : Array Oper} {rest : List Oper} {o : Oper} {a : Act} {w : World} {Q : Exit → Act → World → Prop} (hg : o.guard = none) (t : TypeId) (ho : o.op = .alloc t) (Z : Array Value) (hz : (zeroValue t).run P w = .ok (.agg Z) w)
    (h : wpList P ops Q rest (a.put o.dst (.pointer (some ⟨w.heap.size, 0, none⟩))) (w.alloc (.cells Z t))) : wpList P ops Q (o :: rest) a w := by
  refine wpList_plain hg fun K hK => ?_
  unfold Oper.wp execOp
  simp only [ho, Instr.alloc, Sem.run_bind, hz, Result.andThen_ok]
  exact hK _ _ h
theorem refZero (w : World) : (zeroValue 26).run Try.prog w = .ok (.agg refZ.toArray) w := by kernel_rfl
theorem binZero (w : World) : (zeroValue 72).run Try.prog w = .ok (.agg binZ.toArray) w := by kernel_rfl

/-! ### taking, whatever went wrong ahead -/
variable {lo : Nat}
theorem number_fl (p most : Nat) (s : St) (w : World) (h : PInL lo w p s.1 s.2) (hm : most < 18446744073709551616) :
    Calls Try.prog 43 #[.pointer (some ⟨p, 0, none⟩), .int .u64 most] w fun e w' => e = .returned (.int .u64 (numS most s).1) ∧ PInL lo w' p (numS most s).2.1 (numS most s).2.2 ∧ Turn p w w' := number_in p most s.1 s.2 w h hm
theorem digest_fl (p : Nat) (s : St) (w : World) (h : PInL lo w p s.1 s.2) :
    Calls Try.prog 47 #[.pointer (some ⟨p, 0, none⟩)] w fun e w' => e = .returned (.agg (Lib.byteCells (digS s).1).toArray) ∧ PInL lo w' p (digS s).2.1 (digS s).2.2 ∧ Turn p w w' := digest_in p s.1 s.2 w h
theorem numS_le (most : Nat) (s : St) : (numS most s).1 ≤ most := numF_le' most s.1
theorem digS_length (s : St) : (digS s).1.length = 32 := digF_length s.1
theorem btake_fl (s : St) (p : Nat) (w : World) (h : PInL lo w p s.1 s.2) (TL : List Value) (hTL : TL = rC (refS s).1) :
    Calls Try.prog 44 #[.pointer (some ⟨p, 0, none⟩)] w fun e w' => e = .returned (.agg TL.toArray) ∧ PInL lo w' p (refS s).2.1 (refS s).2.2 ∧ Turn p w w' := by
  have hT : TL = tkC (digS s).1 (numS 65535 (digS s).2).1 (numS 65536 (numS 65535 (digS s).2).2).1 (refS s).2.2 := by
    rw [hTL]
    unfold tkC refS rC
    cases (numS 65536 (numS 65535 (digS s).2).2).2.2 <;> rfl
  refine btake_gen p (fun w => PInL lo w p s.1 s.2) (fun w => PInL lo w p (digS s).2.1 (digS s).2.2) (fun w => PInL lo w p (numS 65535 (digS s).2).2.1 (numS 65535 (digS s).2).2.2) (fun w => PInL lo w p (refS s).2.1 (refS s).2.2) (digS s).1 (digF_length _) (Lib.byteCells (digS s).1) rfl _ _ (numF_le' _ _) (numF_le' _ _) _ TL hT
    (fun _ _ h k => h.low k) (fun _ _ h k => h.low k) (fun _ _ h k => h.low k) (fun _ _ h k => h.low k) (fun w h => ?_) (fun w h => ?_) (fun w h => ?_) (fun w h => ?_) w h h.lt
  · refine (digest_in p s.1 s.2 w h).mono ?_
    rintro e w' ⟨he, hp, ht⟩
    exact ⟨he, hp, ht⟩
  · refine (show Calls Try.prog 43 #[.pointer (some ⟨p, 0, none⟩), .int .u64 65535] w _ from number_in p 65535 _ _ w h (by omega)).mono ?_
    rintro e w' ⟨he, hp, ht⟩
    exact ⟨he, hp, ht⟩
  · refine (show Calls Try.prog 43 #[.pointer (some ⟨p, 0, none⟩), .int .u64 65536] w _ from number_in p 65536 _ _ w h (by omega)).mono ?_
    rintro e w' ⟨he, hp, ht⟩
    exact ⟨he, hp, ht⟩
  · refine (wrong_in p _ _ w h).mono ?_
    rintro e w' ⟨he, hw⟩
    exact ⟨he, hw.symm⟩
theorem ntake_fl (s : St) (p : Nat) (w : World) (h : PInL lo w p s.1 s.2) (TL : List Value) (hTL : TL = bC (binS s).1) :
    Calls Try.prog 46 #[.pointer (some ⟨p, 0, none⟩)] w fun e w' => e = .returned (.agg TL.toArray) ∧ PInL lo w' p (binS s).2.1 (binS s).2.2 ∧ Turn p w w' := by
  have hT : TL = tkN (numS 2147483647 s).1 (numS 65535 (numS 2147483647 s).2).1 (numS 65536 (numS 65535 (numS 2147483647 s).2).2).1 (digS (numS 65536 (numS 65535 (numS 2147483647 s).2).2).2).1 (binS s).2.2 := by
    rw [hTL]
    unfold tkN binS bC
    cases (digS (numS 65536 (numS 65535 (numS 2147483647 s).2).2).2).2.2 <;> rfl
  refine ntake_gen p (fun w => PInL lo w p s.1 s.2) (fun w => PInL lo w p (numS 2147483647 s).2.1 (numS 2147483647 s).2.2) (fun w => PInL lo w p (numS 65535 (numS 2147483647 s).2).2.1 (numS 65535 (numS 2147483647 s).2).2.2) (fun w => PInL lo w p (numS 65536 (numS 65535 (numS 2147483647 s).2).2).2.1 (numS 65536 (numS 65535 (numS 2147483647 s).2).2).2.2) (fun w => PInL lo w p (binS s).2.1 (binS s).2.2) (digS (numS 65536 (numS 65535 (numS 2147483647 s).2).2).2).1 (digS_length _) (Lib.byteCells (digS (numS 65536 (numS 65535 (numS 2147483647 s).2).2).2).1) rfl _ _ _ (numS_le _ _) (numS_le _ _) (numS_le _ _) _ TL hT
    (fun _ _ h k => h.lowN k) (fun _ _ h k => h.lowN k) (fun _ _ h k => h.lowN k) (fun _ _ h k => h.lowN k) (fun _ _ h k => h.lowN k) (fun w h => ?_) (fun w h => ?_) (fun w h => ?_) (fun w h => ?_) (fun w h => ?_) w h h.lt
  · exact number_fl p 2147483647 s w h (by omega)
  · exact number_fl p 65535 _ w h (by omega)
  · exact number_fl p 65536 _ w h (by omega)
  · exact digest_fl p _ w h
  · refine (wrong_in p _ _ w h).mono ?_
    rintro e w' ⟨he, hw⟩
    exact ⟨he, hw.symm⟩

/-! ### what can't be taken as it was put -/
theorem num_over {most v : Nat} (r : List UInt8) (h : most < v) (hv : v < 18446744073709551616) : numF most (Lib.uvarint v ++ r) = (0, [], true) := by
  unfold numF
  rw [lead_uv v r hv, if_pos (.inr h)]
theorem num_wrong (most : Nat) (s : St) (h : s.2 = true) : (numS most s).2.2 = true := by unfold numS; rw [h]; rfl
theorem dig_wrong (s : St) (h : s.2 = true) : (digS s).2.2 = true := by unfold digS; rw [h]; rfl
theorem num_put (most v : Nat) (r : List UInt8) (hv : v < 18446744073709551616) : numS most (Lib.uvarint v ++ r, false) = if v ≤ most then (v, (r, false)) else (0, ([], true)) := by
  unfold numS
  by_cases h : v ≤ most
  · rw [if_pos h, numF_back most v r h hv]; rfl
  · rw [if_neg h, num_over r (by omega) hv]; rfl
theorem uF_i64 {a : Int} (h : I64 a) (m : Nat) (hm : m ≤ 9223372036854775807) : uF a ≤ m ↔ 0 ≤ a ∧ a ≤ m := by
  obtain ⟨h1, h2⟩ := h
  have e : ((uF a : Nat) : Int) = a % 18446744073709551616 := by rw [← (uF_wrap a).1, IntKind.wrap_u64]
  omega
theorem uN_i64 {a : Int} (h : I64 a) (m : Nat) (hm : m ≤ 9223372036854775807) : uN a ≤ m ↔ 0 ≤ a ∧ a ≤ m := by
  obtain ⟨h1, h2⟩ := h
  have e : ((uN a : Nat) : Int) = a % 18446744073709551616 := by rw [← (uN_wrap a).1, IntKind.wrap_u64]
  omega
theorem zR_ok : OkR zR := by unfold OkR zR; simp
theorem zB_ok : OkB zB := by unfold OkB zB; simp
theorem ref_round {r : RefF} (h : RefW r) : (OkR r → (refS (encR r, false)).1 = r) ∧ (¬ OkR r → (refS (encR r, false)).1 = zR) := by
  refine ⟨fun ho => ?_, fun ho => ?_⟩
  · have := takes_ref.back r [] ⟨ho, h.d⟩
    rw [List.append_nil] at this
    rw [this]
  · have e : encR r = id r.d ++ (Lib.uvarint (uF r.a) ++ (Lib.uvarint (uF r.n) ++ [])) := by unfold encR refB; simp
    have hw : (numS 65536 (numS 65535 (digS (encR r, false)).2).2).2.2 = true := by
      rw [e, takes_dig.back r.d _ h.d]
      dsimp only
      rw [num_put _ _ _ (uF_wrap r.a).2]
      by_cases ha : uF r.a ≤ 65535
      · rw [if_pos ha]
        dsimp only
        rw [num_put _ _ _ (uF_wrap r.n).2]
        by_cases hn : uF r.n ≤ 65536
        · exact absurd (show OkR r from ⟨((uF_i64 h.a _ (by omega)).1 ha).1, by have := ((uF_i64 h.a _ (by omega)).1 ha).2; omega, ((uF_i64 h.n _ (by omega)).1 hn).1, by have := ((uF_i64 h.n _ (by omega)).1 hn).2; omega⟩) ho
        · rw [if_neg hn]
      · rw [if_neg ha]
        first | done | exact num_wrong _ _ rfl
    unfold refS
    rw [if_pos hw]
theorem bin_round {b : BinF} (h : BinW b) : (OkB b → (binS (encN b, false)).1 = b) ∧ (¬ OkB b → (binS (encN b, false)).1 = zB) := by
  refine ⟨fun ho => ?_, fun ho => ?_⟩
  · have := takes_bin.back b [] ⟨ho, h.d⟩
    rw [List.append_nil] at this
    rw [this]
  · have e : encN b = Lib.uvarint (uN b.x) ++ (Lib.uvarint (uN b.a) ++ (Lib.uvarint (uN b.n) ++ b.d)) := by unfold encN binB; simp
    have hw : (digS (numS 65536 (numS 65535 (numS 2147483647 (encN b, false)).2).2).2).2.2 = true := by
      rw [e, num_put _ _ _ (uN_wrap b.x).2]
      by_cases hx : uN b.x ≤ 2147483647
      · rw [if_pos hx]
        dsimp only
        rw [num_put _ _ _ (uN_wrap b.a).2]
        by_cases ha : uN b.a ≤ 65535
        · rw [if_pos ha]
          dsimp only
          rw [num_put _ _ _ (uN_wrap b.n).2]
          by_cases hn : uN b.n ≤ 65536
          · have h1 := (uN_i64 h.x _ (by omega)).1 hx
            have h2 := (uN_i64 h.a _ (by omega)).1 ha
            have h3 := (uN_i64 h.n _ (by omega)).1 hn
            exact absurd (show OkB b from ⟨by omega, by omega, by omega, by omega, by omega, by omega⟩) ho
          · rw [if_neg hn]
            first | done | exact dig_wrong _ rfl
        · rw [if_neg ha]
          first | done | exact dig_wrong _ (num_wrong _ _ rfl)
      · rw [if_neg hx]
        first | done | exact dig_wrong _ (num_wrong _ _ (num_wrong _ _ rfl))
    unfold binS
    rw [if_pos hw]

/-! ### bins compared -/
theorem eqFieldsN_no {P : Program} {d : Nat} {xs ys : Array Value} {f : Field} {fs : List Field} {w : World} {a b : Value} (hn : f.name ≠ "_") (ha : (part f.type xs f.offset).run P w = .ok a w) (hb : (part f.type ys f.offset).run P w = .ok b w) (he : (Op.equalIn d f.type a b).run P w = .ok false w) :
    (Op.eqFields d xs ys (f :: fs)).run P w = .ok false w := by
  rw [Op.eqFields, if_pos hn]
  simp only [Sem.run_bind, ha, hb, he, Result.andThen_ok, Bool.not_false, if_true, Sem.run_pure]
theorem int_eqv_same {d : Nat} {a b : Int} {w : World} : (Op.equalIn (d + 1) 3 (.int .i64 a) (.int .i64 b)).run Try.prog w = .ok (decide (a = b)) w := by
  rw [run_equalIn_int w d 3 .i64 .i64 a b Try.underlying3]
  rfl
theorem bin_eqv (a b : BinF) (ha : a.d.length = 32) (hb : b.d.length = 32) (XL YL : List Value) (hX : XL = bC a) (hY : YL = bC b) (w : World) :
    ∃ r, (Op.equalIn 10000 72 (.agg XL.toArray) (.agg YL.toArray)).run Try.prog w = .ok r w ∧ (r = true ↔ a = b) := by
  subst hX hY
  obtain ⟨x, a1, a2, a3⟩ := a
  obtain ⟨y, b1, b2, b3⟩ := b
  simp only at ha hb
  obtain ⟨f, g, h, k, hl, ⟨f1, f2, f3⟩, ⟨g1, g2, g3⟩, ⟨h1, h2, h3⟩, ⟨k1, k2, k3⟩⟩ := bin_list
  have e0 : ∀ (X Y : Value), Op.equalIn 10000 72 X Y = Op.equalIn (9997 + 1 + 1 + 1) 72 X Y := fun _ _ => rfl
  rw [e0, run_equalIn_struct w (9997 + 1 + 1) 72 _ _ bin_under bin_held, hl]
  have p1 := bin_int_part a3 x a1 a2 w
  have p2 := bin_int_part b3 y b1 b2 w
  have p3 := bin_dig_part ha x a1 a2 w
  have p4 := bin_dig_part hb y b1 b2 w
  have q1 := int_eqv_same (d := 9997 + 1) (a := x) (b := y) (w := w)
  have q2 := int_eqv_same (d := 9997 + 1) (a := a1) (b := b1) (w := w)
  have q3 := int_eqv_same (d := 9997 + 1) (a := a2) (b := b2) (w := w)
  have q4 := dig_eqv_at 9997 a3 b3 ha hb w
  by_cases c1 : x = y
  · rw [decide_eq_true c1] at q1
    rw [eqFieldsN_yes f1 (by rw [f2, f3]; exact p1.1) (by rw [f2, f3]; exact p2.1) (by rw [f2]; exact q1)]
    by_cases c2 : a1 = b1
    · rw [decide_eq_true c2] at q2
      rw [eqFieldsN_yes g1 (by rw [g2, g3]; exact p1.2.1) (by rw [g2, g3]; exact p2.2.1) (by rw [g2]; exact q2)]
      by_cases c3 : a2 = b2
      · rw [decide_eq_true c3] at q3
        rw [eqFieldsN_yes h1 (by rw [h2, h3]; exact p1.2.2) (by rw [h2, h3]; exact p2.2.2) (by rw [h2]; exact q3)]
        by_cases c4 : a3 = b3
        · rw [decide_eq_true c4] at q4
          rw [eqFieldsN_yes k1 (by rw [k2, k3]; exact p3) (by rw [k2, k3]; exact p4) (by rw [k2]; exact q4), eqFieldsN_nil]
          exact ⟨true, rfl, by simp [c1, c2, c3, c4]⟩
        · rw [decide_eq_false c4] at q4
          rw [eqFieldsN_no k1 (by rw [k2, k3]; exact p3) (by rw [k2, k3]; exact p4) (by rw [k2]; exact q4)]
          exact ⟨false, rfl, by simp [c4]⟩
      · rw [decide_eq_false c3] at q3
        rw [eqFieldsN_no h1 (by rw [h2, h3]; exact p1.2.2) (by rw [h2, h3]; exact p2.2.2) (by rw [h2]; exact q3)]
        exact ⟨false, rfl, by simp [c3]⟩
    · rw [decide_eq_false c2] at q2
      rw [eqFieldsN_no g1 (by rw [g2, g3]; exact p1.2.1) (by rw [g2, g3]; exact p2.2.1) (by rw [g2]; exact q2)]
      exact ⟨false, rfl, by simp [c2]⟩
  · rw [decide_eq_false c1] at q1
    rw [eqFieldsN_no f1 (by rw [f2, f3]; exact p1.1) (by rw [f2, f3]; exact p2.1) (by rw [f2]; exact q1)]
    exact ⟨false, rfl, by simp [c1]⟩
theorem refs_eqv (a b : RefF) (ha : a.d.length = 32) (hb : b.d.length = 32) (XL YL : List Value) (hX : XL = rC a) (hY : YL = rC b) (w : World) :
    ∃ r, (Op.equalIn 10000 26 (.agg XL.toArray) (.agg YL.toArray)).run Try.prog w = .ok r w ∧ (r = true ↔ a = b) := by
  refine ⟨_, ref_eqv a.d b.d ha hb a.a a.n b.a b.n XL YL hX hY w, ?_⟩
  simp only [Bool.and_eq_true, decide_eq_true_eq, beq_iff_eq]
  obtain ⟨x, y, z⟩ := a
  obtain ⟨x', y', z'⟩ := b
  simp [and_assoc]

end Go.Proofs.Ytkepfigoeaheaaa

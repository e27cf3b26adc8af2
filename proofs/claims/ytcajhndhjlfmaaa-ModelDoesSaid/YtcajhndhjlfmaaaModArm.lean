/-
  General words for the walks.
-/
import Derived.Test.YtcajhndhjlfmaaaModOf
namespace Go.Proofs.Ytcajhndhjlfmaaa
open Go.RowKit
set_option linter.unusedVariables false
set_option linter.unusedSimpArgs false

theorem wpList_at {P : Program} {ops : Array Oper} {rest : List Oper} {o : Oper} {a : Act} {w : World} {Q : Exit → Act → World → Prop} (n : Nat) (hd : o.dst = some n) (h : wpList P ops Q (o :: rest) a w) : wpList P ops Q (o :: rest) a w := h

theorem wpList_neq_ifC {P : Program} {ops : Array Oper} {rest : List Oper} {o : Oper} {a : Act} {w : World} {Q : Exit → Act → World → Prop} (hw : Region.wanted o (yielded ops a.tmps) = true) (ty ty2 : TypeId) (x y : Operand) (ho : o.op = .binOp .neq ty x y ty2)
    (X Y : List Value) (hx : a.eval x = .agg X.toArray) (hy : a.eval y = .agg Y.toArray) (b : Bool) (he : ∀ w, (Op.equalIn 10000 ty (.agg X.toArray) (.agg Y.toArray)).run P w = .ok b w) (hm : P.eqGuardType P.depth ty = false)
    (h : wpList P ops Q rest (a.put o.dst (.bool (!b))) w) : wpList P ops Q (o :: rest) a w :=
  wpList_step fun K hK => by
    rw [if_pos hw]
    unfold Oper.wp execOp
    simp only [ho, hx, hy, Sem.run_bind, Sem.run_pure, Result.andThen_ok, run_eqGuard_agg, run_neq_struct, he, hm]
    exact hK _ _ h

theorem wpList_load_mid_ifC {P : Program} {ops : Array Oper} {rest : List Oper} {o : Oper} {a : Act} {w : World} {Q : Exit → Act → World → Prop} (hw : Region.wanted o (yielded ops a.tmps) = true) (ty : TypeId) (x : Operand) (ho : o.op = .load ty x)
    (b off : Nat) (hx : a.eval x = .pointer (some ⟨b, off, none⟩)) (cs : List Value) (d : TypeDesc) (hc : w.rangeAt b off cs)
    (hu : P.underlying ty = some d) (hd : d.isRow = true) (hi : (P.info? ty).map (·.size) = some cs.length)
    (h : wpList P ops Q rest (a.put o.dst (.agg cs.toArray)) w) : wpList P ops Q (o :: rest) a w :=
  wpList_step fun K hK => by
    rw [if_pos hw]
    exact wp_load_mid ty x ho b off hx cs d hc hu hd hi (hK _ _ h)

theorem wpList_allocZC {P : Program} {ops : Array Oper} {rest : List Oper} {o : Oper} {a : Act} {w : World} {Q : Exit → Act → World → Prop} (hg : o.guard = none) (t : TypeId) (ho : o.op = .alloc t) (Z : Array Value) (hz : (zeroValue t).run P w = .ok (.agg Z) w)
    (h : wpList P ops Q rest (a.put o.dst (.pointer (some ⟨w.heap.size, 0, none⟩))) (w.alloc (.cells Z t))) : wpList P ops Q (o :: rest) a w := by
  refine wpList_plain hg fun K hK => ?_
  unfold Oper.wp execOp
  simp only [ho, Instr.alloc, Sem.run_bind, hz, Result.andThen_ok]
  exact hK _ _ h

theorem blkSize : (Try.prog.info? 42).map (·.size) = some 48 := by kernel_rfl
theorem all_one {VL : List Value} (h : ∀ v ∈ VL, v.oneCell' = true) : VL.toArray.all (·.oneCell') = true := by simpa using h
theorem of_e (M : List Vm) (nm : ByteArray) (n : Int) (ch : Bool) : ofE (vs M) nm n ch = (ofF M nm n ch).2 := by
  unfold ofE ofF
  rw [vs_find]
  cases findM M nm with
  | none => rfl
  | some m =>
    dsimp only [Option.map_some]
    split
    · rfl
    · split <;> rfl
theorem ofF_bad {M : List Vm} {nm : ByteArray} {n : Int} {ch : Bool} {X : Ix} {k : Int} (h : ofF M nm n ch = (X, k)) (hk : k ≠ 0) : X = ixZ := by
  unfold ofF at h
  split at h
  · injection h with h1 h2; exact h1.symm
  · split at h
    · injection h with h1 h2; exact h1.symm
    · split at h
      · injection h with h1 h2; exact h1.symm
      · injection h with h1 h2; exact absurd h2.symm hk
theorem ofF_good {M : List Vm} {nm : ByteArray} {n : Int} {ch : Bool} {X : Ix} (h : ofF M nm n ch = (X, 0)) : ∃ m, findM M nm = some m ∧ numB n = true ∧ (m.v.frozen && ch) = false ∧ X = ixOf (some m) := by
  unfold ofF at h
  split at h
  · injection h with h1 h2; cases h2
  · rename_i m hm
    split at h
    · injection h with h1 h2; cases h2
    · rename_i hn
      split at h
      · injection h with h1 h2; cases h2
      · rename_i hf
        injection h with h1 h2
        exact ⟨m, hm, by simpa using hn, by simpa using hf, h1.symm⟩

end Go.Proofs.Ytcajhndhjlfmaaa

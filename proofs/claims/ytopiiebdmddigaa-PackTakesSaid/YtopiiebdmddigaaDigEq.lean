/-
  '==' on digests.
-/
import Derived.Test.YtopiiebdmddigaaRefDig
import Derived.ChangeKeysEq
import Derived.Laws.StructEq
namespace Go.Proofs.Ytopiiebdmddigaa
open Go.RowKit
set_option linter.unusedVariables false

theorem part_byte (X : List UInt8) (i : Nat) (h : i < X.length) (w : World) : (part 5 (Lib.byteCells X).toArray (i * 1)).run Try.prog w = .ok (.int .u8 ((X.getD i 0).toNat : Nat)) w := by
  have hc := byteCells_get h
  simp [part, hc]

theorem eqItems_bytes (d : Nat) (X Y : List UInt8) (w : World) : ∀ (is : List Nat), (∀ i ∈ is, i < X.length ∧ i < Y.length) →
    (Op.eqItems (d + 1) 5 1 (Lib.byteCells X).toArray (Lib.byteCells Y).toArray is).run Try.prog w = .ok (is.all fun i => decide (X.getD i 0 = Y.getD i 0)) w
  | [], _ => by simp [Op.eqItems]
  | i :: is, h => by
    obtain ⟨h1, h2⟩ := h i (by simp)
    have ih := eqItems_bytes d X Y w is fun j hj => h j (by simp [hj])
    simp only [Op.eqItems, Sem.run_bind, part_byte X i h1 w, part_byte Y i h2 w, Result.andThen_ok, run_equalIn_int w d 5 .u8 .u8 _ _ Try.underlying5]
    by_cases he : X.getD i 0 = Y.getD i 0
    · rw [he]
      simp only [beq_self_eq_true, Bool.not_true, Bool.false_eq_true, if_false]
      rw [ih]
      have hd : decide (X.getD i 0 = Y.getD i 0) = true := decide_eq_true he
      simp only [List.all_cons, hd, Bool.true_and]
    · have hb : ((((X.getD i 0).toNat : Nat) : Int) == (((Y.getD i 0).toNat : Nat) : Int)) = false := by
        rw [beq_eq_false_iff_ne]
        intro e
        exact he (UInt8.toNat_inj.1 (by exact_mod_cast e))
      rw [hb]
      have hd : decide (X.getD i 0 = Y.getD i 0) = false := decide_eq_false he
      simp only [Bool.not_false, if_true, Sem.run_pure, List.all_cons, hd, Bool.false_and]

theorem all_getD {X Y : List UInt8} (hX : X.length = 32) (hY : Y.length = 32) : ((List.range 32).all fun i => decide (X.getD i 0 = Y.getD i 0)) = decide (X = Y) := by
  rw [Bool.eq_iff_iff]
  simp only [List.all_eq_true, List.mem_range, decide_eq_true_eq]
  constructor
  · intro h
    refine List.ext_getElem (by omega) fun i h1 h2 => ?_
    have := h i (by omega)
    simpa [List.getD, h1, h2] using this
  · rintro rfl i _
    rfl

/-- '==' on two digests: whether their bytes are one. -/
theorem dig_eql (X Y : List UInt8) (hX : X.length = 32) (hY : Y.length = 32) (w : World) : (binOp .eql 39 (digV X) (digV Y)).run Try.prog w = .ok (.bool (decide (X = Y))) w := by
  obtain ⟨i0, hi, hz0, hz1, hz2⟩ := info_parts byteInfo
  have h1 := run_equalIn_array (P := Try.prog) (w := w) 9999 (Lib.byteCells X).toArray (Lib.byteCells Y).toArray Try.underlying39 hi
  have hc : Try.prog.cellsOf 5 = 1 := by kernel_rfl
  rw [hc, eqItems_bytes 9998 X Y w (List.range 32) (fun i hi => by have := List.mem_range.1 hi; omega), all_getD hX hY] at h1
  unfold digV
  rw [run_eql_struct, h1]
  rfl

theorem dig_guard (op : BinOp) (x y : Operand) (X Y : List UInt8) (w : World) : (eqGuard op 39 x y (digV X) (digV Y)).run Try.prog w = .ok () w :=
  run_eqGuard_agg w op 39 x y _ _ (by kernel_rfl)

end Go.Proofs.Ytopiiebdmddigaa

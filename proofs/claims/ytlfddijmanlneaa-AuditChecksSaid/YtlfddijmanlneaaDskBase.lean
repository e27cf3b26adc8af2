/-
  What disk's texts need of arrays and regions, under names of their own.
-/
import Derived.Test.YtlfddijmanlneaaArr
import Derived.Test.YtlfddijmanlneaaDig0
import Derived.Test.YtlfddijmanlneaaShaMath
import Derived.ChangeKeysEq
import Derived.Laws.StructEq
import Derived.ChangeSame
import Derived.OpenShut
import Derived.Deep.RegionHeld3
import Derived.StillTailTactics
import Derived.IntWalk
import Derived.Great.BuildSlice
import Derived.Deep.MidRow
import Derived.Laws.Rows
import Derived.Laws.Tables
namespace Go.Proofs.Ytlfddijmanlneaa
open Go.RowKit
set_option linter.unusedVariables false

theorem dskH_take {P : Program} {md : Region.Mode} {ops : Array Oper} {Q : Exit → Act → World → Prop} {S : World → Prop} {i : Nat} {oi : Oper} {v : Value} {fuel : Nat} {listed : Array Bool} {a : Act} {w : World} (dd : Option Tmp) (hi : ops[i]? = some oi) (hd : oi.dst = dd)
    (hs : Region.noSelect ops = true) (hf : Region.free md ops listed i = true) (hr : (Region.ready md ops listed).contains i = true)
    (hQ : ∀ c a w, Q (.panic c) (a.put oi.dst v) w → Q (.panic c) a w) (hy : YieldsIf P ops S oi v a) (hS : S w)
    (h : wpAnyH P md ops Q S fuel (listed.setIfInBounds i true) (a.put dd v) w) : wpAnyH P md ops Q S (fuel + 1) listed a w := by
  subst hd; exact wpAnyH_take hi hs hf hr hQ hy hS h

theorem part_byteD (X : List UInt8) (i : Nat) (h : i < X.length) (w : World) : (part 5 (Lib.byteCells X).toArray (i * 1)).run Try.prog w = .ok (.int .u8 ((X.getD i 0).toNat : Nat)) w := by
  have hc := byteCells_get h
  simp [part, hc]

theorem eqItems_bytesD (d : Nat) (X Y : List UInt8) (w : World) : ∀ (is : List Nat), (∀ i ∈ is, i < X.length ∧ i < Y.length) →
    (Op.eqItems (d + 1) 5 1 (Lib.byteCells X).toArray (Lib.byteCells Y).toArray is).run Try.prog w = .ok (is.all fun i => decide (X.getD i 0 = Y.getD i 0)) w
  | [], _ => by simp [Op.eqItems]
  | i :: is, h => by
    obtain ⟨h1, h2⟩ := h i (by simp)
    have ih := eqItems_bytesD d X Y w is fun j hj => h j (by simp [hj])
    simp only [Op.eqItems, Sem.run_bind, part_byteD X i h1 w, part_byteD Y i h2 w, Result.andThen_ok, run_equalIn_int w d 5 .u8 .u8 _ _ Try.underlying5]
    by_cases he : X.getD i 0 = Y.getD i 0
    · rw [he]
      simp only [beq_self_eq_true, Bool.not_true, Bool.false_eq_true, if_false]
      rw [ih]
      have hd : decide (X.getD i 0 = Y.getD i 0) = true := decide_eq_true he
      simp only [List.all_cons, hd, Bool.true_and]
    · have hb : ((((X.getD i 0).toNat : Nat) : Int) == (((Y.getD i 0).toNat : Nat) : Int)) = false := by
        rw [beq_eq_false_iff_ne]
        intro e
        exact he (UInt8.toNat_inj.1 (by exact_mod_cast e))
      rw [hb]
      have hd : decide (X.getD i 0 = Y.getD i 0) = false := decide_eq_false he
      simp only [Bool.not_false, if_true, Sem.run_pure, List.all_cons, hd, Bool.false_and]

theorem all_getDD {n : Nat} {X Y : List UInt8} (hX : X.length = n) (hY : Y.length = n) : ((List.range n).all fun i => decide (X.getD i 0 = Y.getD i 0)) = decide (X = Y) := by
  rw [Bool.eq_iff_iff]
  simp only [List.all_eq_true, List.mem_range, decide_eq_true_eq]
  constructor
  · intro h
    refine List.ext_getElem (by omega) fun i h1 h2 => ?_
    have := h i (by omega)
    simpa [List.getD, h1, h2] using this
  · rintro rfl i _
    rfl

theorem wpList_builtD {P : Program} {ops : Array Oper} {rest : List Oper} {o : Oper} {a : Act} {w : World} {Q : Exit → Act → World → Prop} (hg : o.guard = none) (t : TypeId) (parts : Array (Nat × Operand)) (ho : o.op = .build t parts)
    (ps : List (Nat × Value)) (hp : parts.toList.map (fun x => (x.1, a.eval x.2)) = ps) (cells : Array Value) (hf : P.built t ps = some cells)
    (h : wpList P ops Q rest (a.put o.dst (.agg cells)) w) : wpList P ops Q (o :: rest) a w :=
  wpList_buildTo hg t parts ho _ rfl cells (by rw [← hf, ← hp]; simp) h

theorem below_drewD (B : Nat) (w : World) : Below B w w.drew := ⟨rfl, rfl, rfl, Nat.le_refl _, fun _ _ => rfl⟩

theorem Arr.upD {w w' : World} {g : Nat} {T : TypeId} {cs : List Value} (h : Arr w g T cs) (hb : Below w.heap.size w w') : Arr w' g T cs := h.below hb h.lt

theorem Arr.rangeD {w : World} {g : Nat} {T : TypeId} {cs : List Value} (h : Arr w g T cs) : w.rangeAt g 0 cs := fun j v hj => by rw [Nat.zero_add, h.cell]; exact hj

theorem alloc_rowD (w : World) (T : TypeId) (Z : Array Value) (V : List Value) : Arr ((w.alloc (.cells Z T)).setRow w.heap.size V.toArray) w.heap.size T V ∧ Below w.heap.size w ((w.alloc (.cells Z T)).setRow w.heap.size V.toArray) := by
  have h := Arr.new w T Z.toList
  refine ⟨by simpa using h.setRow V, ?_⟩
  have := ((Only.refl (fun _ => False) w).alloc (.cells Z T)).setRow (g := w.heap.size) (.inr (Nat.le_refl _)) V.toArray
  exact this.below (Nat.le_refl _) (fun k h => h.elim)

end Go.Proofs.Ytlfddijmanlneaa

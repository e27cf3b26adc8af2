/-
  Blocks known whole, and what turns alone. No program.
-/
import Derived.Test.YtfelacpaaialfaaDoorMem
import Derived.OneCell
import Derived.Laws.Rows
import Derived.Laws.Tables
import Derived.Deep.QuietTactic
import Derived.BigQuiet
namespace Go.Proofs.YtfelacpaaialfaaDoor
open Go.RowKit
set_option linter.unusedVariables false

/-- Block g is just these cells. -/
def Arr (w : World) (g : Nat) (T : TypeId) (cs : List Value) : Prop := w.heap[g]? = some (.cells cs.toArray T (0, 0))

/-- From w to w' nothing has turned but blocks of R, and new ones. -/
structure Only (R : Nat → Prop) (w w' : World) : Prop where
  os : w'.os = w.os
  tape : w'.tape = w.tape
  output : w'.output = w.output
  size : w.heap.size ≤ w'.heap.size
  block : ∀ k, k < w.heap.size → ¬ R k → w'.heap[k]? = w.heap[k]?

theorem Only.refl (R : Nat → Prop) (w : World) : Only R w w := ⟨rfl, rfl, rfl, Nat.le_refl _, fun _ _ _ => rfl⟩
theorem Only.trans {R : Nat → Prop} {a b c : World} (h : Only R a b) (k : Only R b c) : Only R a c :=
  ⟨k.os.trans h.os, k.tape.trans h.tape, k.output.trans h.output, Nat.le_trans h.size k.size, fun i hi hn => (k.block i (Nat.lt_of_lt_of_le hi h.size) hn).trans (h.block i hi hn)⟩
theorem Only.more {R R' : Nat → Prop} {a b : World} (h : Only R a b) (hR : ∀ k, k < a.heap.size → R k → R' k) : Only R' a b :=
  ⟨h.os, h.tape, h.output, h.size, fun i hi hn => h.block i hi fun hr => hn (hR i hi hr)⟩
theorem Only.drewN {R : Nat → Prop} {a b : World} (h : Only R a b) (n : Nat) : Only R a (b.drewN n) := ⟨h.os, h.tape, h.output, h.size, h.block⟩
theorem Only.alloc {R : Nat → Prop} {a b : World} (h : Only R a b) (o : Obj) : Only R a (b.alloc o) :=
  h.trans ⟨rfl, rfl, rfl, by simp, fun k hk _ => Below.heap_alloc b o k hk⟩
theorem Only.setCell {R : Nat → Prop} {a b : World} (h : Only R a b) {p : Addr} (hp : R p.block ∨ a.heap.size ≤ p.block) (v : Value) : Only R a (b.setCell p v) :=
  ⟨h.os, h.tape, h.output, by simp [World.setCell]; exact h.size, fun k hk hn => (Below.heap_setCell b p v k (fun e => by rcases hp with hp | hp; exact hn (e ▸ hp); omega)).trans (h.block k hk hn)⟩
theorem Only.setRow {R : Nat → Prop} {a b : World} (h : Only R a b) {g : Nat} (hp : R g ∨ a.heap.size ≤ g) (cs : Array Value) : Only R a (b.setRow g cs) :=
  ⟨h.os, h.tape, h.output, by simp; exact h.size, fun k hk hn => (setRow_other b g k cs (fun e => by rcases hp with hp | hp; exact hn (e ▸ hp); omega)).trans (h.block k hk hn)⟩
theorem Only.below {R : Nat → Prop} {B : Nat} {a b : World} (h : Only R a b) (hB : B ≤ a.heap.size) (hR : ∀ k, R k → B ≤ k) : Below B a b :=
  ⟨h.os, h.tape, h.output, h.size, fun k hk => h.block k (by omega) fun hr => by have := hR k hr; omega⟩
theorem Only.of_below {R : Nat → Prop} {a b : World} (h : Below a.heap.size a b) : Only R a b := ⟨h.os, h.tape, h.output, h.size, fun k hk _ => h.block k hk⟩
theorem Only.step {R : Nat → Prop} {a b c : World} (h : Only R a b) (hb : Below b.heap.size b c) : Only R a c := h.trans (.of_below hb)
/-- What turns behind may also be new. -/
theorem Only.then {R R' : Nat → Prop} {a b c : World} (h : Only R a b) (k : Only R' b c) (hR : ∀ i, R' i → R i ∨ a.heap.size ≤ i) : Only R a c :=
  ⟨k.os.trans h.os, k.tape.trans h.tape, k.output.trans h.output, Nat.le_trans h.size k.size,
    fun i hi hn => (k.block i (Nat.lt_of_lt_of_le hi h.size) (fun hr => by rcases hR i hr with h1 | h1; exact hn h1; omega)).trans (h.block i hi hn)⟩

section
variable {w w' : World} {g : Nat} {T : TypeId} {cs : List Value}
theorem Arr.lt (h : Arr w g T cs) : g < w.heap.size := (Array.getElem?_eq_some_iff.1 h).1
theorem Arr.cell (h : Arr w g T cs) (i : Nat) : w.cell? ⟨g, i, none⟩ = cs[i]? := by rw [cell_of_row w g i _ T (0, 0) h]; simp
theorem Arr.frozen (h : Arr w g T cs) (i : Nat) : w.frozen? ⟨g, i, none⟩ = false := frozen_of_row w _ _ _ _ h
theorem Arr.new (w : World) (T : TypeId) (cs : List Value) : Arr (w.alloc (.cells cs.toArray T)) w.heap.size T cs := heap_alloc_new w _
theorem Arr.alloc (h : Arr w g T cs) (o : Obj) : Arr (w.alloc o) g T cs := (Below.heap_alloc w o g h.lt).trans h
theorem Arr.drewN (h : Arr w g T cs) (n : Nat) : Arr (w.drewN n) g T cs := h
theorem Arr.only {R : Nat → Prop} (h : Arr w g T cs) (hb : Only R w w') (hg : ¬ R g) : Arr w' g T cs := (hb.block g h.lt hg).trans h
theorem Arr.below {B : Nat} (h : Arr w g T cs) (hb : Below B w w') (hg : g < B) : Arr w' g T cs := (hb.block g hg).trans h
theorem Arr.setOther (h : Arr w g T cs) {p : Addr} (hp : g ≠ p.block) (v : Value) : Arr (w.setCell p v) g T cs := (Below.heap_setCell w p v g hp).trans h
theorem Arr.set (h : Arr w g T cs) (i : Nat) (v : Value) : Arr (w.setCell ⟨g, i, none⟩ v) g T (cs.set i v) := by
  unfold Arr
  rw [heap_setCell_same w g i _ T v h]
  simp
theorem Arr.setRow (h : Arr w g T cs) (cs' : List Value) : Arr (w.setRow g cs'.toArray) g T cs' := setRow_heap w g _ _ _ _ h
theorem Arr.rowOther (h : Arr w g T cs) {k : Nat} (hk : g ≠ k) (c : Array Value) : Arr (w.setRow k c) g T cs := (setRow_other w k g c hk).trans h
end

theorem setRow_idle {w : World} {g : Nat} {cs : Array Value} {T : TypeId} {fr : Nat × Nat} (h : w.heap[g]? = some (.cells cs T fr)) : w.setRow g cs = w := by
  have hv : w.heap[g]'(Array.getElem?_eq_some_iff.1 h).1 = .cells cs T fr := (Array.getElem?_eq_some_iff.1 h).2
  unfold World.setRow
  cases w with
  | mk heap tape drawn os output =>
    congr 1
    apply Array.ext
    · simp
    · intro k h1 h2
      simp only [Array.getElem_modify]
      split
      · rename_i hk; subst hk; simp at hv; simp [hv]
      · rfl

/-- A block's own cells, stored into it: nothing is done. -/
theorem run_store_idle {P : Program} (w : World) (g : Nat) (t ty : TypeId) (cells : Array Value) (hg : w.heap[g]? = some (.cells cells t (0, 0))) (hi : (P.info? ty).map (·.size) = some cells.size) (h1 : cells.all (·.oneCell') = true) :
    (storeVar ty ⟨g, 0, none⟩ (.agg cells)).run P w = .ok () w := by
  have h := run_storeVar_row (P := P) w g t ty cells cells hg hi rfl h1
  rwa [setRow_idle hg] at h

theorem run_storeAt_idle {P : Program} (w : World) (g : Nat) (t ty : TypeId) (cells : Array Value) (hg : w.heap[g]? = some (.cells cells t (0, 0))) (hi : (P.info? ty).map (·.size) = some cells.size) (h1 : cells.all (·.oneCell') = true) :
    (Instr.storeAt ty (.pointer (some ⟨g, 0, none⟩)) (.agg cells)).run P w = .ok () w := by
  simp only [Instr.storeAt, Instr.sureAddr, Sem.run_bind, Sem.run_pure, Result.andThen_ok, run_store_idle w g t ty cells hg hi h1]

theorem run_loadAt_row {P : Program} (w : World) (g : Nat) (t ty : TypeId) (cs : Array Value) (d : TypeDesc) (hg : w.heap[g]? = some (.cells cs t (0, 0)))
    (hu : P.underlying ty = some d) (hd : (match d with | .struct _ | .array _ _ => true | _ => false) = true) (hi : (P.info? ty).map (·.size) = some cs.size) :
    (Instr.loadAt ty (.pointer (some ⟨g, 0, none⟩))).run P w = .ok (.agg cs) w := by
  simp only [Instr.loadAt, Instr.sureAddr, Sem.run_bind, Sem.run_pure, Result.andThen_ok, run_loadVar_row w g t ty cs (0, 0) d hg hu hd hi]

/-- A whole array is read, in a region that draws its order and writes nothing. -/
theorem wpQuiet_load_row {P : Program} {ops : Array Oper} {C : World → Prop} {Q : Act → Prop} {a : Act} {o : Oper} {rest : List Oper} (hgd : o.guard = none) (ty : TypeId) (x : Operand) (ho : o.op = .load ty x) (g : Nat) (hx : a.eval x = .pointer (some ⟨g, 0, none⟩))
    (t : TypeId) (cs : Array Value) (d : TypeDesc) (hg : ∀ w, C w → w.heap[g]? = some (.cells cs t (0, 0))) (hu : P.underlying ty = some d) (hd : (match d with | .struct _ | .array _ _ => true | _ => false) = true) (hi : (P.info? ty).map (·.size) = some cs.size)
    (h : wpQuiet P ops C Q rest (a.put o.dst (.agg cs))) : wpQuiet P ops C Q (o :: rest) a :=
  wpQuiet_step fun K hK => by
    rw [if_pos (by simp [Region.wanted, hgd])]
    refine ⟨.agg cs, fun w hw => ?_, hK _ h⟩
    unfold Oper.quietAt execOp
    simp only [ho, hx, Sem.run_bind, run_loadAt_row w g t ty cs d (hg w hw) hu hd hi, Result.andThen_ok, Sem.run_pure]
    exact ⟨rfl, rfl⟩

/-- A block's own cells, stored into it there: nothing is done. -/
theorem wpQuiet_store_idle {P : Program} {ops : Array Oper} {C : World → Prop} {Q : Act → Prop} {a : Act} {o : Oper} {rest : List Oper} (hgd : o.guard = none) (ty : TypeId) (x y : Operand) (ho : o.op = .store ty x y) (g : Nat) (cs : Array Value) (hx : a.eval x = .pointer (some ⟨g, 0, none⟩)) (hy : a.eval y = .agg cs)
    (t : TypeId) (hg : ∀ w, C w → w.heap[g]? = some (.cells cs t (0, 0))) (hi : (P.info? ty).map (·.size) = some cs.size) (h1 : cs.all (·.oneCell') = true)
    (h : wpQuiet P ops C Q rest (a.put o.dst undef)) : wpQuiet P ops C Q (o :: rest) a :=
  wpQuiet_step fun K hK => by
    rw [if_pos (by simp [Region.wanted, hgd])]
    refine ⟨undef, fun w hw => ?_, hK _ h⟩
    unfold Oper.quietAt execOp
    simp only [ho, hx, hy, Sem.run_bind, run_storeAt_idle w g t ty cs (hg w hw) hi h1, Result.andThen_ok, Sem.run_pure]
    exact ⟨rfl, rfl⟩

/-- Words of 32 bits, as cells. -/
def wordCells (l : List Nat) : List Value := l.map fun n => .int .u32 (n : Nat)
theorem wordCells_length (l : List Nat) : (wordCells l).length = l.length := by simp [wordCells]
theorem wordCells_one (l : List Nat) : ∀ v ∈ wordCells l, v.oneCell' = true := by
  intro v hv
  simp only [wordCells, List.mem_map] at hv
  obtain ⟨b, _, rfl⟩ := hv
  rfl
theorem wordCells_get {l : List Nat} {j : Nat} (h : j < l.length) : (wordCells l)[j]? = some (.int .u32 ((l.getD j 0 : Nat) : Int)) := by
  simp [wordCells, List.getD, h]
theorem wordCells_set (l : List Nat) (j x : Nat) : (wordCells l).set j (.int .u32 (x : Nat)) = wordCells (l.set j x) := by
  unfold wordCells
  rw [List.map_set]
theorem wordCells_append (a b : List Nat) : wordCells (a ++ b) = wordCells a ++ wordCells b := by simp [wordCells]

/-- Truth values, as cells. -/
def boolCells (l : List Bool) : List Value := l.map Value.bool
theorem boolCells_get {l : List Bool} {j : Nat} (h : j < l.length) : (boolCells l)[j]? = some (.bool (l.getD j false)) := by
  simp [boolCells, List.getD, h]
theorem boolCells_set (l : List Bool) (j : Nat) (x : Bool) : (boolCells l).set j (.bool x) = boolCells (l.set j x) := by
  unfold boolCells
  rw [List.map_set]

end Go.Proofs.YtfelacpaaialfaaDoor

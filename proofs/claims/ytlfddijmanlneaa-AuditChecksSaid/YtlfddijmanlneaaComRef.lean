/-
  Refs as values, taken from bytes (cut out of blob's and disk's texts).
-/
import Derived.Test.YtlfddijmanlneaaDskBase
import Derived.Test.YtlfddijmanlneaaTagged
import Derived.Test.YtlfddijmanlneaaRefDig
import Derived.Test.YtlfddijmanlneaaRel
import Derived.Test.YtlfddijmanlneaaInWrong
import Derived.Test.YtlfddijmanlneaaPackMath
import Derived.Test.YtlfddijmanlneaaGen
import Derived.Deep.DeepCutAuto
import Derived.Deep.CutBlock
import Derived.Laws.MakeOwn
import Derived.Laws.ResultCell
import Derived.Lib.SliceRun
namespace Go.Proofs.Ytlfddijmanlneaa
open Go.RowKit
set_option linter.unusedVariables false
set_option linter.unusedSimpArgs false

theorem yieldsIf_build {P : Program} {ops : Array Oper} {S : World → Prop} {op : Oper} {a : Act} (hw : Region.wanted op (yielded ops a.tmps) = true) (t : TypeId) (parts : Array (Nat × Operand)) (ho : op.op = .build t parts)
    (ps : List (Nat × Value)) (hp : parts.toList.map (fun x => (x.1, a.eval x.2)) = ps) (cells : Array Value) (hf : P.built t ps = some cells) : YieldsIf P ops S op (.agg cells) a :=
  .inl ⟨hw, fun w hw' => by
    unfold execOp
    simp only [ho, Sem.run_bind, run_build w t _ cells (show P.built t (parts.map fun (i, x) => (i, a.eval x)).toList = some cells by rw [← hf, ← hp]; simp), Result.andThen_ok, Sem.run_pure]⟩

theorem fill_mid (place : Nat → Option (Nat × Nat)) (cells : Array Value) (i off : Nat) (l : List Value) (hp : place i = some (off, l.length)) (h : off + l.length ≤ cells.size) :
    Instr.fill place cells [(i, .agg l.toArray)] = some (cells.toList.take off ++ (l ++ cells.toList.drop (off + l.length))).toArray := by
  simp only [Instr.fill, hp, Value.cells, List.size_toArray]
  rw [if_neg (by simp; omega)]
  congr 1
  obtain ⟨g1, g2⟩ := Great.foldl_set off l 0 cells
  have e : (l.toArray.zipIdx.foldl (fun cs (x : Value × Nat) => cs.setIfInBounds (off + x.2) x.1) cells) = ((l.zipIdx 0).foldl (fun cs (x : Value × Nat) => cs.setIfInBounds (off + x.2) x.1) cells) := by
    rw [← Array.foldl_toList, Array.toList_zipIdx]
  show (l.toArray.zipIdx.foldl (fun cs (x : Value × Nat) => cs.setIfInBounds (off + x.2) x.1) cells) = _
  rw [e]
  apply Array.ext_getElem?
  intro k
  rw [g2 k]
  have hto : (cells.toList.take off).length = off := by simp; omega
  simp only [List.getElem?_toArray, Nat.add_zero]
  by_cases hk : off ≤ k
  · rw [List.getElem?_append_right (by omega), hto]
    by_cases hk2 : k < off + l.length
    · rw [if_pos ⟨hk, hk2, by omega⟩, List.getElem?_append_left (by omega)]
    · rw [if_neg (by omega), List.getElem?_append_right (by omega), List.getElem?_drop]
      rw [show off + l.length + (k - off - l.length) = k by omega]
      simp
  · rw [if_neg (by omega), List.getElem?_append_left (by omega)]
    simp [show k < off from by omega]

theorem Arr.setIn {g : Nat} {T : TypeId} : ∀ (vs : List Value) (off : Nat) (cs : List Value) (w : World), Arr w g T cs → off + vs.length ≤ cs.length → Arr (w.setCells g off vs) g T (cs.take off ++ (vs ++ cs.drop (off + vs.length)))
  | [], off, cs, w, h, hl => by
    show Arr w g T _
    simpa using h
  | v :: r, off, cs, w, h, hl => by
    have h1 := Arr.setIn r (off + 1) (cs.set off v) (w.setCell ⟨g, off, none⟩ v) (h.set off v) (by simp at hl ⊢; omega)
    have hlt : off < cs.length := by simp at hl; omega
    have e : (cs.set off v).take (off + 1) ++ (r ++ (cs.set off v).drop (off + 1 + r.length)) = cs.take off ++ (v :: r ++ cs.drop (off + (v :: r).length)) := by
      rw [List.take_succ_eq_append_getElem (by simpa using hlt), List.take_set_of_le (Nat.le_refl _), List.drop_set_of_lt (by omega)]
      simp
      congr 1
      omega
    rw [e] at h1
    exact h1

theorem Only.setIn {R : Nat → Prop} {a : World} {g : Nat} (hg : R g) : ∀ (vs : List Value) (off : Nat) (b : World), Only R a b → Only R a (b.setCells g off vs)
  | [], _, _, h => h
  | v :: r, off, b, h => Only.setIn hg r (off + 1) _ (h.setCell (p := ⟨g, off, none⟩) (.inl hg) v)

theorem setCells_size (g : Nat) : ∀ (vs : List Value) (off : Nat) (w : World), (w.setCells g off vs).heap.size = w.heap.size
  | [], _, _ => rfl
  | v :: r, off, w => by rw [World.setCells, setCells_size g r]; simp [World.setCell]

theorem there_of_arr {w : World} {g : Nat} {T : TypeId} {cs : List Value} (h : Arr w g T cs) {off n : Nat} (hn : off + n ≤ cs.length) : w.there g off n := fun j hj => ⟨by rw [h.cell, List.getElem?_eq_getElem (by omega)]; rfl, h.frozen _⟩

theorem World.grownBy.only {a b : World} {row : Option Nat} (h : a.grownBy b row) {R : Nat → Prop} (hR : ∀ g, row = some g → R g) : Only R a b := ⟨h.os, h.tape, h.output, h.size, fun k hk hn => h.block k hk (fun e => hn (hR k e.symm))⟩

theorem Only.grown {R : Nat → Prop} {w w' : World} (h : Only R w w') (hR : ∀ k, ¬ R k) : w.grownBy w' none := ⟨h.os, h.tape, h.output, h.size, fun k hk _ => h.block k hk (hR k)⟩

theorem results_cell2 {P : Program} {fn : Func} {p u : Tmp} {ty : TypeId} (h : fn.results = #[.cell p ty, .tmp u]) (tmps : Array Value) (w : World) (g : Nat) (t : TypeId) (cs : Array Value) (fr : Nat × Nat) (d : TypeDesc)
    (hp : tmps.getD p undef = .pointer (some ⟨g, 0, none⟩)) (x : Value) (hx : tmps.getD u undef = x) (hg : w.heap[g]? = some (.cells cs t fr))
    (hu : P.underlying ty = some d) (hd : (match d with | .struct _ | .array _ _ => true | _ => false) = true) (hi : (P.info? ty).map (·.size) = some cs.size) :
    (results fn tmps).run P w = .ok (.tuple #[.agg cs, x]) w := by
  rw [results_cell_tmp h, hp, hx]
  simp only [asAddr, Sem.run_pure, Result.andThen_ok, run_loadVar_row w g t ty cs fr d hg hu hd hi]

theorem wpList_run_append {P : Program} {ops : Array Oper} {rest : List Oper} {o : Oper} {a : Act} {w w' : World} {Q : Exit → Act → World → Prop} {v v' x : Value} {T : TypeId} (hg : o.guard = none) (s y : Operand) (ho : o.op = .call { callee := .builtin .append, args := #[s, y], argTypes := #[T, T] })
    (hs : a.eval s = v) (hy : a.eval y = x) (hty : o.type = T) (hrun : (Builtin.append_ #[T, T] T #[v, x]).run P w = .ok v' w') (h : wpList P ops Q rest (a.put o.dst v') w') : wpList P ops Q (o :: rest) a w := by
  refine wpList_plain hg fun K hK => ?_
  unfold Oper.wp execOp
  simp only [ho, hty, resolve, invoke, builtin, Sem.run_bind, Sem.run_pure, Result.andThen_ok, List.map_toArray, List.map_cons, List.map_nil, hs, hy, hrun]
  exact hK _ _ h

/-- A Ref's cells. -/
def refC (d : List UInt8) (a n : Int) : List Value := Lib.byteCells d ++ [.int .i64 a, .int .i64 n]

theorem refC_length {d : List UInt8} (h : d.length = 32) (a n : Int) : (refC d a n).length = 34 := by simp [refC, Lib.byteCells_length, h]

theorem refC_cell (d : List UInt8) (a n : Int) : ∀ v ∈ refC d a n, v.oneCell' = true := by
  intro v hv
  simp only [refC, List.mem_append, List.mem_cons, List.not_mem_nil, or_false] at hv
  rcases hv with hv | rfl | rfl
  · exact byteCells_one _ v hv
  · rfl
  · rfl

def blobDig (b : List UInt8) : List UInt8 := shaF (tagF 3 [b])

theorem blobDig_length (b : List UInt8) : (blobDig b).length = 32 := shaF_length _

theorem refSize : (Try.prog.info? 26).map (·.size) = some 34 := by kernel_rfl

def refZ : List Value := refC (List.replicate 32 0) 0 0

theorem ref_fill (parts : List (Nat × Value)) : Try.prog.built 26 parts = Instr.fill (#[(0, 32), (32, 1), (33, 1)][·]?) refZ.toArray parts := by kernel_rfl

theorem fill_cons (place : Nat → Option (Nat × Nat)) (cells : Array Value) (x : Nat × Value) (rest : List (Nat × Value)) (c : Array Value) (h : Instr.fill place cells [x] = some c) : Instr.fill place cells (x :: rest) = Instr.fill place c rest := by
  obtain ⟨i, v⟩ := x
  unfold Instr.fill at h ⊢
  cases hp : place i with
  | none => simp [hp] at h
  | some p =>
    obtain ⟨off, n⟩ := p
    simp only [hp] at h ⊢
    split at h
    · cases h
    · rename_i hc
      rw [if_neg hc]
      simp only [Instr.fill] at h
      injection h with h
      rw [h]
      conv => lhs; unfold Instr.fill

theorem ref_built (d : List UInt8) (VL : List Value) (hV : VL = Lib.byteCells d) (hd : d.length = 32) (a n : Int) : Try.prog.built 26 [(0, .agg VL.toArray), (1, .int .i64 a), (2, .int .i64 n)] = some (refC d a n).toArray := by
  have hl : VL.length = 32 := by rw [hV, Lib.byteCells_length, hd]
  rw [ref_fill]
  have h1 := fill_mid (#[(0, 32), (32, 1), (33, 1)][·]?) refZ.toArray 0 0 VL (by rw [hl]; rfl) (by rw [hl]; decide +kernel)
  rw [hl] at h1
  have e : (refZ.toArray.toList.take 0 ++ (VL ++ refZ.toArray.toList.drop (0 + 32)) : List Value) = VL ++ [Value.int .i64 0, Value.int .i64 0] := by rfl
  rw [e] at h1
  have h2 : Instr.fill (#[(0, 32), (32, 1), (33, 1)][·]?) (VL ++ [Value.int .i64 0, Value.int .i64 0]).toArray [(1, .int .i64 a), (2, .int .i64 n)] = some (VL ++ [Value.int .i64 a, Value.int .i64 n]).toArray := by
    simp [Instr.fill, Value.cells, hl, List.set_append_right]
  unfold refC
  rw [← hV, ← h2]
  exact fill_cons _ _ _ _ _ h1

theorem refC_at {d : List UInt8} (hd : d.length = 32) (a n : Int) : (refC d a n)[32]? = some (.int .i64 a) ∧ (refC d a n)[33]? = some (.int .i64 n) := by
  unfold refC
  constructor <;> rw [List.getElem?_append_right (by rw [Lib.byteCells_length, hd]; decide), Lib.byteCells_length, hd] <;> rfl

theorem ref_fields : (Try.prog.fieldsOf 26).toList.map (fun f => (f.name == "_", f.type, f.offset)) = [(false, 24, 0), (false, 3, 32), (false, 3, 33)] := by kernel_rfl
theorem ref_held : Try.prog.stoodInHeld 26 = false := by kernel_rfl
theorem ref_under : Try.prog.underlying 26 = some (.struct (Try.prog.fieldsOf 26)) := by kernel_rfl

theorem dig_part {d : List UInt8} (hd : d.length = 32) (a n : Int) (w : World) : (part 24 (refC d a n).toArray 0).run Try.prog w = .ok (.agg (Lib.byteCells d).toArray) w := by
  have hs : (Try.prog.info? 24).map (·.size) = some 32 := digInfo
  have hu := Try.underlying24
  have hl : (Lib.byteCells d).length = 32 := by rw [Lib.byteCells_length, hd]
  cases hq : Try.prog.info? 24 with
  | none => simp [hq] at hs
  | some i0 =>
    have h1 : i0.size = 32 := by simpa [hq] using hs
    have e : List.take 32 (refC d a n) = Lib.byteCells d := by
      unfold refC
      rw [← hl, List.take_left]
    simp [part, isAgg, run_underlying hu, sizeOf, typeInfo, hq, h1, e]

theorem int_part {d : List UInt8} (hd : d.length = 32) (a n : Int) (w : World) : (part 3 (refC d a n).toArray 32).run Try.prog w = .ok (.int .i64 a) w ∧ (part 3 (refC d a n).toArray 33).run Try.prog w = .ok (.int .i64 n) w := by
  have hu := Try.underlying3
  have h := refC_at hd a n
  constructor <;> simp [part, isAgg, run_underlying hu, h.1, h.2]

set_option maxRecDepth 100000 in
theorem dig_eqv_at (e : Nat) (X Y : List UInt8) (hX : X.length = 32) (hY : Y.length = 32) (w : World) :
    (Op.equalIn (e + 1 + 1) 24 (.agg (Lib.byteCells X).toArray) (.agg (Lib.byteCells Y).toArray)).run Try.prog w = .ok (decide (X = Y)) w := by
  have hi : Try.prog.info? 5 = some ((Try.prog.info? 5).get (by kernel_rfl)) := (Option.some_get _).symm
  have h1 := run_equalIn_array (P := Try.prog) (w := w) (e + 1) (Lib.byteCells X).toArray (Lib.byteCells Y).toArray Try.underlying24 hi
  have hc : Try.prog.cellsOf 5 = 1 := by kernel_rfl
  rw [hc, eqItems_bytesD e X Y w (List.range 32) (fun i hi => by have := List.mem_range.1 hi; omega), all_getDD hX hY] at h1
  exact h1

theorem ref_list : ∃ f g h : Field, (Try.prog.fieldsOf 26).toList = [f, g, h] ∧ (f.name ≠ "_" ∧ f.type = 24 ∧ f.offset = 0) ∧ (g.name ≠ "_" ∧ g.type = 3 ∧ g.offset = 32) ∧ (h.name ≠ "_" ∧ h.type = 3 ∧ h.offset = 33) := by
  have h := ref_fields
  revert h
  generalize (Try.prog.fieldsOf 26).toList = l
  intro h
  cases l with
  | nil => simp at h
  | cons f l => cases l with
    | nil => simp at h
    | cons g l => cases l with
      | nil => simp at h
      | cons k l => cases l with
        | cons _ _ => simp at h
        | nil =>
          simp only [List.map_cons, List.map_nil, List.cons.injEq, Prod.mk.injEq, beq_eq_false_iff_ne, and_true] at h
          exact ⟨f, g, k, rfl, h.1, h.2.1, h.2.2⟩

theorem eqFields_yes {P : Program} {d : Nat} {xs ys : Array Value} {f : Field} {fs : List Field} {w : World} {a b : Value} (hn : f.name ≠ "_") (ha : (part f.type xs f.offset).run P w = .ok a w) (hb : (part f.type ys f.offset).run P w = .ok b w) (he : (Op.equalIn d f.type a b).run P w = .ok true w) :
    (Op.eqFields d xs ys (f :: fs)).run P w = (Op.eqFields d xs ys fs).run P w := by
  rw [Op.eqFields, if_pos hn]
  simp only [Sem.run_bind, ha, hb, he, Result.andThen_ok, Bool.not_true, Bool.false_eq_true, if_false]
theorem eqFields_no {P : Program} {d : Nat} {xs ys : Array Value} {f : Field} {fs : List Field} {w : World} {a b : Value} (hn : f.name ≠ "_") (ha : (part f.type xs f.offset).run P w = .ok a w) (hb : (part f.type ys f.offset).run P w = .ok b w) (he : (Op.equalIn d f.type a b).run P w = .ok false w) :
    (Op.eqFields d xs ys (f :: fs)).run P w = .ok false w := by
  rw [Op.eqFields, if_pos hn]
  simp only [Sem.run_bind, ha, hb, he, Result.andThen_ok, Bool.not_false, if_true, Sem.run_pure]
theorem eqFields_nil {P : Program} {d : Nat} {xs ys : Array Value} {w : World} : (Op.eqFields d xs ys []).run P w = .ok true w := by
  rw [Op.eqFields, Sem.run_pure]

/-- '==' on two Refs, at any depth. -/
theorem ref_eqv_at (e : Nat) (X Y : List UInt8) (hX : X.length = 32) (hY : Y.length = 32) (a n b m : Int) (w : World) :
    (Op.equalIn (e + 1 + 1 + 1) 26 (.agg (refC X a n).toArray) (.agg (refC Y b m).toArray)).run Try.prog w = .ok (decide (X = Y) && (a == b) && (n == m)) w := by
  obtain ⟨f, g, h, hl, ⟨f1, f2, f3⟩, ⟨g1, g2, g3⟩, ⟨h1, h2, h3⟩⟩ := ref_list
  rw [run_equalIn_struct w (e + 1 + 1) 26 _ _ ref_under ref_held, hl]
  have p1 := dig_part hX a n w
  have p2 := dig_part hY b m w
  have p3 := int_part hX a n w
  have p4 := int_part hY b m w
  have q1 := dig_eqv_at e X Y hX hY w
  have q2 := run_equalIn_int w (e + 1) 3 .i64 .i64 a b Try.underlying3
  have q3 := run_equalIn_int w (e + 1) 3 .i64 .i64 n m Try.underlying3
  by_cases hXY : X = Y
  · rw [decide_eq_true hXY] at q1
    rw [eqFields_yes f1 (by rw [f2, f3]; exact p1) (by rw [f2, f3]; exact p2) (by rw [f2]; exact q1), decide_eq_true hXY]
    by_cases hab : a = b
    · have hab' : (a == b) = true := by simp [hab]
      rw [hab'] at q2
      rw [eqFields_yes g1 (by rw [g2, g3]; exact p3.1) (by rw [g2, g3]; exact p4.1) (by rw [g2]; exact q2), hab']
      by_cases hnm : n = m
      · have hnm' : (n == m) = true := by simp [hnm]
        rw [hnm'] at q3
        rw [eqFields_yes h1 (by rw [h2, h3]; exact p3.2) (by rw [h2, h3]; exact p4.2) (by rw [h2]; exact q3), hnm', eqFields_nil]
        rfl
      · have hnm' : (n == m) = false := by simp [hnm]
        rw [hnm'] at q3
        rw [eqFields_no h1 (by rw [h2, h3]; exact p3.2) (by rw [h2, h3]; exact p4.2) (by rw [h2]; exact q3), hnm']
        rfl
    · have hab' : (a == b) = false := by simp [hab]
      rw [hab'] at q2
      rw [eqFields_no g1 (by rw [g2, g3]; exact p3.1) (by rw [g2, g3]; exact p4.1) (by rw [g2]; exact q2), hab']
      rfl
  · rw [decide_eq_false hXY] at q1
    rw [eqFields_no f1 (by rw [f2, f3]; exact p1) (by rw [f2, f3]; exact p2) (by rw [f2]; exact q1), decide_eq_false hXY]
    rfl

theorem ref_eqv (X Y : List UInt8) (hX : X.length = 32) (hY : Y.length = 32) (a n b m : Int) (XL YL : List Value) (hXL : XL = refC X a n) (hYL : YL = refC Y b m) (w : World) :
    (Op.equalIn 10000 26 (.agg XL.toArray) (.agg YL.toArray)).run Try.prog w = .ok (decide (X = Y) && (a == b) && (n == m)) w := by
  subst hXL hYL
  exact ref_eqv_at 9997 X Y hX hY a n b m w
theorem gtR : Try.prog.eqGuardType Try.prog.depth 26 = false := by kernel_rfl


set_option maxRecDepth 100000 in
theorem ref_built1 (d : List UInt8) (VL : List Value) (hV : VL = Lib.byteCells d) (hd : d.length = 32) : Try.prog.built 26 [(0, .agg VL.toArray)] = some (refC d 0 0).toArray := by
  have hl : VL.length = 32 := by rw [hV, Lib.byteCells_length, hd]
  rw [ref_fill]
  have h1 := fill_mid (#[(0, 32), (32, 1), (33, 1)][·]?) refZ.toArray 0 0 VL (by rw [hl]; rfl) (by rw [hl]; decide +kernel)
  rw [hl] at h1
  rw [h1, hV]
  rfl
theorem refC_set1 {d : List UInt8} (hd : d.length = 32) (a n x : Int) : (refC d a n).set 32 (.int .i64 x) = refC d x n := by
  unfold refC
  rw [List.set_append_right _ _ (by rw [Lib.byteCells_length, hd]; exact Nat.le_refl _), Lib.byteCells_length, hd]
  rfl
theorem refC_set2 {d : List UInt8} (hd : d.length = 32) (a n x : Int) : (refC d a n).set 33 (.int .i64 x) = refC d a x := by
  unfold refC
  rw [List.set_append_right _ _ (by rw [Lib.byteCells_length, hd]; decide), Lib.byteCells_length, hd]
  rfl
theorem Turn.only {p : Nat} {w w' : World} (h : Turn p w w') : Only (fun b => b = p) w w' := ⟨h.os, h.tape, h.output, h.size, fun k hk hn => h.block k hk (fun e => hn (by injection e))⟩
theorem Only.turn {p : Nat} {w w' : World} (h : Only (fun b => b = p) w w') : Turn p w w' := ⟨h.os, h.tape, h.output, h.size, fun k hk hn => h.block k hk (fun e => hn (by rw [e]))⟩
/-- What Take gives. -/
def tkC (d : List UInt8) (a n : Nat) (b : Bool) : List Value := if b then refZ else refC d (a : Nat) (n : Nat)
theorem numF_le' (most : Nat) (l : List UInt8) : (numF most l).1 ≤ most := by
  unfold numF
  split
  · exact Nat.zero_le _
  · rename_i h; exact Nat.le_of_not_lt (fun e => h (.inr e))

/-- What lies at p and below stays. -/
def Low (p : Nat) (w w' : World) : Prop := w.heap.size ≤ w'.heap.size ∧ ∀ k, k ≤ p → w'.heap[k]? = w.heap[k]?
theorem PInL.low {lo p : Nat} {l : List UInt8} {wr : Bool} {w w' : World} (h : PInL lo w p l wr) (hb : Low p w w') : PInL lo w' p l wr := by
  obtain ⟨A, c, hg, h1, h2, h3, h4⟩ := h
  exact ⟨A, c, (hb.2 p (Nat.le_refl _)).trans hg, h1, h2, h3.keep fun b o hlt => World.cell?_of_block (hb.2 b (Nat.le_of_lt hlt)), h4⟩
theorem RIn.low {q : Nat} {L : List UInt8} {A : Option Addr} {c o : Nat} {wr : Bool} {w w' : World} (h : RIn w q L A c o wr) (hb : Low q w w') : RIn w' q L A c o wr := (hb.2 q (Nat.le_refl _)).trans h
theorem RFix.low {q : Nat} {L : List UInt8} {A : Option Addr} {c : Nat} {w w' : World} (h : RFix w q L A c) (hb : Low q w w') : RFix w' q L A c :=
  ⟨h.le, h.lim, h.cap, h.bytes.keep fun b o hlt => World.cell?_of_block (hb.2 b (Nat.le_of_lt hlt))⟩
theorem ref_zeroT : Try.prog.built 26 [] = some refZ.toArray := by kernel_rfl

set_option maxHeartbeats 8000000 in
set_option maxRecDepth 100000 in
theorem btake_gen (p : Nat) (I0 I1 I2 I3 : World → Prop) (d : List UInt8) (hdl : d.length = 32) (VL : List Value) (hVL : VL = Lib.byteCells d) (a n : Nat) (ha : a ≤ 65535) (hn : n ≤ 65536) (b3 : Bool) (TL : List Value) (hTL : TL = tkC d a n b3)
    (k0 : ∀ w w', I0 w → Low p w w' → I0 w') (k1 : ∀ w w', I1 w → Low p w w' → I1 w') (k2 : ∀ w w', I2 w → Low p w w' → I2 w') (k3 : ∀ w w', I3 w → Low p w w' → I3 w')
    (hdig : ∀ w, I0 w → Calls Try.prog 41 #[.pointer (some ⟨p, 0, none⟩)] w fun e w' => e = .returned (.agg VL.toArray) ∧ I1 w' ∧ Turn p w w')
    (hn1 : ∀ w, I1 w → Calls Try.prog 37 #[.pointer (some ⟨p, 0, none⟩), .int .u64 65535] w fun e w' => e = .returned (.int .u64 (a : Nat)) ∧ I2 w' ∧ Turn p w w')
    (hn2 : ∀ w, I2 w → Calls Try.prog 37 #[.pointer (some ⟨p, 0, none⟩), .int .u64 65536] w fun e w' => e = .returned (.int .u64 (n : Nat)) ∧ I3 w' ∧ Turn p w w')
    (hwr : ∀ w, I3 w → Calls Try.prog 67 #[.pointer (some ⟨p, 0, none⟩)] w fun e w' => e = .returned (.bool b3) ∧ w' = w)
    (w : World) (h : I0 w) (hp : p < w.heap.size) :
    Calls Try.prog 38 #[.pointer (some ⟨p, 0, none⟩)] w fun e w' => e = .returned (.agg TL.toArray) ∧ I3 w' ∧ Turn p w w' := by
  have hVl : VL.length = 32 := by rw [hVL, Lib.byteCells_length]; exact hdl
  have hB1 := ref_built1 d VL hVL hdl
  obtain ⟨D0, hD0⟩ : ∃ x, x = refC d 0 0 := ⟨_, rfl⟩
  obtain ⟨D1, hD1⟩ : ∃ x, x = refC d a 0 := ⟨_, rfl⟩
  obtain ⟨D2, hD2⟩ : ∃ x, x = refC d a n := ⟨_, rfl⟩
  have hs1 : D0.set 32 (.int .i64 (a : Nat)) = D1 := by rw [hD0, hD1]; exact refC_set1 hdl _ _ _
  have hs2 : D1.set 33 (.int .i64 (n : Nat)) = D2 := by rw [hD1, hD2]; exact refC_set2 hdl _ _ _
  have h032 : D0[32]? = some (.int .i64 0) := by rw [hD0]; exact (refC_at hdl 0 0).1
  have h133 : D1[33]? = some (.int .i64 0) := by rw [hD1]; exact (refC_at hdl a 0).2
  rw [← hD0] at hB1
  have HB1 := Lib.hid hB1
  have hD0l : D0.length = 34 := by rw [hD0]; exact refC_length hdl _ _
  have hD2l : D2.length = 34 := by rw [hD2]; exact refC_length hdl _ _
  have HDi := Lib.hid (show (Try.prog.info? 26).map (·.size) = some D0.toArray.size by rw [List.size_toArray, hD0l]; exact refSize)
  have HDs := Lib.hid (show refZ.toArray.size = D0.toArray.size by rw [List.size_toArray, List.size_toArray, hD0l]; rfl)
  have HD1 := Lib.hid (show D0.toArray.all (·.oneCell') = true by rw [hD0]; exact all_oneCell_toArray (refC_cell _ _ _))
  have HEi := Lib.hid (show (Try.prog.info? 26).map (·.size) = some D2.toArray.size by rw [List.size_toArray, hD2l]; exact refSize)
  have hTl : TL.length = 34 := by rw [hTL]; unfold tkC; split; exact refC_length (by simp) _ _; exact refC_length hdl _ _
  have HTi := Lib.hid (show (Try.prog.info? 26).map (·.size) = some TL.toArray.size by rw [List.size_toArray, hTl]; exact refSize)
  have HTs := Lib.hid (show refZ.toArray.size = TL.toArray.size by rw [List.size_toArray, List.size_toArray, hTl]; rfl)
  have HT1 := Lib.hid (show TL.toArray.all (·.oneCell') = true by rw [hTL]; unfold tkC; split; exact all_oneCell_toArray (refC_cell _ _ _); exact all_oneCell_toArray (refC_cell _ _ _))
  have hia : IntKind.i64.wrap ((a : Nat) : Int) = ((a : Nat) : Int) := IntWalk.i64_in _ (by omega)
  have hin : IntKind.i64.wrap ((n : Nat) : Int) = ((n : Nat) : Int) := IntWalk.i64_in _ (by omega)
  have Hz := Lib.hid (show b3 = true → Try.prog.built 26 [] = some TL.toArray from fun e => by rw [hTL, e]; exact ref_zeroT)
  have He := Lib.hid (show b3 = false → D2 = TL from fun e => by rw [hTL, hD2, e]; rfl)
  obtain ⟨W1, hW1⟩ : ∃ x, x = w.alloc (.cells refZ.toArray 26) := ⟨_, rfl⟩
  have hR1 : Arr W1 w.heap.size 26 refZ := by rw [hW1]; exact Arr.new w _ _
  have hO1 : Only (fun b => b = p) w W1 := by rw [hW1]; exact (Only.refl _ w).alloc _
  have hz1 : w.heap.size < W1.heap.size := hR1.lt
  have hI1 : I0 W1 := k0 w W1 h ⟨by omega, fun k hk => by rw [hW1]; exact Below.heap_alloc w _ k (by omega)⟩
  have HW1 := Lib.hid hW1
  have HS1 := Lib.hid hs1
  have HS2 := Lib.hid hs2
  clear hW1 hD0 hD1 hD2 hVL hTL hB1 hs1 hs2
  go_enter Try.func38, Try.ntmps38
  go_upto_region 1 with fail
  change Code.wp _ _ _ _ (w.alloc (.cells refZ.toArray 26))
  rw [← HW1.out]
  clear HW1
  go_wp2_with fail
  go_at_call 41
  refine Calls.mono (hdig W1 hI1) ?_
  rintro e w2 ⟨rfl, hI2, ht2⟩
  have hO2 := hO1.trans ht2.only
  have hR2 : Arr w2 w.heap.size 26 refZ := hR1.only ht2.only (by omega)
  have hz2 := ht2.size
  clear hdig hO1 hR1 hI1 ht2
  go_wp2_with (first
    | (refine wpList_builtD rfl _ _ rfl [(0, .agg VL.toArray)] rfl D0.toArray HB1.out ?_)
    | (change wpList _ _ _ _ _ (w2.alloc (.cells refZ.toArray 26)); refine wpList_store_row rfl _ _ _ rfl w2.heap.size D0.toArray rfl rfl 26 refZ.toArray (heap_alloc_new w2 _) HDi.out HDs.out HD1.out ?_; obtain ⟨w3, hw3⟩ : ∃ x, x = (w2.alloc (.cells refZ.toArray 26)).setRow w2.heap.size D0.toArray := ⟨_, rfl⟩; rw [← hw3]; obtain ⟨hX3, hb3⟩ := alloc_rowD w2 26 refZ.toArray D0; rw [← hw3] at hX3 hb3; clear hw3))
  obtain ⟨g, hg⟩ : ∃ g, g = w2.heap.size := ⟨_, rfl⟩
  rw [← hg] at hX3 ⊢
  have hgp : p < g := by omega
  have hgw : w.heap.size < g := by omega
  have hR3 : Arr w3 w.heap.size 26 refZ := hR2.below hb3 hR2.lt
  have hO3 := hO2.step hb3
  have hI3 : I1 w3 := k1 w2 w3 hI2 ⟨hb3.size, fun k hk => hb3.block k (by omega)⟩
  have hz3 := hb3.size
  have hgz : g < w3.heap.size := hX3.lt
  clear hb3 hO2 hR2 hI2 hg hz3 hz2
  refine Calls.mono (hn1 w3 hI3) ?_
  rintro e w4 ⟨rfl, hI4, ht4⟩
  have hX4 := hX3.only ht4.only (by omega)
  have hR4 := hR3.only ht4.only (by omega)
  have hO4 := hO3.trans ht4.only
  have hz4 := ht4.size
  have hc4 : w4.cell? ⟨g, 32, none⟩ = some (.int .i64 0) := by rw [hX4.cell]; exact h032
  have hf4 := hX4.frozen 32
  clear hX3 hR3 hO3 hI3 ht4 hn1
  go_wp2_with fail
  obtain ⟨w5, hw5⟩ : ∃ x, x = w4.setCell ⟨g, 32, none⟩ (.int .i64 (a : Nat)) := ⟨_, rfl⟩
  have hX5 : Arr w5 g 26 D1 := by rw [hw5, ← HS1.out]; exact hX4.set 32 _
  have hR5 : Arr w5 w.heap.size 26 refZ := by rw [hw5]; exact hR4.setOther (Nat.ne_of_lt hgw) _
  have hO5 : Only (fun b => b = p) w w5 := by rw [hw5]; exact hO4.setCell (p := ⟨g, 32, none⟩) (.inr (Nat.le_of_lt hgw)) _
  have hz5 : w5.heap.size = w4.heap.size := by rw [hw5]; simp [World.setCell]
  have hI5 : I2 w5 := k2 w4 w5 hI4 ⟨by omega, fun k hk => by rw [hw5]; exact Below.heap_setCell w4 _ _ k (show k ≠ g by omega)⟩
  rw [← hw5]
  clear hw5 hX4 hR4 hO4 hI4 hc4 hf4
  go_wp2_with fail
  refine Calls.mono (hn2 w5 hI5) ?_
  rintro e w6 ⟨rfl, hI6, ht6⟩
  have hX6 := hX5.only ht6.only (by omega)
  have hR6 := hR5.only ht6.only (by omega)
  have hO6 := hO5.trans ht6.only
  have hz6 := ht6.size
  have hc6 : w6.cell? ⟨g, 33, none⟩ = some (.int .i64 0) := by rw [hX6.cell]; exact h133
  have hf6 := hX6.frozen 33
  clear hX5 hR5 hO5 hI5 ht6 hn2
  go_wp2_with fail
  obtain ⟨w7, hw7⟩ : ∃ x, x = w6.setCell ⟨g, 33, none⟩ (.int .i64 (n : Nat)) := ⟨_, rfl⟩
  have hX7 : Arr w7 g 26 D2 := by rw [hw7, ← HS2.out]; exact hX6.set 33 _
  have hR7 : Arr w7 w.heap.size 26 refZ := by rw [hw7]; exact hR6.setOther (Nat.ne_of_lt hgw) _
  have hO7 : Only (fun b => b = p) w w7 := by rw [hw7]; exact hO6.setCell (p := ⟨g, 33, none⟩) (.inr (Nat.le_of_lt hgw)) _
  have hz7 : w7.heap.size = w6.heap.size := by rw [hw7]; simp [World.setCell]
  have hI7 : I3 w7 := k3 w6 w7 hI6 ⟨by omega, fun k hk => by rw [hw7]; exact Below.heap_setCell w6 _ _ k (show k ≠ g by omega)⟩
  rw [← hw7]
  clear hw7 hX6 hR6 hO6 hI6 hc6 hf6
  have hR7h : Hid (w7.heap[w.heap.size]? = some (.cells refZ.toArray 26 (0, 0))) := hR7
  have hset := hR7.setRow TL
  have hOz : Only (fun b => b = p) w (w7.setRow w.heap.size TL.toArray) := hO7.setRow (.inr (Nat.le_refl _)) _
  have hIz : I3 (w7.setRow w.heap.size TL.toArray) := k3 w7 _ hI7 ⟨by simp, fun k hk => setRow_other w7 _ k _ (by omega)⟩
  cases b3
  · go_wp2_with fail
    refine Calls.mono (hwr w7 hI7) ?_
    rintro e w8 ⟨rfl, rfl⟩
    have e := He.out (by first | rfl | trivial)
    subst e
    go_wp2_with (first
      | (refine wpList_load_row rfl _ _ rfl g rfl 26 D2.toArray (0, 0) _ hX7 Try.underlying26 rfl HEi.out ?_)
      | (refine wpList_store_row rfl _ _ _ rfl w.heap.size D2.toArray rfl rfl 26 refZ.toArray hR7h.out HTi.out HTs.out HT1.out ?_))
    exact bodyPost_ret (v := .agg D2.toArray) (results_cell_row (by rfl) _ _ w.heap.size 26 D2.toArray (0, 0) _ (by rfl) hset Try.underlying26 rfl HTi.out) rfl ⟨rfl, hIz, hOz.turn⟩
  · have Hz2 := Lib.hid (Hz.out (by first | rfl | trivial))
    go_wp2_with fail
    refine Calls.mono (hwr w7 hI7) ?_
    rintro e w8 ⟨rfl, rfl⟩
    go_wp2_with (first
      | (refine wpList_builtD rfl _ _ rfl [] rfl TL.toArray Hz2.out ?_)
      | (refine wpList_store_row rfl _ _ _ rfl w.heap.size TL.toArray rfl rfl 26 refZ.toArray hR7h.out HTi.out HTs.out HT1.out ?_))
    exact bodyPost_ret (v := .agg TL.toArray) (results_cell_row (by rfl) _ _ w.heap.size 26 TL.toArray (0, 0) _ (by rfl) hset Try.underlying26 rfl HTi.out) rfl ⟨rfl, hIz, hOz.turn⟩

set_option maxHeartbeats 8000000 in
set_option maxRecDepth 100000 in
theorem rtake_gen (p : Nat) (I0 I1 I2 I3 : World → Prop) (d : List UInt8) (hdl : d.length = 32) (VL : List Value) (hVL : VL = Lib.byteCells d) (a n : Nat) (ha : a ≤ 65535) (hn : n ≤ 65536) (b3 : Bool) (TL : List Value) (hTL : TL = tkC d a n b3)
    (k0 : ∀ w w', I0 w → Low p w w' → I0 w') (k1 : ∀ w w', I1 w → Low p w w' → I1 w') (k2 : ∀ w w', I2 w → Low p w w' → I2 w') (k3 : ∀ w w', I3 w → Low p w w' → I3 w')
    (hdig : ∀ w, I0 w → Calls Try.prog 52 #[.pointer (some ⟨p, 0, none⟩)] w fun e w' => e = .returned (.agg VL.toArray) ∧ I1 w' ∧ Turn p w w')
    (hn1 : ∀ w, I1 w → Calls Try.prog 49 #[.pointer (some ⟨p, 0, none⟩), .int .u64 65535] w fun e w' => e = .returned (.int .u64 (a : Nat)) ∧ I2 w' ∧ Turn p w w')
    (hn2 : ∀ w, I2 w → Calls Try.prog 49 #[.pointer (some ⟨p, 0, none⟩), .int .u64 65536] w fun e w' => e = .returned (.int .u64 (n : Nat)) ∧ I3 w' ∧ Turn p w w')
    (hwr : ∀ w, I3 w → w.cell? ⟨p, 2, none⟩ = some (.bool b3))
    (w : World) (h : I0 w) (hp : p < w.heap.size) :
    Calls Try.prog 50 #[.pointer (some ⟨p, 0, none⟩)] w fun e w' => e = .returned (.agg TL.toArray) ∧ I3 w' ∧ Turn p w w' := by
  have hVl : VL.length = 32 := by rw [hVL, Lib.byteCells_length]; exact hdl
  have hB1 := ref_built1 d VL hVL hdl
  obtain ⟨D0, hD0⟩ : ∃ x, x = refC d 0 0 := ⟨_, rfl⟩
  obtain ⟨D1, hD1⟩ : ∃ x, x = refC d a 0 := ⟨_, rfl⟩
  obtain ⟨D2, hD2⟩ : ∃ x, x = refC d a n := ⟨_, rfl⟩
  have hs1 : D0.set 32 (.int .i64 (a : Nat)) = D1 := by rw [hD0, hD1]; exact refC_set1 hdl _ _ _
  have hs2 : D1.set 33 (.int .i64 (n : Nat)) = D2 := by rw [hD1, hD2]; exact refC_set2 hdl _ _ _
  have h032 : D0[32]? = some (.int .i64 0) := by rw [hD0]; exact (refC_at hdl 0 0).1
  have h133 : D1[33]? = some (.int .i64 0) := by rw [hD1]; exact (refC_at hdl a 0).2
  rw [← hD0] at hB1
  have HB1 := Lib.hid hB1
  have hD0l : D0.length = 34 := by rw [hD0]; exact refC_length hdl _ _
  have hD2l : D2.length = 34 := by rw [hD2]; exact refC_length hdl _ _
  have HDi := Lib.hid (show (Try.prog.info? 26).map (·.size) = some D0.toArray.size by rw [List.size_toArray, hD0l]; exact refSize)
  have HDs := Lib.hid (show refZ.toArray.size = D0.toArray.size by rw [List.size_toArray, List.size_toArray, hD0l]; rfl)
  have HD1 := Lib.hid (show D0.toArray.all (·.oneCell') = true by rw [hD0]; exact all_oneCell_toArray (refC_cell _ _ _))
  have HEi := Lib.hid (show (Try.prog.info? 26).map (·.size) = some D2.toArray.size by rw [List.size_toArray, hD2l]; exact refSize)
  have hTl : TL.length = 34 := by rw [hTL]; unfold tkC; split; exact refC_length (by simp) _ _; exact refC_length hdl _ _
  have HTi := Lib.hid (show (Try.prog.info? 26).map (·.size) = some TL.toArray.size by rw [List.size_toArray, hTl]; exact refSize)
  have HTs := Lib.hid (show refZ.toArray.size = TL.toArray.size by rw [List.size_toArray, List.size_toArray, hTl]; rfl)
  have HT1 := Lib.hid (show TL.toArray.all (·.oneCell') = true by rw [hTL]; unfold tkC; split; exact all_oneCell_toArray (refC_cell _ _ _); exact all_oneCell_toArray (refC_cell _ _ _))
  have hia : IntKind.i64.wrap ((a : Nat) : Int) = ((a : Nat) : Int) := IntWalk.i64_in _ (by omega)
  have hin : IntKind.i64.wrap ((n : Nat) : Int) = ((n : Nat) : Int) := IntWalk.i64_in _ (by omega)
  have Hz := Lib.hid (show b3 = true → Try.prog.built 26 [] = some TL.toArray from fun e => by rw [hTL, e]; exact ref_zeroT)
  have He := Lib.hid (show b3 = false → D2 = TL from fun e => by rw [hTL, hD2, e]; rfl)
  obtain ⟨W1, hW1⟩ : ∃ x, x = w.alloc (.cells refZ.toArray 26) := ⟨_, rfl⟩
  have hR1 : Arr W1 w.heap.size 26 refZ := by rw [hW1]; exact Arr.new w _ _
  have hO1 : Only (fun b => b = p) w W1 := by rw [hW1]; exact (Only.refl _ w).alloc _
  have hz1 : w.heap.size < W1.heap.size := hR1.lt
  have hI1 : I0 W1 := k0 w W1 h ⟨by omega, fun k hk => by rw [hW1]; exact Below.heap_alloc w _ k (by omega)⟩
  have HW1 := Lib.hid hW1
  have HS1 := Lib.hid hs1
  have HS2 := Lib.hid hs2
  clear hW1 hD0 hD1 hD2 hVL hTL hB1 hs1 hs2
  go_enter Try.func50, Try.ntmps50
  go_upto_region 1 with fail
  change Code.wp _ _ _ _ (w.alloc (.cells refZ.toArray 26))
  rw [← HW1.out]
  clear HW1
  go_wp2_with fail
  go_at_call 52
  refine Calls.mono (hdig W1 hI1) ?_
  rintro e w2 ⟨rfl, hI2, ht2⟩
  have hO2 := hO1.trans ht2.only
  have hR2 : Arr w2 w.heap.size 26 refZ := hR1.only ht2.only (by omega)
  have hz2 := ht2.size
  clear hdig hO1 hR1 hI1 ht2
  go_wp2_with (first
    | (refine wpList_builtD rfl _ _ rfl [(0, .agg VL.toArray)] rfl D0.toArray HB1.out ?_)
    | (change wpList _ _ _ _ _ (w2.alloc (.cells refZ.toArray 26)); refine wpList_store_row rfl _ _ _ rfl w2.heap.size D0.toArray rfl rfl 26 refZ.toArray (heap_alloc_new w2 _) HDi.out HDs.out HD1.out ?_; obtain ⟨w3, hw3⟩ : ∃ x, x = (w2.alloc (.cells refZ.toArray 26)).setRow w2.heap.size D0.toArray := ⟨_, rfl⟩; rw [← hw3]; obtain ⟨hX3, hb3⟩ := alloc_rowD w2 26 refZ.toArray D0; rw [← hw3] at hX3 hb3; clear hw3))
  obtain ⟨g, hg⟩ : ∃ g, g = w2.heap.size := ⟨_, rfl⟩
  rw [← hg] at hX3 ⊢
  have hgp : p < g := by omega
  have hgw : w.heap.size < g := by omega
  have hR3 : Arr w3 w.heap.size 26 refZ := hR2.below hb3 hR2.lt
  have hO3 := hO2.step hb3
  have hI3 : I1 w3 := k1 w2 w3 hI2 ⟨hb3.size, fun k hk => hb3.block k (by omega)⟩
  have hz3 := hb3.size
  have hgz : g < w3.heap.size := hX3.lt
  clear hb3 hO2 hR2 hI2 hg hz3 hz2
  refine Calls.mono (hn1 w3 hI3) ?_
  rintro e w4 ⟨rfl, hI4, ht4⟩
  have hX4 := hX3.only ht4.only (by omega)
  have hR4 := hR3.only ht4.only (by omega)
  have hO4 := hO3.trans ht4.only
  have hz4 := ht4.size
  have hc4 : w4.cell? ⟨g, 32, none⟩ = some (.int .i64 0) := by rw [hX4.cell]; exact h032
  have hf4 := hX4.frozen 32
  clear hX3 hR3 hO3 hI3 ht4 hn1
  go_wp2_with fail
  obtain ⟨w5, hw5⟩ : ∃ x, x = w4.setCell ⟨g, 32, none⟩ (.int .i64 (a : Nat)) := ⟨_, rfl⟩
  have hX5 : Arr w5 g 26 D1 := by rw [hw5, ← HS1.out]; exact hX4.set 32 _
  have hR5 : Arr w5 w.heap.size 26 refZ := by rw [hw5]; exact hR4.setOther (Nat.ne_of_lt hgw) _
  have hO5 : Only (fun b => b = p) w w5 := by rw [hw5]; exact hO4.setCell (p := ⟨g, 32, none⟩) (.inr (Nat.le_of_lt hgw)) _
  have hz5 : w5.heap.size = w4.heap.size := by rw [hw5]; simp [World.setCell]
  have hI5 : I2 w5 := k2 w4 w5 hI4 ⟨by omega, fun k hk => by rw [hw5]; exact Below.heap_setCell w4 _ _ k (show k ≠ g by omega)⟩
  rw [← hw5]
  clear hw5 hX4 hR4 hO4 hI4 hc4 hf4
  go_wp2_with fail
  refine Calls.mono (hn2 w5 hI5) ?_
  rintro e w6 ⟨rfl, hI6, ht6⟩
  have hX6 := hX5.only ht6.only (by omega)
  have hR6 := hR5.only ht6.only (by omega)
  have hO6 := hO5.trans ht6.only
  have hz6 := ht6.size
  have hc6 : w6.cell? ⟨g, 33, none⟩ = some (.int .i64 0) := by rw [hX6.cell]; exact h133
  have hf6 := hX6.frozen 33
  clear hX5 hR5 hO5 hI5 ht6 hn2
  go_upto_region 4 with fail
  obtain ⟨w7, hw7⟩ : ∃ x, x = w6.setCell ⟨g, 33, none⟩ (.int .i64 (n : Nat)) := ⟨_, rfl⟩
  have hX7 : Arr w7 g 26 D2 := by rw [hw7, ← HS2.out]; exact hX6.set 33 _
  have hR7 : Arr w7 w.heap.size 26 refZ := by rw [hw7]; exact hR6.setOther (Nat.ne_of_lt hgw) _
  have hO7 : Only (fun b => b = p) w w7 := by rw [hw7]; exact hO6.setCell (p := ⟨g, 33, none⟩) (.inr (Nat.le_of_lt hgw)) _
  have hz7 : w7.heap.size = w6.heap.size := by rw [hw7]; simp [World.setCell]
  have hI7 : I3 w7 := k3 w6 w7 hI6 ⟨by omega, fun k hk => by rw [hw7]; exact Below.heap_setCell w6 _ _ k (show k ≠ g by omega)⟩
  rw [← hw7]
  clear hw7 hX6 hR6 hO6 hI6 hc6 hf6
  have hR7h : Hid (w7.heap[w.heap.size]? = some (.cells refZ.toArray 26 (0, 0))) := hR7
  have hset := hR7.setRow TL
  have hOz : Only (fun b => b = p) w (w7.setRow w.heap.size TL.toArray) := hO7.setRow (.inr (Nat.le_refl _)) _
  have hIz : I3 (w7.setRow w.heap.size TL.toArray) := k3 w7 _ hI7 ⟨by simp, fun k hk => setRow_other w7 _ k _ (by omega)⟩
  cases b3
  · have hwc := hwr w7 hI7
    have e := He.out (by first | rfl | trivial)
    subst e
    go_wp2_with (first
      | (refine wpList_load_row rfl _ _ rfl g rfl 26 D2.toArray (0, 0) _ hX7 Try.underlying26 rfl HEi.out ?_)
      | (refine wpList_store_row rfl _ _ _ rfl w.heap.size D2.toArray rfl rfl 26 refZ.toArray hR7h.out HTi.out HTs.out HT1.out ?_))
    exact bodyPost_ret (v := .agg D2.toArray) (results_cell_row (by rfl) _ _ w.heap.size 26 D2.toArray (0, 0) _ (by rfl) hset Try.underlying26 rfl HTi.out) rfl ⟨rfl, hIz, hOz.turn⟩
  · have Hz2 := Lib.hid (Hz.out (by first | rfl | trivial))
    have hwc := hwr w7 hI7
    go_wp2_with (first
      | (refine wpList_builtD rfl _ _ rfl [] rfl TL.toArray Hz2.out ?_)
      | (refine wpList_store_row rfl _ _ _ rfl w.heap.size TL.toArray rfl rfl 26 refZ.toArray hR7h.out HTi.out HTs.out HT1.out ?_))
    exact bodyPost_ret (v := .agg TL.toArray) (results_cell_row (by rfl) _ _ w.heap.size 26 TL.toArray (0, 0) _ (by rfl) hset Try.underlying26 rfl HTi.out) rfl ⟨rfl, hIz, hOz.turn⟩


theorem btake_at (L l1 l2 l3 : List UInt8) (b1 b2 b3 : Bool) (d : List UInt8) (a n : Nat) (hd : digF L = d) (h1 : (cutF 32 L).2.1 = l1) (hb1 : (cutF 32 L).2.2 = b1)
    (ha : (numF 65535 l1).1 = a) (h2 : (numF 65535 l1).2.1 = l2) (hb2 : (b1 || (numF 65535 l1).2.2) = b2) (hn : (numF 65536 l2).1 = n) (h3 : (numF 65536 l2).2.1 = l3) (hb3 : (b2 || (numF 65536 l2).2.2) = b3)
    (TL : List Value) (hTL : TL = tkC d a n b3) (p : Nat) (w : World) (h : PIn w p L false) :
    Calls Try.prog 38 #[.pointer (some ⟨p, 0, none⟩)] w fun e w' => e = .returned (.agg TL.toArray) ∧ PIn w' p l3 b3 ∧ Turn p w w' := by
  refine btake_gen p (fun w => PIn w p L false) (fun w => PIn w p l1 b1) (fun w => PIn w p l2 b2) (fun w => PIn w p l3 b3) d (by rw [← hd]; exact digF_length L) (Lib.byteCells d) rfl a n (by rw [← ha]; exact numF_le' _ _) (by rw [← hn]; exact numF_le' _ _) b3 TL hTL
    (fun _ _ h k => h.low k) (fun _ _ h k => h.low k) (fun _ _ h k => h.low k) (fun _ _ h k => h.low k) (fun w h => ?_) (fun w h => ?_) (fun w h => ?_) (fun w h => ?_) w h h.lt
  · refine (digest_in p L false w h).mono ?_
    rintro e w' ⟨he, hp, ht⟩
    rw [h1, hb1, Bool.false_or] at hp
    exact ⟨by rw [he, hd]; rfl, hp, ht⟩
  · refine (show Calls Try.prog 37 #[.pointer (some ⟨p, 0, none⟩), .int .u64 65535] w _ from number_in p 65535 l1 b1 w h (by omega)).mono ?_
    rintro e w' ⟨he, hp, ht⟩
    rw [h2, hb2] at hp
    exact ⟨by rw [he, ha], hp, ht⟩
  · refine (show Calls Try.prog 37 #[.pointer (some ⟨p, 0, none⟩), .int .u64 65536] w _ from number_in p 65536 l2 b2 w h (by omega)).mono ?_
    rintro e w' ⟨he, hp, ht⟩
    rw [h3, hb3] at hp
    exact ⟨by rw [he, hn], hp, ht⟩
  · refine (wrong_in p l3 b3 w h).mono ?_
    rintro e w' ⟨he, hw⟩
    exact ⟨he, hw.symm⟩

theorem rtake_at (L : List UInt8) (A : Option Addr) (c o1 o2 o3 : Nat) (b1 b2 b3 : Bool) (d : List UInt8) (a n : Nat) (hd : rdF L 0 false = d) (hdl : d.length = 32) (h1 : (takeF 32 L 0 false).2.1 = o1) (hb1 : (takeF 32 L 0 false).2.2 = b1)
    (ha : (rnF 65535 L o1 b1).1 = a) (h2 : (rnF 65535 L o1 b1).2.1 = o2) (hb2 : (rnF 65535 L o1 b1).2.2 = b2) (hn : (rnF 65536 L o2 b2).1 = n) (h3 : (rnF 65536 L o2 b2).2.1 = o3) (hb3 : (rnF 65536 L o2 b2).2.2 = b3) (k1 : o1 ≤ L.length) (k2 : o2 ≤ L.length)
    (hal : a ≤ 65535) (hnl : n ≤ 65536) (TL : List Value) (hTL : TL = tkC d a n b3) (p : Nat) (w : World) (h : RIn w p L A c 0 false) (hf : RFix w p L A c) :
    Calls Try.prog 50 #[.pointer (some ⟨p, 0, none⟩)] w fun e w' => e = .returned (.agg TL.toArray) ∧ (RIn w' p L A c o3 b3 ∧ RFix w' p L A c) ∧ Turn p w w' := by
  refine rtake_gen p (fun w => RIn w p L A c 0 false ∧ RFix w p L A c) (fun w => RIn w p L A c o1 b1 ∧ RFix w p L A c) (fun w => RIn w p L A c o2 b2 ∧ RFix w p L A c) (fun w => RIn w p L A c o3 b3 ∧ RFix w p L A c) d hdl (Lib.byteCells d) rfl a n hal hnl b3 TL hTL
    (fun _ _ h k => ⟨h.1.low k, h.2.low k⟩) (fun _ _ h k => ⟨h.1.low k, h.2.low k⟩) (fun _ _ h k => ⟨h.1.low k, h.2.low k⟩) (fun _ _ h k => ⟨h.1.low k, h.2.low k⟩) (fun w h => ?_) (fun w h => ?_) (fun w h => ?_) (fun w h => ?_) w ⟨h, hf⟩ h.lt
  · refine (rdigest_in p L A c 0 false w h.1 h.2 (Nat.zero_le _)).mono ?_
    rintro e w' ⟨he, hp, ht⟩
    rw [h1, hb1] at hp
    exact ⟨by rw [he, hd]; rfl, ⟨hp, h.2.turn ht h.1.lt⟩, ht⟩
  · refine (show Calls Try.prog 49 #[.pointer (some ⟨p, 0, none⟩), .int .u64 65535] w _ from rnumber_in p 65535 L A c o1 b1 w h.1 h.2 k1 (by omega)).mono ?_
    rintro e w' ⟨he, hp, ht⟩
    rw [h2, hb2] at hp
    exact ⟨by rw [he, ha], ⟨hp, h.2.turn ht h.1.lt⟩, ht⟩
  · refine (show Calls Try.prog 49 #[.pointer (some ⟨p, 0, none⟩), .int .u64 65536] w _ from rnumber_in p 65536 L A c o2 b2 w h.1 h.2 k2 (by omega)).mono ?_
    rintro e w' ⟨he, hp, ht⟩
    rw [h3, hb3] at hp
    exact ⟨by rw [he, hn], ⟨hp, h.2.turn ht h.1.lt⟩, ht⟩
  · exact h.1.cells.2.2.1

theorem takes_both (L : List UInt8) : ∃ (d : List UInt8) (a n : Nat) (b3 : Bool) (l3 : List UInt8) (o3 : Nat), d.length = 32 ∧ a ≤ 65535 ∧ n ≤ 65536 ∧ Rel l3 L o3 b3 ∧
    (∀ (TL : List Value) (p : Nat) (w : World), TL = tkC d a n b3 → PIn w p L false → Calls Try.prog 38 #[.pointer (some ⟨p, 0, none⟩)] w fun e w' => e = .returned (.agg TL.toArray) ∧ PIn w' p l3 b3 ∧ Turn p w w') ∧
    (∀ (TL : List Value) (q : Nat) (A : Option Addr) (c : Nat) (w : World), TL = tkC d a n b3 → RIn w q L A c 0 false → RFix w q L A c → Calls Try.prog 50 #[.pointer (some ⟨q, 0, none⟩)] w fun e w' => e = .returned (.agg TL.toArray) ∧ (RIn w' q L A c o3 b3 ∧ RFix w' q L A c) ∧ Turn q w w') := by
  have r0 : Rel L L 0 false := ⟨fun _ => rfl, (fun h => by cases h), Nat.zero_le _⟩
  obtain ⟨_, e1, r1⟩ := rel_cut r0 32 (fun _ => by omega)
  rw [Bool.false_or] at e1
  have ed := rel_dig r0
  obtain ⟨a2, e2, r2⟩ := rel_num r1 65535
  obtain ⟨a3, e3, r3⟩ := rel_num r2 65536
  refine ⟨_, _, _, _, _, _, digF_length L, numF_le' 65535 (cutF 32 L).2.1, numF_le' 65536 (numF 65535 (cutF 32 L).2.1).2.1, r3, fun TL p w hT h => ?_, fun TL q A c w hT h hf => ?_⟩
  · refine btake_at L _ _ _ _ _ _ _ _ _ rfl rfl rfl rfl rfl rfl rfl rfl ?_ TL hT p w h
    rw [e1, e2]
    exact e3
  · exact rtake_at L A c _ _ _ _ _ _ _ _ _ ed.symm (digF_length L) rfl rfl a2.symm rfl rfl a3.symm rfl rfl r1.2.2 r2.2.2 (numF_le' _ _) (numF_le' _ _) TL hT q w h hf

theorem numF_back (most v : Nat) (r : List UInt8) (h : v ≤ most) (hv : v < 18446744073709551616) : numF most (Lib.uvarint v ++ r) = (v, r, false) := by
  unfold numF
  rw [lead_uv v r hv]
  have := Lib.uvarint_pos v
  rw [if_neg (by simp only; omega)]
  simp

theorem take_back (d : List UInt8) (hd : d.length = 32) (a n : Nat) (ha : a ≤ 65535) (hn : n ≤ 65536) (TL : List Value) (hTL : TL = refC d (a : Nat) (n : Nat)) (p : Nat) (w : World) (h : PIn w p (d ++ Lib.uvarint a ++ Lib.uvarint n) false) :
    Calls Try.prog 38 #[.pointer (some ⟨p, 0, none⟩)] w fun e w' => e = .returned (.agg TL.toArray) ∧ PIn w' p [] false ∧ Turn p w w' := by
  have hl : ¬ ((d ++ Lib.uvarint a ++ Lib.uvarint n).length < 32) := by simp only [List.length_append, hd]; omega
  have htk : (d ++ Lib.uvarint a ++ Lib.uvarint n).take 32 = d := by rw [List.append_assoc, ← hd, List.take_left]
  have hdr : (d ++ Lib.uvarint a ++ Lib.uvarint n).drop 32 = Lib.uvarint a ++ Lib.uvarint n := by rw [List.append_assoc, ← hd, List.drop_left]
  have hc : cutF 32 (d ++ Lib.uvarint a ++ Lib.uvarint n) = (d, Lib.uvarint a ++ Lib.uvarint n, false) := by
    unfold cutF; rw [if_neg hl, htk, hdr]
  have e1 := numF_back 65535 a (Lib.uvarint n) ha (by omega)
  have e2 := numF_back 65536 n [] hn (by omega)
  rw [List.append_nil] at e2
  refine btake_at (d ++ Lib.uvarint a ++ Lib.uvarint n) (Lib.uvarint a ++ Lib.uvarint n) (Lib.uvarint n) [] false false false d a n ?_ (by rw [hc]) (by rw [hc]) (by rw [e1]) (by rw [e1]) (by rw [e1]; rfl) (by rw [e2]) (by rw [e2]) (by rw [e2]; rfl) TL (by rw [hTL]; rfl) p w h
  unfold digF
  rw [if_neg hl, htk]


end Go.Proofs.Ytlfddijmanlneaa

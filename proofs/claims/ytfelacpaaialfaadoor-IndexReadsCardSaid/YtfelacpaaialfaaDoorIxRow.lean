/-
  Rows of items of a call's own.
-/
import Derived.Test.YtfelacpaaialfaaDoorIxSame
import Derived.Maps.AppendAt
import Derived.Laws.MakeOwn
namespace Go.Proofs.YtfelacpaaialfaaDoor
open Go.RowKit
set_option linter.unusedVariables false
set_option linter.unusedSimpArgs false

theorem fill_midV (place : Nat → Option (Nat × Nat)) (cells : Array Value) (i off : Nat) (l : List Value) (hp : place i = some (off, l.length)) (h : off + l.length ≤ cells.size) :
    Instr.fill place cells [(i, .agg l.toArray)] = some (cells.toList.take off ++ (l ++ cells.toList.drop (off + l.length))).toArray := by
  simp only [Instr.fill, hp, Value.cells, List.size_toArray]
  rw [if_neg (by simp; omega)]
  congr 1
  obtain ⟨g1, g2⟩ := Great.foldl_set off l 0 cells
  have e : (l.toArray.zipIdx.foldl (fun cs (x : Value × Nat) => cs.setIfInBounds (off + x.2) x.1) cells) = ((l.zipIdx 0).foldl (fun cs (x : Value × Nat) => cs.setIfInBounds (off + x.2) x.1) cells) := by
    rw [← Array.foldl_toList, Array.toList_zipIdx]
  show (l.toArray.zipIdx.foldl (fun cs (x : Value × Nat) => cs.setIfInBounds (off + x.2) x.1) cells) = _
  rw [e]
  apply Array.ext_getElem?
  intro k
  rw [g2 k]
  have hto : (cells.toList.take off).length = off := by simp; omega
  simp only [List.getElem?_toArray, Nat.add_zero]
  by_cases hk : off ≤ k
  · rw [List.getElem?_append_right (by omega), hto]
    by_cases hk2 : k < off + l.length
    · rw [if_pos ⟨hk, hk2, by omega⟩, List.getElem?_append_left (by omega)]
    · rw [if_neg (by omega), List.getElem?_append_right (by omega), List.getElem?_drop]
      rw [show off + l.length + (k - off - l.length) = k by omega]
      simp
  · rw [if_neg (by omega), List.getElem?_append_left (by omega)]
    simp [show k < off from by omega]
theorem fill_consV (place : Nat → Option (Nat × Nat)) (cells : Array Value) (x : Nat × Value) (rest : List (Nat × Value)) (c : Array Value) (h : Instr.fill place cells [x] = some c) : Instr.fill place cells (x :: rest) = Instr.fill place c rest := by
  obtain ⟨i, v⟩ := x
  unfold Instr.fill at h ⊢
  cases hp : place i with
  | none => simp [hp] at h
  | some p =>
    obtain ⟨off, n⟩ := p
    simp only [hp] at h ⊢
    split at h
    · cases h
    · rename_i hc
      rw [if_neg hc]
      simp only [Instr.fill] at h
      injection h with h
      rw [h]
      conv => lhs; unfold Instr.fill
theorem info_partsV {α γ : Type} {P : Program} {t : TypeId} {z : α} {s b : γ} {f : TypeInfo → Option α} {g k : TypeInfo → γ} (h : (P.info? t).map (fun i => (f i, g i, k i)) = some (some z, s, b)) : ∃ i, P.info? t = some i ∧ f i = some z ∧ g i = s ∧ k i = b := by
  cases hi : P.info? t with
  | none => rw [hi] at h; cases h
  | some i =>
    rw [hi] at h
    simp only [Option.map_some, Option.some.injEq, Prod.mk.injEq] at h
    exact ⟨i, rfl, h.1, h.2.1, h.2.2⟩

theorem wpList_builtV {P : Program} {ops : Array Oper} {rest : List Oper} {o : Oper} {a : Act} {w : World} {Q : Exit → Act → World → Prop} (hg : o.guard = none) (t : TypeId) (parts : Array (Nat × Operand)) (ho : o.op = .build t parts)
    (ps : List (Nat × Value)) (hp : parts.toList.map (fun x => (x.1, a.eval x.2)) = ps) (cells : Array Value) (hf : P.built t ps = some cells)
    (h : wpList P ops Q rest (a.put o.dst (.agg cells)) w) : wpList P ops Q (o :: rest) a w :=
  wpList_buildTo hg t parts ho _ rfl cells (by rw [← hf, ← hp]; simp) h

theorem flat_at {α : Type} {k : Nat} {f : α → List Value} {xs : List α} (h : ∀ x ∈ xs, (f x).length = k) {i : Nat} {x : α} (hi : xs[i]? = some x) (j : Nat) (v : Value) (hj : (f x)[j]? = some v) : (xs.flatMap f)[i * k + j]? = some v := by
  induction xs generalizing i with
  | nil => simp at hi
  | cons y xs ih =>
    have hl := h y List.mem_cons_self
    rw [List.flatMap_cons]
    cases i with
    | zero =>
      simp at hi
      subst hi
      rw [Nat.zero_mul, Nat.zero_add, List.getElem?_append_left (List.getElem?_eq_some_iff.1 hj).1]
      exact hj
    | succ i =>
      have := ih (fun x hx => h x (List.mem_cons_of_mem _ hx)) (i := i) (by simpa using hi)
      rw [List.getElem?_append_right (by rw [hl]; rw [Nat.succ_mul]; omega), hl, show (i + 1) * k + j - k = i * k + j by rw [Nat.succ_mul]; omega]
      exact this

theorem fill_rowV {k : Nat} (l : List Value) (hl : l.length = k) (cells : Array Value) (hc : cells.size = k) : Instr.fill (fun i => some (i * k, k)) cells [(0, .agg l.toArray)] = some l.toArray := by
  have h := fill_midV (fun i => some (i * k, k)) cells 0 0 l (by rw [hl, Nat.zero_mul]) (by omega)
  rw [h]
  congr 2
  rw [List.take_zero, List.nil_append, hl, List.drop_of_length_le (by simp [hc]), List.append_nil]

/-! ### items -/
def itsC (xs : List Ix) : List Value := xs.flatMap itC
theorem stC_one (b s u : Nat) : ∀ v ∈ stC b s u, v.oneCell' = true := by
  intro v hv
  simp only [stC, List.mem_cons, List.mem_nil_iff, or_false] at hv
  rcases hv with rfl | rfl | rfl <;> rfl
theorem itC_one (x : Ix) : ∀ v ∈ itC x, v.oneCell' = true := by
  intro v hv
  unfold itC at hv
  rcases List.mem_append.1 hv with hv | hv
  · simp only [Lib.byteCells, List.mem_map] at hv
    obtain ⟨b, _, rfl⟩ := hv
    rfl
  · exact stC_one _ _ _ v hv
theorem itsC_append (a b : List Ix) : itsC (a ++ b) = itsC a ++ itsC b := by unfold itsC; rw [List.flatMap_append]
theorem itsC_one (x : Ix) : itsC [x] = itC x := by simp [itsC]
/-- A row of items of the call's own, from block B on. -/
def IRw (w : World) (B : Nat) (v : Value) (xs : List Ix) : Prop := (∀ c ∈ xs, c.d.length = 32) ∧ w.ownsRow B 61 35 v xs.length (itsC xs)
theorem IRw.slice {w : World} {B : Nat} {v : Value} {xs : List Ix} (h : IRw w B v xs) : ∃ A c, v = .slice A xs.length c ∧ xs.length ≤ c ∧ c ≤ maxLen ∧ ItRow w A xs := by
  rcases h.2.2 with ⟨rfl, hn⟩ | ⟨g, cap, cur, rfl, h1, hg, h2, h3, h4, h5⟩
  · exact ⟨none, 0, by rw [hn], by omega, by unfold maxLen; omega, fun hp => by omega⟩
  · refine ⟨_, cap, rfl, h2, h3, fun hp => ⟨g, 0, rfl, (Array.getElem?_eq_some_iff.1 hg).1, fun i x hx => ⟨h.1 x (List.mem_of_getElem? hx), fun j v hj => ?_⟩⟩⟩
    have hd := flat_at (k := 35) (f := itC) (fun x hx => itC_length (h.1 x hx)) hx j v hj
    have h5' : List.take (xs.length * 35) cur.toList = xs.flatMap itC := h5
    rw [← h5'] at hd
    have hlt : i * 35 + j < xs.length * 35 := by
      have := (List.getElem?_eq_some_iff.1 hd).1
      rw [List.length_take] at this
      omega
    rw [List.getElem?_take_of_lt hlt] at hd
    rw [cell_of_row w g _ cur 61 (0, 0) hg, Nat.zero_add]
    simpa using hd
theorem IRw.up {w w' : World} {B : Nat} {v : Value} {xs : List Ix} (h : IRw w B v xs) (hb : Below w.heap.size w w') : IRw w' B v xs := by
  refine ⟨h.1, h.2.1, ?_⟩
  rcases h.2.2 with hn | ⟨g, cap, cur, rfl, h1, hg, rest⟩
  · exact .inl hn
  · exact .inr ⟨g, cap, cur, rfl, h1, (hb.block g (Array.getElem?_eq_some_iff.1 hg).1).trans hg, rest⟩
theorem IRw.keep {w w' : World} {B : Nat} {v : Value} {xs : List Ix} (h : IRw w B v xs) (hb : ∀ g, v.ownBlock = some g → w'.heap[g]? = w.heap[g]?) (ht : w'.tape = w.tape) : IRw w' B v xs := by
  refine ⟨h.1, h.2.1, ?_⟩
  rcases h.2.2 with hn | ⟨g, cap, cur, rfl, h1, hg, rest⟩
  · exact .inl hn
  · exact .inr ⟨g, cap, cur, rfl, h1, (hb g rfl).trans hg, rest⟩
theorem IRw.lt {w : World} {B : Nat} {v : Value} {xs : List Ix} (h : IRw w B v xs) : ∀ k, v.ownBlock = some k → B ≤ k ∧ k < w.heap.size := World.ownsRow.lt h.2

def itZ : List Value := Lib.byteCells zeros ++ [.int .i64 0, .int .i64 0, .int .i64 0]
theorem itAll : (Tryd.prog.info? 61).map (fun i => (i.zero, i.size, i.bytes)) = some (some (.agg itZ.toArray), 35, 56) := by kernel_rfl
theorem it_fill (parts : List (Nat × Value)) : Tryd.prog.built 61 parts = Instr.fill (#[(0, 32), (32, 2), (34, 1)][·]?) itZ.toArray parts := by kernel_rfl
theorem it_built (DL PL : List Value) (hl : DL.length = 32) (hp : PL.length = 2) (u : Int) : Tryd.prog.built 61 [(0, .agg DL.toArray), (1, .agg PL.toArray), (2, .int .i64 u)] = some (DL ++ (PL ++ [Value.int .i64 u])).toArray := by
  rw [it_fill]
  have hz : itZ.length = 35 := by rfl
  have h0 := fill_midV (#[(0, 32), (32, 2), (34, 1)][·]?) itZ.toArray 0 0 DL (by rw [hl]; rfl) (by rw [hl, List.size_toArray, hz]; omega)
  rw [fill_consV _ _ _ _ _ h0]
  obtain ⟨R, hR⟩ : ∃ R, R = (List.take 0 itZ.toArray.toList ++ (DL ++ List.drop (0 + DL.length) itZ.toArray.toList)) := ⟨_, rfl⟩
  have hR1 : R = DL ++ [.int .i64 0, .int .i64 0, .int .i64 0] := by
    rw [hR, hl]
    show DL ++ List.drop (0 + 32) itZ = _
    rfl
  rw [← hR, hR1]
  have h1 := fill_midV (#[(0, 32), (32, 2), (34, 1)][·]?) (DL ++ [Value.int .i64 0, .int .i64 0, .int .i64 0]).toArray 1 32 PL (by rw [hp]; rfl) (by rw [hp, List.size_toArray, List.length_append, hl]; decide)
  rw [fill_consV _ _ _ _ _ h1]
  obtain ⟨S, hS⟩ : ∃ S, S = (List.take 32 (DL ++ [Value.int .i64 0, .int .i64 0, .int .i64 0]).toArray.toList ++ (PL ++ List.drop (32 + PL.length) (DL ++ [Value.int .i64 0, .int .i64 0, .int .i64 0]).toArray.toList)) := ⟨_, rfl⟩
  have hS1 : S = DL ++ (PL ++ [.int .i64 0]) := by
    rw [hS, hp]
    show List.take 32 (DL ++ _) ++ (PL ++ List.drop 34 (DL ++ _)) = _
    rw [List.take_append_of_le_length (Nat.le_of_eq hl.symm), List.take_of_length_le (Nat.le_of_eq hl), List.drop_append, List.drop_of_length_le (by omega), hl]
    rfl
  rw [← hS, hS1]
  have h2 := fill_midV (#[(0, 32), (32, 2), (34, 1)][·]?) (DL ++ (PL ++ [Value.int .i64 0])).toArray 2 34 [Value.int .i64 u] rfl (by rw [List.size_toArray, List.length_append, List.length_append, hl, hp]; simp)
  have e : Instr.fill (#[(0, 32), (32, 2), (34, 1)][·]?) (DL ++ (PL ++ [Value.int .i64 0])).toArray [(2, .int .i64 u)] = Instr.fill (#[(0, 32), (32, 2), (34, 1)][·]?) (DL ++ (PL ++ [Value.int .i64 0])).toArray [(2, .agg [Value.int .i64 u].toArray)] := by
    simp [Instr.fill, Value.cells]
  rw [e, h2]
  congr 2
  show List.take 34 (DL ++ (PL ++ [Value.int .i64 0])) ++ ([Value.int .i64 u] ++ List.drop 35 (DL ++ (PL ++ [Value.int .i64 0]))) = _
  have hdp : (DL ++ PL).length = 34 := by rw [List.length_append]; omega
  rw [← List.append_assoc DL PL [Value.int .i64 0], List.take_append_of_le_length (Nat.le_of_eq hdp.symm), List.take_of_length_le (Nat.le_of_eq hdp), List.drop_of_length_le (by rw [List.length_append, hdp]; simp)]
  simp
/-- '[]Cell{x}'. -/
theorem wp_build_it {o : Oper} {a : Act} {w : World} {K : Act → World → Prop} {Q : Exit → Act → World → Prop} (dd : Option Tmp) (hdd : o.dst = dd) (x : Operand) (ho : o.op = .buildSlice 28 1 #[(0, x)]) (VL : List Value) (hV : VL.length = 35) (hx : a.eval x = .agg VL.toArray)
    (h : K (a.put dd (.slice (some ⟨w.heap.size, 0, none⟩) 1 1)) (w.alloc (.cells VL.toArray 61))) : Oper.wp Tryd.prog o a w K Q := by
  subst hdd
  obtain ⟨i0, hi, hz0, hz1, hz2⟩ := info_partsV itAll
  refine wp_buildSlice 28 61 1 #[(0, x)] ho VL.toArray i0 _ Tryd.underlying28 hi hz0 (by rw [hz1]; decide) (by rw [hz1]; decide) ?_ h
  rw [hz1]
  simp only [List.map_toArray, List.map_cons, List.map_nil, hx]
  exact fill_rowV VL hV _ (by simp)
theorem wpList_build_it {ops : Array Oper} {rest : List Oper} {o : Oper} {a : Act} {w : World} {Q : Exit → Act → World → Prop} (hg : o.guard = none) (x : Operand) (ho : o.op = .buildSlice 28 1 #[(0, x)]) (VL : List Value) (hV : VL.length = 35) (hx : a.eval x = .agg VL.toArray)
    (h : wpList Tryd.prog ops Q rest (a.put o.dst (.slice (some ⟨w.heap.size, 0, none⟩) 1 1)) (w.alloc (.cells VL.toArray 61))) : wpList Tryd.prog ops Q (o :: rest) a w :=
  wpList_plain hg fun _ hK => wp_build_it o.dst rfl x ho VL hV hx (hK _ _ h)
theorem run_append_it {w : World} {B : Nat} {v : Value} {xs : List Ix} (h : IRw w B v xs) (hB : B ≤ w.heap.size) (ty : TypeId) (g c : Nat) (x : Ix) (hx : x.d.length = 32) (VL : List Value) (hV : VL = itC x) (hg : Arr w g 61 VL) (hm : xs.length ≤ 2000000) :
    ∃ v' w', (Builtin.append_ #[28, 28] ty #[v, .slice (some ⟨g, 0, none⟩) 1 c]).run Tryd.prog w = .ok v' w' ∧ IRw w' B v' (xs ++ [x]) ∧ w.grownBy w' v.ownBlock := by
  obtain ⟨i0, hi, hz0, hz1, hz2⟩ := info_partsV itAll
  subst hV
  have hadd : ∀ k, (⟨g, 0, none⟩ : Addr).add k = ⟨g, k, none⟩ := fun k => by unfold Addr.add; split <;> simp_all
  obtain ⟨v', w', h1, h2, h3, _, _⟩ := run_append_own_at (P := Tryd.prog) w B 28 ty 61 i0 (.agg itZ.toArray) 35 56 Tryd.underlying28 hi hz0 hz1 hz2 rfl (by decide) v xs.length (itsC xs) h.2 ⟨g, 0, none⟩ 1 c (itC x) (by rw [itC_length hx]) (fun j u hj => by rw [hadd, hg.cell]; exact hj) (itC_one x) (by unfold maxLen; omega) (by omega) hB
  refine ⟨v', w', h1, ⟨fun y hy => ?_, ?_⟩, h3⟩
  · rcases List.mem_append.1 hy with hy | hy
    · exact h.1 y hy
    · rw [List.mem_singleton] at hy; rw [hy]; exact hx
  · rw [itsC_append, itsC_one, List.length_append]
    exact h2
theorem wpList_append_it {ops : Array Oper} {rest : List Oper} {o : Oper} {a : Act} {w : World} {Q : Exit → Act → World → Prop} (hgd : o.guard = none) (s x : Operand) (ho : o.op = .call { callee := .builtin .append, args := #[s, x], argTypes := #[28, 28] })
    {B : Nat} {v : Value} {xs : List Ix} (h : IRw w B v xs) (hB : B ≤ w.heap.size) (hs : a.eval s = v) (g c : Nat) (hx : a.eval x = .slice (some ⟨g, 0, none⟩) 1 c) (y : Ix) (hy : y.d.length = 32) (VL : List Value) (hV : VL = itC y) (hg : Arr w g 61 VL) (hm : xs.length ≤ 2000000)
    (hK : ∀ v' w', IRw w' B v' (xs ++ [y]) → w.grownBy w' v.ownBlock → wpList Tryd.prog ops Q rest (a.put o.dst v') w') : wpList Tryd.prog ops Q (o :: rest) a w := by
  refine wpList_plain hgd fun K hK' => ?_
  obtain ⟨v', w', hr, h2, h3⟩ := run_append_it h hB o.type g c y hy VL hV hg hm
  unfold Oper.wp execOp
  simp only [ho, resolve, invoke, builtin, Sem.run_bind, Sem.run_pure, Result.andThen_ok, List.map_toArray, List.map_cons, List.map_nil, hs, hx, hr]
  exact hK' _ _ (hK v' w' h2 h3)


end Go.Proofs.YtfelacpaaialfaaDoor

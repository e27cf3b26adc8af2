/-
  Rows of digests of the call's own: a literal of one, append.
-/
import Derived.Test.YtlfddijmanlneaaMerkArg
import Derived.Maps.AppendAt
namespace Go.Proofs.Ytlfddijmanlneaa
open Go.RowKit
set_option linter.unusedVariables false

theorem digAll : (Try.prog.info? 24).map (fun i => (i.zero, i.size, i.bytes)) = some (some (.agg (Lib.byteCells zeros).toArray), 32, 32) := by kernel_rfl

theorem fill_dig (l : List Value) (hl : l.length = 32) (cells : Array Value) (hc : cells.size = 32) : Instr.fill (fun i => some (i * 32, 32)) cells [(0, .agg l.toArray)] = some l.toArray := by
  simp only [Instr.fill, Value.cells, List.size_toArray]
  rw [if_neg (by simp; omega)]
  congr 1
  obtain ⟨g1, g2⟩ := Great.foldl_set (0 * 32) l 0 cells
  have e : (l.toArray.zipIdx.foldl (fun cs (x : Value × Nat) => cs.setIfInBounds (0 * 32 + x.2) x.1) cells) = ((l.zipIdx 0).foldl (fun cs (x : Value × Nat) => cs.setIfInBounds (0 * 32 + x.2) x.1) cells) := by
    rw [← Array.foldl_toList, Array.toList_zipIdx]
  show (l.toArray.zipIdx.foldl (fun cs (x : Value × Nat) => cs.setIfInBounds (0 * 32 + x.2) x.1) cells) = _
  rw [e]
  apply Array.ext_getElem?
  intro k
  rw [g2 k]
  simp only [List.getElem?_toArray, Nat.add_zero, Nat.zero_mul, Nat.zero_add, Nat.sub_zero]
  by_cases hk2 : k < l.length
  · rw [if_pos ⟨by omega, by omega, by omega⟩]
  · rw [if_neg (by omega), Array.getElem?_eq_none (by omega), List.getElem?_eq_none (by omega)]

/-- '[]api.Digest{d}'. -/
theorem wp_build_dig {o : Oper} {a : Act} {w : World} {K : Act → World → Prop} {Q : Exit → Act → World → Prop} (dd : Option Tmp) (hdd : o.dst = dd) (x : Operand) (ho : o.op = .buildSlice 48 1 #[(0, x)]) (VL : List Value) (hV : VL.length = 32) (hx : a.eval x = .agg VL.toArray)
    (h : K (a.put dd (.slice (some ⟨w.heap.size, 0, none⟩) 1 1)) (w.alloc (.cells VL.toArray 24))) : Oper.wp Try.prog o a w K Q := by
  subst hdd
  obtain ⟨i0, hi, hz0, hz1, hz2⟩ := info_parts digAll
  refine wp_buildSlice 48 24 1 #[(0, x)] ho VL.toArray i0 _ Try.underlying48 hi hz0 (by rw [hz1]; decide) (by rw [hz1]; decide) ?_ h
  rw [hz1]
  simp only [List.map_toArray, List.map_cons, List.map_nil, hx]
  exact fill_dig VL hV _ (by simp)
theorem wpList_build_dig {ops : Array Oper} {rest : List Oper} {o : Oper} {a : Act} {w : World} {Q : Exit → Act → World → Prop} (hg : o.guard = none) (x : Operand) (ho : o.op = .buildSlice 48 1 #[(0, x)]) (VL : List Value) (hV : VL.length = 32) (hx : a.eval x = .agg VL.toArray)
    (h : wpList Try.prog ops Q rest (a.put o.dst (.slice (some ⟨w.heap.size, 0, none⟩) 1 1)) (w.alloc (.cells VL.toArray 24))) : wpList Try.prog ops Q (o :: rest) a w :=
  wpList_plain hg fun _ hK => wp_build_dig o.dst rfl x ho VL hV hx (hK _ _ h)

/-- Digests, as cells. -/
def digC (ds : List (List UInt8)) : List Value := ds.flatMap Lib.byteCells
theorem digC_append (a b : List (List UInt8)) : digC (a ++ b) = digC a ++ digC b := by unfold digC; rw [List.flatMap_append]
theorem digC_one (d : List UInt8) : digC [d] = Lib.byteCells d := by simp [digC]
theorem digC_length {ds : List (List UInt8)} (h : ∀ d ∈ ds, d.length = 32) : (digC ds).length = ds.length * 32 := by
  induction ds with
  | nil => rfl
  | cons d ds ih =>
    unfold digC at *
    rw [List.flatMap_cons, List.length_append, ih fun x hx => h x (List.mem_cons_of_mem _ hx), Lib.byteCells_length, h d List.mem_cons_self, List.length_cons]
    omega
theorem digC_at {ds : List (List UInt8)} (h : ∀ d ∈ ds, d.length = 32) {i : Nat} (hi : i < ds.length) (j : Nat) (v : Value) (hj : (Lib.byteCells (ds.getD i []))[j]? = some v) : (digC ds)[i * 32 + j]? = some v := by
  induction ds generalizing i with
  | nil => simp at hi
  | cons d ds ih =>
    have hd := h d List.mem_cons_self
    have hc : digC (d :: ds) = Lib.byteCells d ++ digC ds := by unfold digC; rw [List.flatMap_cons]
    rw [hc]
    cases i with
    | zero =>
      have hj' : (Lib.byteCells d)[j]? = some v := hj
      rw [Nat.zero_mul, Nat.zero_add, List.getElem?_append_left (List.getElem?_eq_some_iff.1 hj').1]
      exact hj'
    | succ i =>
      have := ih (fun x hx => h x (List.mem_cons_of_mem _ hx)) (i := i) (by simpa using hi) hj
      rw [List.getElem?_append_right (by rw [Lib.byteCells_length, hd]; omega), Lib.byteCells_length, hd, show (i + 1) * 32 + j - 32 = i * 32 + j by omega]
      exact this

/-- A row of digests of the call's own, from block B on. -/
def DRow (w : World) (B : Nat) (v : Value) (ds : List (List UInt8)) : Prop := (∀ d ∈ ds, d.length = 32) ∧ w.ownsRow B 24 32 v ds.length (digC ds)

theorem DRow.nil (w : World) (B : Nat) : DRow w B (.slice none 0 0) [] := ⟨by simp, World.ownsRow_nil w B _ 32⟩
theorem DRow.lt {w : World} {B : Nat} {v : Value} {ds : List (List UInt8)} (h : DRow w B v ds) : ∀ k, v.ownBlock = some k → B ≤ k ∧ k < w.heap.size := World.ownsRow.lt h.2
theorem DRow.up {w w' : World} {B : Nat} {v : Value} {ds : List (List UInt8)} (h : DRow w B v ds) (hb : Below w.heap.size w w') : DRow w' B v ds := by
  refine ⟨h.1, h.2.1, ?_⟩
  rcases h.2.2 with hn | ⟨g, cap, cur, rfl, h1, hg, rest⟩
  · exact .inl hn
  · exact .inr ⟨g, cap, cur, rfl, h1, (hb.block g (Array.getElem?_eq_some_iff.1 hg).1).trans hg, rest⟩
theorem DRow.base {w : World} {B B' : Nat} {v : Value} {ds : List (List UInt8)} (h : DRow w B v ds) (hB : B' ≤ B) : DRow w B' v ds := by
  refine ⟨h.1, h.2.1, ?_⟩
  rcases h.2.2 with hn | ⟨g, cap, cur, rfl, h1, rest⟩
  · exact .inl hn
  · exact .inr ⟨g, cap, cur, rfl, Nat.le_trans hB h1, rest⟩
theorem DRow.empty (w : World) (B : Nat) (hB : B ≤ w.heap.size) : DRow (w.alloc (.cells #[] 24)) B (.slice (some ⟨w.heap.size, 0, none⟩) 0 0) [] :=
  ⟨by simp, rfl, .inr ⟨w.heap.size, 0, #[], rfl, hB, heap_alloc_new w _, Nat.le_refl _, by unfold maxLen; omega, rfl, rfl⟩⟩
/-- Its value, and its digests in memory. -/
theorem DRow.slice {w : World} {B : Nat} {v : Value} {ds : List (List UInt8)} (h : DRow w B v ds) : ∃ A c, v = .slice A ds.length c ∧ ds.length ≤ c ∧ c ≤ maxLen ∧ DigsAt w A ds := by
  rcases h.2.2 with ⟨rfl, hn⟩ | ⟨g, cap, cur, rfl, h1, hg, h2, h3, h4, h5⟩
  · exact ⟨none, 0, by rw [hn], by omega, by unfold maxLen; omega, fun hp => by omega⟩
  · refine ⟨_, cap, rfl, h2, h3, fun hp => ⟨g, 0, rfl, (Array.getElem?_eq_some_iff.1 hg).1, fun i hi => ⟨h.1 _ (by simp [List.getD, hi]), fun j v hj => ?_⟩⟩⟩
    have hd := digC_at h.1 hi j v hj
    rw [← h5] at hd
    have hlt : i * 32 + j < ds.length * 32 := by
      have := (List.getElem?_eq_some_iff.1 hd).1
      rw [List.length_take] at this
      omega
    rw [List.getElem?_take_of_lt hlt] at hd
    rw [cell_of_row w g _ cur 24 (0, 0) hg, Nat.zero_add]
    simpa using hd

theorem run_append_dig {w : World} {B : Nat} {v : Value} {ds : List (List UInt8)} (h : DRow w B v ds) (hB : B ≤ w.heap.size) (ty : TypeId) (g c : Nat) (d : List UInt8) (hd : d.length = 32) (hg : Arr w g 24 (Lib.byteCells d)) (hm : ds.length ≤ 1000000) :
    ∃ v' w', (Builtin.append_ #[48, 48] ty #[v, .slice (some ⟨g, 0, none⟩) 1 c]).run Try.prog w = .ok v' w' ∧ DRow w' B v' (ds ++ [d]) ∧ w.grownBy w' v.ownBlock := by
  obtain ⟨i0, hi, hz0, hz1, hz2⟩ := info_parts digAll
  have hadd : ∀ k, (⟨g, 0, none⟩ : Addr).add k = ⟨g, k, none⟩ := fun k => by unfold Addr.add; split <;> simp_all
  obtain ⟨v', w', h1, h2, h3, _, _⟩ := run_append_own_at (P := Try.prog) w B 48 ty 24 i0 (.agg (Lib.byteCells zeros).toArray) 32 32 Try.underlying48 hi hz0 hz1 hz2 rfl (by decide) v ds.length (digC ds) h.2 ⟨g, 0, none⟩ 1 c (Lib.byteCells d) (by rw [Lib.byteCells_length, hd]) (fun j u hj => by rw [hadd, hg.cell]; exact hj) (byteCells_one d) (by unfold maxLen; omega) (by omega) hB
  refine ⟨v', w', h1, ⟨fun x hx => ?_, ?_⟩, h3⟩
  · rcases List.mem_append.1 hx with hx | hx
    · exact h.1 x hx
    · rw [List.mem_singleton] at hx; rw [hx]; exact hd
  · rw [digC_append, digC_one, List.length_append]
    exact h2

theorem wpList_append_dig {ops : Array Oper} {rest : List Oper} {o : Oper} {a : Act} {w : World} {Q : Exit → Act → World → Prop} (hgd : o.guard = none) (s x : Operand) (ho : o.op = .call { callee := .builtin .append, args := #[s, x], argTypes := #[48, 48] })
    {B : Nat} {v : Value} {ds : List (List UInt8)} (h : DRow w B v ds) (hB : B ≤ w.heap.size) (hs : a.eval s = v) (g c : Nat) (hx : a.eval x = .slice (some ⟨g, 0, none⟩) 1 c) (d : List UInt8) (hd : d.length = 32) (hg : Arr w g 24 (Lib.byteCells d)) (hm : ds.length ≤ 1000000)
    (hK : ∀ v' w', DRow w' B v' (ds ++ [d]) → w.grownBy w' v.ownBlock → wpList Try.prog ops Q rest (a.put o.dst v') w') : wpList Try.prog ops Q (o :: rest) a w := by
  refine wpList_plain hgd fun K hK' => ?_
  obtain ⟨v', w', hr, h2, h3⟩ := run_append_dig h hB o.type g c d hd hg hm
  unfold Oper.wp execOp
  simp only [ho, resolve, invoke, builtin, Sem.run_bind, Sem.run_pure, Result.andThen_ok, List.map_toArray, List.map_cons, List.map_nil, hs, hx, hr]
  exact hK' _ _ (hK v' w' h2 h3)
theorem step_append_dig {ops : Array Oper} {o : Oper} {a : Act} {w : World} {K : Act → World → Prop} {Q : Exit → Act → World → Prop} {E : Prop} (hgd : o.guard = none) (dd : Option Tmp) (hdd : o.dst = dd) (s x : Operand) (ho : o.op = .call { callee := .builtin .append, args := #[s, x], argTypes := #[48, 48] })
    {B : Nat} {v : Value} {ds : List (List UInt8)} (h : DRow w B v ds) (hB : B ≤ w.heap.size) (hs : a.eval s = v) (g c : Nat) (hx : a.eval x = .slice (some ⟨g, 0, none⟩) 1 c) (d : List UInt8) (hd : d.length = 32) (hg : Arr w g 24 (Lib.byteCells d)) (hm : ds.length ≤ 1000000)
    (hK : ∀ v' w', DRow w' B v' (ds ++ [d]) → w.grownBy w' v.ownBlock → K (a.put dd v') w') : if Region.wanted o (yielded ops a.tmps) = true then Oper.wp Try.prog o a w K Q else E := by
  subst hdd
  have hw : Region.wanted o (yielded ops a.tmps) = true := by simp [Region.wanted, hgd]
  obtain ⟨v', w', hr, h2, h3⟩ := run_append_dig h hB o.type g c d hd hg hm
  rw [if_pos hw]
  unfold Oper.wp execOp
  simp only [ho, resolve, invoke, builtin, Sem.run_bind, Sem.run_pure, Result.andThen_ok, List.map_toArray, List.map_cons, List.map_nil, hs, hx, hr]
  exact hK v' w' h2 h3

end Go.Proofs.Ytlfddijmanlneaa

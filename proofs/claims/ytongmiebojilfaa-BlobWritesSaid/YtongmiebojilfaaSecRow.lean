/-
  Rows of sectors of the call's own: a literal of one, append.
-/
import Derived.Test.YtongmiebojilfaaSecsArg
import Derived.Maps.AppendAt
namespace Go.Proofs.Ytongmiebojilfaa
open Go.RowKit
set_option linter.unusedVariables false
set_option maxRecDepth 100000

theorem secAllR : (Try.prog.info? 30).map (fun i => (i.zero, i.size, i.bytes)) = some (some (.agg (Lib.byteCells zero64).toArray), 64, 64) := by kernel_rfl

theorem fill_secR (l : List Value) (hl : l.length = 64) (cells : Array Value) (hc : cells.size = 64) : Instr.fill (fun i => some (i * 64, 64)) cells [(0, .agg l.toArray)] = some l.toArray := by
  simp only [Instr.fill, Value.cells, List.size_toArray]
  rw [if_neg (by simp; omega)]
  congr 1
  obtain ⟨g1, g2⟩ := Great.foldl_set (0 * 64) l 0 cells
  have e : (l.toArray.zipIdx.foldl (fun cs (x : Value × Nat) => cs.setIfInBounds (0 * 64 + x.2) x.1) cells) = ((l.zipIdx 0).foldl (fun cs (x : Value × Nat) => cs.setIfInBounds (0 * 64 + x.2) x.1) cells) := by
    rw [← Array.foldl_toList, Array.toList_zipIdx]
  show (l.toArray.zipIdx.foldl (fun cs (x : Value × Nat) => cs.setIfInBounds (0 * 64 + x.2) x.1) cells) = _
  rw [e]
  apply Array.ext_getElem?
  intro k
  rw [g2 k]
  simp only [List.getElem?_toArray, Nat.add_zero, Nat.zero_mul, Nat.zero_add, Nat.sub_zero]
  by_cases hk2 : k < l.length
  · rw [if_pos ⟨by omega, by omega, by omega⟩]
  · rw [if_neg (by omega), Array.getElem?_eq_none (by omega), List.getElem?_eq_none (by omega)]

/-- '[]api.Sector{d}'. -/
theorem wp_build_secR {o : Oper} {a : Act} {w : World} {K : Act → World → Prop} {Q : Exit → Act → World → Prop} (dd : Option Tmp) (hdd : o.dst = dd) (x : Operand) (ho : o.op = .buildSlice 31 1 #[(0, x)]) (VL : List Value) (hV : VL.length = 64) (hx : a.eval x = .agg VL.toArray)
    (h : K (a.put dd (.slice (some ⟨w.heap.size, 0, none⟩) 1 1)) (w.alloc (.cells VL.toArray 30))) : Oper.wp Try.prog o a w K Q := by
  subst hdd
  obtain ⟨i0, hi, hz0, hz1, hz2⟩ := info_parts secAllR
  refine wp_buildSlice 31 30 1 #[(0, x)] ho VL.toArray i0 _ Try.underlying31 hi hz0 (by rw [hz1]; decide) (by rw [hz1]; decide) ?_ h
  rw [hz1]
  simp only [List.map_toArray, List.map_cons, List.map_nil, hx]
  exact fill_secR VL hV _ (by simp)
theorem wpList_build_secR {ops : Array Oper} {rest : List Oper} {o : Oper} {a : Act} {w : World} {Q : Exit → Act → World → Prop} (hg : o.guard = none) (x : Operand) (ho : o.op = .buildSlice 31 1 #[(0, x)]) (VL : List Value) (hV : VL.length = 64) (hx : a.eval x = .agg VL.toArray)
    (h : wpList Try.prog ops Q rest (a.put o.dst (.slice (some ⟨w.heap.size, 0, none⟩) 1 1)) (w.alloc (.cells VL.toArray 30))) : wpList Try.prog ops Q (o :: rest) a w :=
  wpList_plain hg fun _ hK => wp_build_secR o.dst rfl x ho VL hV hx (hK _ _ h)

theorem secC_one (d : List UInt8) : secC [d] = Lib.byteCells d := by simp [secC]

/-- A row of sectors of the call's own, from block B on. -/
def SRow (w : World) (B : Nat) (v : Value) (ds : List (List UInt8)) : Prop := (∀ d ∈ ds, d.length = 64) ∧ w.ownsRow B 30 64 v ds.length (secC ds)

theorem SRow.nil (w : World) (B : Nat) : SRow w B (.slice none 0 0) [] := ⟨by simp, World.ownsRow_nil w B _ 64⟩
theorem SRow.lt {w : World} {B : Nat} {v : Value} {ds : List (List UInt8)} (h : SRow w B v ds) : ∀ k, v.ownBlock = some k → B ≤ k ∧ k < w.heap.size := World.ownsRow.lt h.2
theorem SRow.up {w w' : World} {B : Nat} {v : Value} {ds : List (List UInt8)} (h : SRow w B v ds) (hb : Below w.heap.size w w') : SRow w' B v ds := by
  refine ⟨h.1, h.2.1, ?_⟩
  rcases h.2.2 with hn | ⟨g, cap, cur, rfl, h1, hg, rest⟩
  · exact .inl hn
  · exact .inr ⟨g, cap, cur, rfl, h1, (hb.block g (Array.getElem?_eq_some_iff.1 hg).1).trans hg, rest⟩
theorem SRow.base {w : World} {B B' : Nat} {v : Value} {ds : List (List UInt8)} (h : SRow w B v ds) (hB : B' ≤ B) : SRow w B' v ds := by
  refine ⟨h.1, h.2.1, ?_⟩
  rcases h.2.2 with hn | ⟨g, cap, cur, rfl, h1, rest⟩
  · exact .inl hn
  · exact .inr ⟨g, cap, cur, rfl, Nat.le_trans hB h1, rest⟩
theorem SRow.empty (w : World) (B : Nat) (hB : B ≤ w.heap.size) : SRow (w.alloc (.cells #[] 30)) B (.slice (some ⟨w.heap.size, 0, none⟩) 0 0) [] :=
  ⟨by simp, rfl, .inr ⟨w.heap.size, 0, #[], rfl, hB, heap_alloc_new w _, Nat.le_refl _, by unfold maxLen; omega, rfl, rfl⟩⟩
/-- Its value, and its sectors in memory. -/
theorem SRow.slice {w : World} {B : Nat} {v : Value} {ds : List (List UInt8)} (h : SRow w B v ds) : ∃ A c, v = .slice A ds.length c ∧ ds.length ≤ c ∧ c ≤ maxLen ∧ SecsAt w A ds := by
  rcases h.2.2 with ⟨rfl, hn⟩ | ⟨g, cap, cur, rfl, h1, hg, h2, h3, h4, h5⟩
  · exact ⟨none, 0, by rw [hn], by omega, by unfold maxLen; omega, fun hp => by omega⟩
  · refine ⟨_, cap, rfl, h2, h3, fun hp => ⟨g, 0, rfl, (Array.getElem?_eq_some_iff.1 hg).1, fun i hi => ⟨h.1 _ (by simp [List.getD, hi]), fun j v hj => ?_⟩⟩⟩
    have hd := secC_at h.1 hi j v hj
    rw [← h5] at hd
    have hlt : i * 64 + j < ds.length * 64 := by
      have := (List.getElem?_eq_some_iff.1 hd).1
      rw [List.length_take] at this
      omega
    rw [List.getElem?_take_of_lt hlt] at hd
    rw [cell_of_row w g _ cur 30 (0, 0) hg, Nat.zero_add]
    simpa using hd

theorem run_append_secR {w : World} {B : Nat} {v : Value} {ds : List (List UInt8)} (h : SRow w B v ds) (hB : B ≤ w.heap.size) (ty : TypeId) (g c : Nat) (d : List UInt8) (hd : d.length = 64) (hg : Arr w g 30 (Lib.byteCells d)) (hm : ds.length ≤ 1000000) :
    ∃ v' w', (Builtin.append_ #[31, 31] ty #[v, .slice (some ⟨g, 0, none⟩) 1 c]).run Try.prog w = .ok v' w' ∧ SRow w' B v' (ds ++ [d]) ∧ w.grownBy w' v.ownBlock := by
  obtain ⟨i0, hi, hz0, hz1, hz2⟩ := info_parts secAllR
  have hadd : ∀ k, (⟨g, 0, none⟩ : Addr).add k = ⟨g, k, none⟩ := fun k => by unfold Addr.add; split <;> simp_all
  obtain ⟨v', w', h1, h2, h3, _, _⟩ := run_append_own_at (P := Try.prog) w B 31 ty 30 i0 (.agg (Lib.byteCells zero64).toArray) 64 64 Try.underlying31 hi hz0 hz1 hz2 rfl (by decide) v ds.length (secC ds) h.2 ⟨g, 0, none⟩ 1 c (Lib.byteCells d) (by rw [Lib.byteCells_length, hd]) (fun j u hj => by rw [hadd, hg.cell]; exact hj) (byteCells_one d) (by unfold maxLen; omega) (by omega) hB
  refine ⟨v', w', h1, ⟨fun x hx => ?_, ?_⟩, h3⟩
  · rcases List.mem_append.1 hx with hx | hx
    · exact h.1 x hx
    · rw [List.mem_singleton] at hx; rw [hx]; exact hd
  · rw [secC_append, secC_one, List.length_append]
    exact h2

theorem wpList_append_secR {ops : Array Oper} {rest : List Oper} {o : Oper} {a : Act} {w : World} {Q : Exit → Act → World → Prop} (hgd : o.guard = none) (s x : Operand) (ho : o.op = .call { callee := .builtin .append, args := #[s, x], argTypes := #[31, 31] })
    {B : Nat} {v : Value} {ds : List (List UInt8)} (h : SRow w B v ds) (hB : B ≤ w.heap.size) (hs : a.eval s = v) (g c : Nat) (hx : a.eval x = .slice (some ⟨g, 0, none⟩) 1 c) (d : List UInt8) (hd : d.length = 64) (hg : Arr w g 30 (Lib.byteCells d)) (hm : ds.length ≤ 1000000)
    (hK : ∀ v' w', SRow w' B v' (ds ++ [d]) → w.grownBy w' v.ownBlock → wpList Try.prog ops Q rest (a.put o.dst v') w') : wpList Try.prog ops Q (o :: rest) a w := by
  refine wpList_plain hgd fun K hK' => ?_
  obtain ⟨v', w', hr, h2, h3⟩ := run_append_secR h hB o.type g c d hd hg hm
  unfold Oper.wp execOp
  simp only [ho, resolve, invoke, builtin, Sem.run_bind, Sem.run_pure, Result.andThen_ok, List.map_toArray, List.map_cons, List.map_nil, hs, hx, hr]
  exact hK' _ _ (hK v' w' h2 h3)
theorem step_append_secR {ops : Array Oper} {o : Oper} {a : Act} {w : World} {K : Act → World → Prop} {Q : Exit → Act → World → Prop} {E : Prop} (hgd : o.guard = none) (dd : Option Tmp) (hdd : o.dst = dd) (s x : Operand) (ho : o.op = .call { callee := .builtin .append, args := #[s, x], argTypes := #[31, 31] })
    {B : Nat} {v : Value} {ds : List (List UInt8)} (h : SRow w B v ds) (hB : B ≤ w.heap.size) (hs : a.eval s = v) (g c : Nat) (hx : a.eval x = .slice (some ⟨g, 0, none⟩) 1 c) (d : List UInt8) (hd : d.length = 64) (hg : Arr w g 30 (Lib.byteCells d)) (hm : ds.length ≤ 1000000)
    (hK : ∀ v' w', SRow w' B v' (ds ++ [d]) → w.grownBy w' v.ownBlock → K (a.put dd v') w') : if Region.wanted o (yielded ops a.tmps) = true then Oper.wp Try.prog o a w K Q else E := by
  subst hdd
  have hw : Region.wanted o (yielded ops a.tmps) = true := by simp [Region.wanted, hgd]
  obtain ⟨v', w', hr, h2, h3⟩ := run_append_secR h hB o.type g c d hd hg hm
  rw [if_pos hw]
  unfold Oper.wp execOp
  simp only [ho, resolve, invoke, builtin, Sem.run_bind, Sem.run_pure, Result.andThen_ok, List.map_toArray, List.map_cons, List.map_nil, hs, hx, hr]
  exact hK v' w' h2 h3

end Go.Proofs.Ytongmiebojilfaa

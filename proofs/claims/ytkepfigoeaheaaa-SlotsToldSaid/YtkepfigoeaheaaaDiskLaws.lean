/-
  The operations of a disk's Write.
-/
import Derived.Test.YtkepfigoeaheaaaDiskNew
import Derived.Maps.AppendAt
namespace Go.Proofs.Ytkepfigoeaheaaa
open Go.RowKit
set_option linter.unusedVariables false
set_option linter.unusedSimpArgs false

theorem yieldsIf_build {P : Program} {ops : Array Oper} {S : World → Prop} {op : Oper} {a : Act} (hw : Region.wanted op (yielded ops a.tmps) = true) (t : TypeId) (parts : Array (Nat × Operand)) (ho : op.op = .build t parts)
    (ps : List (Nat × Value)) (hp : parts.toList.map (fun x => (x.1, a.eval x.2)) = ps) (cells : Array Value) (hf : P.built t ps = some cells) : YieldsIf P ops S op (.agg cells) a :=
  .inl ⟨hw, fun w hw' => by
    unfold execOp
    simp only [ho, Sem.run_bind, run_build w t _ cells (show P.built t (parts.map fun (i, x) => (i, a.eval x)).toList = some cells by rw [← hf, ← hp]; simp), Result.andThen_ok, Sem.run_pure]⟩

theorem fill_mid (place : Nat → Option (Nat × Nat)) (cells : Array Value) (i off : Nat) (l : List Value) (hp : place i = some (off, l.length)) (h : off + l.length ≤ cells.size) :
    Instr.fill place cells [(i, .agg l.toArray)] = some (cells.toList.take off ++ (l ++ cells.toList.drop (off + l.length))).toArray := by
  simp only [Instr.fill, hp, Value.cells, List.size_toArray]
  rw [if_neg (by simp; omega)]
  congr 1
  obtain ⟨g1, g2⟩ := Great.foldl_set off l 0 cells
  have e : (l.toArray.zipIdx.foldl (fun cs (x : Value × Nat) => cs.setIfInBounds (off + x.2) x.1) cells) = ((l.zipIdx 0).foldl (fun cs (x : Value × Nat) => cs.setIfInBounds (off + x.2) x.1) cells) := by
    rw [← Array.foldl_toList, Array.toList_zipIdx]
  show (l.toArray.zipIdx.foldl (fun cs (x : Value × Nat) => cs.setIfInBounds (off + x.2) x.1) cells) = _
  rw [e]
  apply Array.ext_getElem?
  intro k
  rw [g2 k]
  have hto : (cells.toList.take off).length = off := by simp; omega
  simp only [List.getElem?_toArray, Nat.add_zero]
  by_cases hk : off ≤ k
  · rw [List.getElem?_append_right (by omega), hto]
    by_cases hk2 : k < off + l.length
    · rw [if_pos ⟨hk, hk2, by omega⟩, List.getElem?_append_left (by omega)]
    · rw [if_neg (by omega), List.getElem?_append_right (by omega), List.getElem?_drop]
      rw [show off + l.length + (k - off - l.length) = k by omega]
      simp
  · rw [if_neg (by omega), List.getElem?_append_left (by omega)]
    simp [show k < off from by omega]

def wrZ : List Value := .int .i64 0 :: (Lib.byteCells zero64 ++ [.bool false])
theorem wr_fill (parts : List (Nat × Value)) : Try.prog.built 102 parts = Instr.fill (#[(0, 1), (1, 64), (65, 1)][·]?) wrZ.toArray parts := by kernel_rfl
set_option maxRecDepth 100000 in
theorem wr_built (a : Nat) (s : List UInt8) (V : List Value) (hV : V = Lib.byteCells s) (h : s.length = 64) : Try.prog.built 102 [(0, .int .i64 (a : Nat)), (1, .agg V.toArray)] = some (wrOne (a, s, false)).toArray := by
  have hl : V.length = 64 := by rw [hV, Lib.byteCells_length, h]
  rw [wr_fill]
  have h1 := fill_mid (#[(0, 1), (1, 64), (65, 1)][·]?) (.int .i64 (a : Nat) :: (Lib.byteCells zero64 ++ [.bool false])).toArray 1 1 V (by rw [hl]; rfl) (by rw [hl]; simp [Lib.byteCells, zero64])
  rw [hl] at h1
  have e : ((.int .i64 (a : Nat) :: (Lib.byteCells zero64 ++ [.bool false])).toArray.toList.take 1 ++ (V ++ (.int .i64 (a : Nat) :: (Lib.byteCells zero64 ++ [.bool false])).toArray.toList.drop (1 + 64)) : List Value) = wrOne (a, s, false) := by
    rw [hV]; rfl
  rw [e] at h1
  rw [← h1]
  conv => lhs; unfold Instr.fill
  simp [Value.cells, wrZ]

theorem wrInfo : (Try.prog.info? 102).map (fun i => (i.zero, i.size, i.bytes)) = some (some (.agg wrZ.toArray), 66, 80) := by kernel_rfl
theorem wrOne_cell (x : WrF) : ∀ v ∈ wrOne x, v.oneCell' = true := by
  intro v hv
  simp only [wrOne, List.mem_cons, List.mem_append, List.not_mem_nil, or_false] at hv
  rcases hv with rfl | hv | rfl
  · rfl
  · exact byteCells_one _ v hv
  · rfl

set_option maxRecDepth 100000 in
theorem wp_build_wr {o : Oper} {a : Act} {w : World} {K : Act → World → Prop} {Q : Exit → Act → World → Prop} (dd : Option Tmp) (hdd : o.dst = dd) (x : Operand) (ho : o.op = .buildSlice 95 1 #[(0, x)]) (VL : List Value) (hV : VL.length = 66) (hx : a.eval x = .agg VL.toArray)
    (h : K (a.put dd (.slice (some ⟨w.heap.size, 0, none⟩) 1 1)) (w.alloc (.cells VL.toArray 102))) : Oper.wp Try.prog o a w K Q := by
  subst hdd
  obtain ⟨i0, hi, hz0, hz1, hz2⟩ := info_parts wrInfo
  refine wp_buildSlice 95 102 1 #[(0, x)] ho VL.toArray i0 _ Try.underlying95 hi hz0 (by rw [hz1]; decide) (by rw [hz1]; decide) ?_ h
  rw [hz1]
  simp only [List.map_toArray, List.map_cons, List.map_nil, hx]
  have := fill_mid (fun i => some (i * 66, 66)) (Array.map (fun x => (Value.agg wrZ.toArray).cells[x % (Value.agg wrZ.toArray).cells.size]!) (Array.range (1 * 66))) 0 0 VL (by rw [hV]) (by rw [hV]; simp)
  refine this.trans ?_
  congr 1
  rw [List.take_zero, List.nil_append, List.drop_of_length_le (by simp [hV]), List.append_nil]

set_option maxRecDepth 100000 in
/-- A row of writes of the call's own grows by one. -/
theorem run_append_wr {w : World} {v : Value} {W : List WrF} (h : w.ownsRow 0 102 66 v W.length (wrC W)) (ty : TypeId) (g c : Nat) (x : WrF) (hx : x.2.1.length = 64) (hg : Arr w g 102 (wrOne x)) (hm : W.length ≤ 1000000) :
    ∃ v' w', (Builtin.append_ #[95, 95] ty #[v, .slice (some ⟨g, 0, none⟩) 1 c]).run Try.prog w = .ok v' w' ∧ w'.ownsRow 0 102 66 v' (W ++ [x]).length (wrC (W ++ [x])) ∧ w.grownBy w' v.ownBlock ∧ (v'.ownBlock = v.ownBlock ∨ v'.ownBlock = some w.heap.size) := by
  obtain ⟨i0, hi, hz0, hz1, hz2⟩ := info_parts wrInfo
  have hadd : ∀ k, (⟨g, 0, none⟩ : Addr).add k = ⟨g, k, none⟩ := fun k => by unfold Addr.add; split <;> simp_all
  obtain ⟨v', w', h1, h2, h3, _, h5⟩ := run_append_own_at (P := Try.prog) w 0 95 ty 102 i0 (.agg wrZ.toArray) 66 80 Try.underlying95 hi hz0 hz1 hz2 rfl (by decide) v W.length (wrC W) h ⟨g, 0, none⟩ 1 c (wrOne x) (by rw [wrOne_length hx]) (fun j u hj => by rw [hadd, hg.cell]; exact hj) (wrOne_cell x) (by unfold maxLen; omega) (by omega) (Nat.zero_le _)
  refine ⟨v', w', h1, ?_, h3, h5⟩
  rw [wrC_append, wrC_one, List.length_append]
  exact h2
theorem wp_append_wr {o : Oper} {a : Act} {w : World} {K : Act → World → Prop} {Q : Exit → Act → World → Prop} (dd : Option Tmp) (hdd : o.dst = dd) (s y : Operand) (ho : o.op = .call { callee := .builtin .append, args := #[s, y], argTypes := #[95, 95] })
    {v : Value} {W : List WrF} (h : w.ownsRow 0 102 66 v W.length (wrC W)) (hs : a.eval s = v) (g c : Nat) (hy : a.eval y = .slice (some ⟨g, 0, none⟩) 1 c) (x : WrF) (hx : x.2.1.length = 64) (hg : Arr w g 102 (wrOne x)) (hm : W.length ≤ 1000000)
    (hK : ∀ v' w', w'.ownsRow 0 102 66 v' (W ++ [x]).length (wrC (W ++ [x])) → w.grownBy w' v.ownBlock → (v'.ownBlock = v.ownBlock ∨ v'.ownBlock = some w.heap.size) → K (a.put dd v') w') : Oper.wp Try.prog o a w K Q := by
  subst hdd
  obtain ⟨v', w', hr, h2, h3, h4⟩ := run_append_wr h o.type g c x hx hg hm
  unfold Oper.wp execOp
  simp only [ho, resolve, invoke, builtin, Sem.run_bind, Sem.run_pure, Result.andThen_ok, List.map_toArray, List.map_cons, List.map_nil, hs, hy, hr]
  exact hK v' w' h2 h3 h4

set_option maxRecDepth 100000 in
/-- The numbers of a sector's writes. -/
theorem wp_lookup_gr {o : Oper} {a : Act} {w : World} {K : Act → World → Prop} {Q : Exit → Act → World → Prop} (dd : Option Tmp) (hdd : o.dst = dd) (m x : Operand) (hop : o.op = Op.lookup 96 m x false) (base b n : Nat) (D : DataW Unit)
    (hm : a.eval m = .map (some b)) (hown : w.ownsGroups Try.prog 3 base 3 .i64 b n D) (hn : n < maxLen) (kk : Nat) (hx : a.eval x = .int .i64 (kk : Nat)) (hk : kk ≤ 65536)
    (hK : ∀ v zs, D.atKey (.int .i64 (kk : Nat)) .nil = rowDatum .i64 v zs → w.ownsInts base 3 .i64 v zs → zs.length ≤ n → w.groupBack Try.prog 96 3 base 3 .i64 b n D (.int .i64 (kk : Nat)) (.int .i64 (kk : Nat)) v → (∀ No : Nat → Prop, w.Shuns b No → ∀ g, v.ownBlock = some g → ¬ No g) → K (a.put dd v) w) :
    Oper.wp Try.prog o a w K Q := by
  subst hdd
  have hkey := Go.Maps.keyOf_int_mk (P := Try.prog) Try.underlying3 (a := (kk : Int)) (WalkArith.wf_i64 (by omega))
  have hz : (zeroValue 100).run Try.prog w = .ok (.slice none 0 0) w := by kernel_rfl
  obtain ⟨v, zs, hrun, hat, hoi, hzl, hback⟩ := hown.at sec_int_keyed Try.underlying96 hz hn hkey
  have hsh : ∀ No : Nat → Prop, w.Shuns b No → ∀ g, v.ownBlock = some g → ¬ No g := by
    obtain ⟨es, clock, hb, F, _⟩ := hown
    rcases Maps.fit_look false sec_int_keyed Try.underlying96 hz hb F hkey with ⟨hrun', _, _⟩ | ⟨e0, y, hm0, _, hrun', _, _, _⟩
    · rw [hrun] at hrun'
      obtain rfl : v = .slice none 0 0 := by simpa using hrun'
      intro _ _ g hg'
      cases hg'
    · rw [hrun] at hrun'
      obtain rfl : v = e0.val := by simpa using hrun'
      exact fun No hs g hg' => hs es clock hb e0 hm0 g hg'
  unfold Oper.wp
  simp [execOp, hop, hm, hx, hrun, Result.andThen]
  exact hK v zs hat hoi hzl hback hsh

theorem intInfo : (Try.prog.info? 3).map (fun i => (i.zero, i.size, i.bytes)) = some (some (.int .i64 0), 1, 8) := by kernel_rfl
set_option maxRecDepth 100000 in
theorem wp_append_one {o : Oper} {a : Act} {w : World} {K : Act → World → Prop} {Q : Exit → Act → World → Prop} (dd : Option Tmp) (hdd : o.dst = dd) (s y : Operand) (ho : o.op = .call { callee := .builtin .append, args := #[s, y], argTypes := #[100, 100] })
    {base : Nat} {v : Value} {zs : List Int} (h : w.ownsInts base 3 .i64 v zs) (hb : base ≤ w.heap.size) (hs : a.eval s = v) (g c : Nat) (hy : a.eval y = .slice (some ⟨g, 0, none⟩) 1 c) (x : Nat) (hx : x ≤ 1000000) (hg : Arr w g 3 [.int .i64 (x : Nat)]) (hm : zs.length ≤ 1000000)
    (hK : ∀ v' w', w'.ownsInts base 3 .i64 v' (zs ++ [(x : Int)]) → w.grownBy w' v.ownBlock → (v'.ownBlock = v.ownBlock ∨ v'.ownBlock = some w.heap.size) → K (a.put dd v') w') : Oper.wp Try.prog o a w K Q := by
  subst hdd
  obtain ⟨i0, hi, hz0, hz1, hz2⟩ := info_parts intInfo
  have hadd : ∀ k, (⟨g, 0, none⟩ : Addr).add k = ⟨g, k, none⟩ := fun k => by unfold Addr.add; split <;> simp_all
  obtain ⟨v', w', h1, h2, h3, _, h5⟩ := run_append_own_at (P := Try.prog) w base 100 o.type 3 i0 (.int .i64 0) 1 8 Try.underlying100 hi hz0 hz1 hz2 rfl (by decide) v zs.length (zs.map (Value.int .i64)) h.1 ⟨g, 0, none⟩ 1 c [.int .i64 (x : Nat)] rfl (fun j u hj => by rw [hadd, hg.cell]; exact hj) (ints_oneCell .i64 [(x : Int)]) (by unfold maxLen; omega) (by omega) hb
  unfold Oper.wp execOp
  simp only [ho, resolve, invoke, builtin, Sem.run_bind, Sem.run_pure, Result.andThen_ok, List.map_toArray, List.map_cons, List.map_nil, hs, hy, h1]
  exact hK v' w' (h.appended h2 (WalkArith.wf_i64 (by omega))) h3 h5

theorem wp_update_gr {o : Oper} {a : Act} {w : World} {K : Act → World → Prop} {Q : Exit → Act → World → Prop} (dd : Option Tmp) (hdd : o.dst = dd) (m x v : Operand) (hop : o.op = Op.mapUpdate 96 m x v)
    {w0 : World} {base b n : Nat} {D : DataW Unit} {kk : Nat} {u v' : Value} {zs zs' : List Int} (hk : kk ≤ 65536) (hown0 : w0.ownsGroups Try.prog 3 base 3 .i64 b n D) (hn : n < maxLen) (hu : w0.ownsInts base 3 .i64 u zs)
    (hback : w0.groupBack Try.prog 96 3 base 3 .i64 b n D (.int .i64 (kk : Nat)) (.int .i64 (kk : Nat)) u) (hm : a.eval m = .map (some b)) (hx : a.eval x = .int .i64 (kk : Nat)) (hv : a.eval v = v')
    (hgr : w0.grownBy w u.ownBlock) (hown' : w.ownsInts base 3 .i64 v' zs') (hl' : zs'.length ≤ n + 1) (hloc : v'.ownBlock = u.ownBlock ∨ ∃ g, v'.ownBlock = some g ∧ w0.heap.size ≤ g)
    (hK : ∀ w2, w2.ownsGroups Try.prog 3 base 3 .i64 b (n + 1) (D.put (.int .i64 (kk : Nat)) (rowDatum .i64 v' zs')) → w.grownBy w2 (some b) → (∀ No : Nat → Prop, w0.Shuns b No → (∀ g, v'.ownBlock = some g → ¬ No g) → w2.Shuns b No) → K (a.put dd undef) w2) :
    Oper.wp Try.prog o a w K Q := by
  subst hdd
  have hkey := Go.Maps.keyOf_int_mk (P := Try.prog) Try.underlying3 (a := (kk : Int)) (WalkArith.wf_i64 (by omega))
  obtain ⟨w2, hrun, r1, r2⟩ := hback w v' zs' hgr hown' hl' hloc
  have r3 : ∀ No : Nat → Prop, w0.Shuns b No → (∀ g, v'.ownBlock = some g → ¬ No g) → w2.Shuns b No := fun No hsh hno => by
    obtain ⟨es, clock, hb, F, hs, _, hbb, _⟩ := hown0
    have hblt : b < w0.heap.size := (Array.getElem?_eq_some_iff.1 hb).1
    have hb1 : w.heap[b]? = some (.map es clock) := (hgr.block b hblt (fun e1 => by have := (hu.1.lt b e1.symm).1; omega)).trans hb
    obtain ⟨es', clock', hb2, hwho⟩ := stored_who sec_int_keyed Try.underlying96 hb1 F (Nat.lt_of_le_of_lt hs hn) hkey hrun
    intro es2 clock2 hb2' y hy g hyg
    obtain ⟨rfl, rfl⟩ : es' = es2 ∧ clock' = clock2 := by rw [hb2] at hb2'; simpa using hb2'
    rcases hwho y hy with ⟨hy0, _⟩ | ⟨_, hval⟩
    · exact hsh es clock hb y hy0 g hyg
    · exact hno g (hval ▸ hyg)
  unfold Oper.wp
  simp [execOp, hop, hm, hx, hv, hrun, Result.andThen]
  exact hK w2 r1 r2 r3

end Go.Proofs.Ytkepfigoeaheaaa

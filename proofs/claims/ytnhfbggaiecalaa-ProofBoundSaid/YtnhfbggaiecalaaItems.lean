/-
  The document's items, as they lie in memory: a key of 32 cells and a slice; rows of them of the call's own.
-/
import Derived.Test.YtnhfbggaiecalaaGen
import Derived.Test.YtnhfbggaiecalaaTrieMath
import Derived.Maps.AppendAt
namespace Go.Proofs.Ytnhfbggaiecalaa
open Go.RowKit
set_option linter.unusedVariables false
set_option linter.unusedSimpArgs false

theorem fill_midI (place : Nat → Option (Nat × Nat)) (cells : Array Value) (i off : Nat) (l : List Value) (hp : place i = some (off, l.length)) (h : off + l.length ≤ cells.size) :
    Instr.fill place cells [(i, .agg l.toArray)] = some (cells.toList.take off ++ (l ++ cells.toList.drop (off + l.length))).toArray := by
  simp only [Instr.fill, hp, Value.cells, List.size_toArray]
  rw [if_neg (by simp; omega)]
  congr 1
  obtain ⟨g1, g2⟩ := Great.foldl_set off l 0 cells
  have e : (l.toArray.zipIdx.foldl (fun cs (x : Value × Nat) => cs.setIfInBounds (off + x.2) x.1) cells) = ((l.zipIdx 0).foldl (fun cs (x : Value × Nat) => cs.setIfInBounds (off + x.2) x.1) cells) := by
    rw [← Array.foldl_toList, Array.toList_zipIdx]
  show (l.toArray.zipIdx.foldl (fun cs (x : Value × Nat) => cs.setIfInBounds (off + x.2) x.1) cells) = _
  rw [e]
  apply Array.ext_getElem?
  intro k
  rw [g2 k]
  have hto : (cells.toList.take off).length = off := by simp; omega
  simp only [List.getElem?_toArray, Nat.add_zero]
  by_cases hk : off ≤ k
  · rw [List.getElem?_append_right (by omega), hto]
    by_cases hk2 : k < off + l.length
    · rw [if_pos ⟨hk, hk2, by omega⟩, List.getElem?_append_left (by omega)]
    · rw [if_neg (by omega), List.getElem?_append_right (by omega), List.getElem?_drop]
      rw [show off + l.length + (k - off - l.length) = k by omega]
      simp
  · rw [if_neg (by omega), List.getElem?_append_left (by omega)]
    simp [show k < off from by omega]

theorem fill_consI (place : Nat → Option (Nat × Nat)) (cells : Array Value) (x : Nat × Value) (rest : List (Nat × Value)) (c : Array Value) (h : Instr.fill place cells [x] = some c) : Instr.fill place cells (x :: rest) = Instr.fill place c rest := by
  obtain ⟨i, v⟩ := x
  unfold Instr.fill at h ⊢
  cases hp : place i with
  | none => simp [hp] at h
  | some p =>
    obtain ⟨off, n⟩ := p
    simp only [hp] at h ⊢
    split at h
    · cases h
    · rename_i hc
      rw [if_neg hc]
      simp only [Instr.fill] at h
      injection h with h
      rw [h]
      conv => lhs; unfold Instr.fill

/-- An item: key, value, and where the value lies. -/
structure Itm where
  key : List UInt8
  val : List UInt8
  adr : Option Addr
  cap : Nat
def Itm.it (x : Itm) : It := (x.key, x.val)
def itC (x : Itm) : List Value := Lib.byteCells x.key ++ [.slice x.adr x.val.length x.cap]
def itsC (xs : List Itm) : List Value := xs.flatMap itC
theorem itC_length {x : Itm} (h : x.key.length = 32) : (itC x).length = 33 := by simp [itC, Lib.byteCells_length, h]
theorem itC_one (x : Itm) : ∀ v ∈ itC x, v.oneCell' = true := by
  intro v hv
  rcases List.mem_append.1 hv with hv | hv
  · simp only [Lib.byteCells, List.mem_map] at hv
    obtain ⟨b, _, rfl⟩ := hv
    rfl
  · simp only [List.mem_singleton] at hv
    subst hv
    rfl
theorem itsC_append (a b : List Itm) : itsC (a ++ b) = itsC a ++ itsC b := by unfold itsC; rw [List.flatMap_append]
theorem itsC_one (x : Itm) : itsC [x] = itC x := by simp [itsC]
theorem itsC_cons (x : Itm) (xs : List Itm) : itsC (x :: xs) = itC x ++ itsC xs := by unfold itsC; rw [List.flatMap_cons]
theorem itsC_at {xs : List Itm} (h : ∀ x ∈ xs, x.key.length = 32) {i : Nat} {x : Itm} (hi : xs[i]? = some x) (j : Nat) (v : Value) (hj : (itC x)[j]? = some v) : (itsC xs)[i * 33 + j]? = some v := by
  induction xs generalizing i with
  | nil => simp at hi
  | cons y xs ih =>
    have hl := itC_length (h y List.mem_cons_self)
    rw [itsC_cons]
    cases i with
    | zero =>
      simp at hi
      subst hi
      rw [Nat.zero_mul, Nat.zero_add, List.getElem?_append_left (List.getElem?_eq_some_iff.1 hj).1]
      exact hj
    | succ i =>
      have := ih (fun x hx => h x (List.mem_cons_of_mem _ hx)) (i := i) (by simpa using hi)
      rw [List.getElem?_append_right (by rw [hl]; omega), hl, show (i + 1) * 33 + j - 33 = i * 33 + j by omega]
      exact this

/-- An item's value lies below B. -/
structure ItOk (w : World) (B : Nat) (x : Itm) : Prop where
  k32 : x.key.length = 32
  le : x.val.length ≤ x.cap
  lim : x.cap ≤ maxLen
  bs : Bs w B x.adr x.val
def ItsOk (w : World) (B : Nat) (xs : List Itm) : Prop := ∀ x ∈ xs, ItOk w B x
theorem ItsOk.below {w w' : World} {B B' : Nat} {xs : List Itm} (h : ItsOk w B xs) (hb : Below B' w w') (hB : B ≤ B') : ItsOk w' B xs := fun x hx => ⟨(h x hx).k32, (h x hx).le, (h x hx).lim, (h x hx).bs.below hb hB⟩
theorem ItsOk.sub {w : World} {B : Nat} {xs ys : List Itm} (h : ItsOk w B xs) (hs : ∀ y ∈ ys, y ∈ xs) : ItsOk w B ys := fun y hy => h y (hs y hy)

/-- A row of items of the call's own, from block B on. -/
def IRow (w : World) (B : Nat) (v : Value) (xs : List Itm) : Prop := (∀ x ∈ xs, x.key.length = 32) ∧ w.ownsRow B 45 33 v xs.length (itsC xs)
/-- Items in memory, one behind the other. -/
def ItsAt (w : World) (A : Option Addr) (xs : List Itm) : Prop :=
  0 < xs.length → ∃ b off, A = some ⟨b, off, none⟩ ∧ b < w.heap.size ∧ ∀ i x, xs[i]? = some x → x.key.length = 32 ∧ w.rangeAt b (off + i * 33) (itC x)
theorem ItsAt.up {w w' : World} {A : Option Addr} {xs : List Itm} (h : ItsAt w A xs) (hb : Below w.heap.size w w') : ItsAt w' A xs := fun hp => by
  obtain ⟨b, off, e, hlt, hr⟩ := h hp
  refine ⟨b, off, e, Nat.lt_of_lt_of_le hlt hb.size, fun i x hx => ⟨(hr i x hx).1, fun j v hj => ?_⟩⟩
  rw [← (hr i x hx).2 j v hj]
  exact World.cell?_of_block (hb.block b hlt)
theorem ItsAt.drewN {w : World} {A : Option Addr} {xs : List Itm} (h : ItsAt w A xs) (n : Nat) : ItsAt (w.drewN n) A xs := h
theorem ItsAt.key {w : World} {b off i : Nat} {x : Itm} (h : w.rangeAt b (off + i * 33) (itC x)) (KL : List Value) (hK : KL = Lib.byteCells x.key) : w.rangeAt b (off + i * 33) KL := fun j v hj => by
  refine h j v ?_
  unfold itC
  rw [← hK, List.getElem?_append_left (List.getElem?_eq_some_iff.1 hj).1]
  exact hj
theorem ItsAt.val {w : World} {b off i : Nat} {x : Itm} (hk : x.key.length = 32) (h : w.rangeAt b (off + i * 33) (itC x)) : w.cell? ⟨b, off + i * 33 + 32, none⟩ = some (.slice x.adr x.val.length x.cap) := by
  refine h 32 _ ?_
  unfold itC
  rw [List.getElem?_append_right (by rw [Lib.byteCells_length, hk]; exact Nat.le_refl _), Lib.byteCells_length, hk]
  rfl

theorem IRow.lt {w : World} {B : Nat} {v : Value} {xs : List Itm} (h : IRow w B v xs) : ∀ k, v.ownBlock = some k → B ≤ k ∧ k < w.heap.size := World.ownsRow.lt h.2
/-- A block of another type isn't the row's. -/
theorem IRow.apartI {w : World} {B : Nat} {v : Value} {xs : List Itm} (h : IRow w B v xs) {g : Nat} {T : TypeId} {cs : List Value} (hg : Arr w g T cs) (hT : T ≠ 45) : ∀ k, v.ownBlock = some k → k ≠ g := by
  intro k hk e
  subst e
  rcases h.2.2 with ⟨rfl, _⟩ | ⟨g', cap, cur, rfl, _, hg', _⟩
  · cases hk
  · simp only [Value.ownBlock, Option.some.injEq] at hk
    subst hk
    have := hg.symm.trans hg'
    simp only [Option.some.injEq, Obj.cells.injEq] at this
    exact hT this.2.1
theorem IRow.up {w w' : World} {B : Nat} {v : Value} {xs : List Itm} (h : IRow w B v xs) (hb : Below w.heap.size w w') : IRow w' B v xs := by
  refine ⟨h.1, h.2.1, ?_⟩
  rcases h.2.2 with hn | ⟨g, cap, cur, rfl, h1, hg, rest⟩
  · exact .inl hn
  · exact .inr ⟨g, cap, cur, rfl, h1, (hb.block g (Array.getElem?_eq_some_iff.1 hg).1).trans hg, rest⟩
theorem IRow.base {w : World} {B B' : Nat} {v : Value} {xs : List Itm} (h : IRow w B v xs) (hB : B' ≤ B) : IRow w B' v xs := by
  refine ⟨h.1, h.2.1, ?_⟩
  rcases h.2.2 with hn | ⟨g, cap, cur, rfl, h1, rest⟩
  · exact .inl hn
  · exact .inr ⟨g, cap, cur, rfl, Nat.le_trans hB h1, rest⟩
theorem IRow.empty (w : World) (B : Nat) (hB : B ≤ w.heap.size) : IRow (w.alloc (.cells #[] 45)) B (.slice (some ⟨w.heap.size, 0, none⟩) 0 0) [] :=
  ⟨by simp, rfl, .inr ⟨w.heap.size, 0, #[], rfl, hB, heap_alloc_new w _, Nat.le_refl _, by unfold maxLen; omega, rfl, rfl⟩⟩
theorem IRow.slice {w : World} {B : Nat} {v : Value} {xs : List Itm} (h : IRow w B v xs) : ∃ A c, v = .slice A xs.length c ∧ xs.length ≤ c ∧ c ≤ maxLen ∧ ItsAt w A xs := by
  rcases h.2.2 with ⟨rfl, hn⟩ | ⟨g, cap, cur, rfl, h1, hg, h2, h3, h4, h5⟩
  · exact ⟨none, 0, by rw [hn], by omega, by unfold maxLen; omega, fun hp => by omega⟩
  · refine ⟨_, cap, rfl, h2, h3, fun hp => ⟨g, 0, rfl, (Array.getElem?_eq_some_iff.1 hg).1, fun i x hx => ⟨h.1 x (List.mem_of_getElem? hx), fun j v hj => ?_⟩⟩⟩
    have hd := itsC_at h.1 hx j v hj
    rw [← h5] at hd
    have hlt : i * 33 + j < xs.length * 33 := by
      have := (List.getElem?_eq_some_iff.1 hd).1
      rw [List.length_take] at this
      omega
    rw [List.getElem?_take_of_lt hlt] at hd
    rw [cell_of_row w g _ cur 45 (0, 0) hg, Nat.zero_add]
    simpa using hd

def itZ : List Value := Lib.byteCells zeros ++ [.slice none 0 0]
theorem itAll : (Try.prog.info? 45).map (fun i => (i.zero, i.size, i.bytes)) = some (some (.agg itZ.toArray), 33, 56) := by kernel_rfl
theorem itSize : (Try.prog.info? 45).map (·.size) = some 33 := by kernel_rfl
theorem it_fill (parts : List (Nat × Value)) : Try.prog.built 45 parts = Instr.fill (#[(0, 32), (32, 1)][·]?) itZ.toArray parts := by kernel_rfl
theorem it_built (k : List UInt8) (hk : k.length = 32) (KL : List Value) (hKL : KL = Lib.byteCells k) (A : Option Addr) (n c : Nat) : Try.prog.built 45 [(0, .agg KL.toArray), (1, .slice A n c)] = some (KL ++ [Value.slice A n c]).toArray := by
  have hl : KL.length = 32 := by rw [hKL, Lib.byteCells_length, hk]
  rw [it_fill]
  have h1 := fill_midI (#[(0, 32), (32, 1)][·]?) itZ.toArray 0 0 KL (by rw [hl]; rfl) (by rw [hl]; decide +kernel)
  rw [fill_consI _ _ _ _ _ h1]
  have e : (itZ.toArray.toList.take 0 ++ (KL ++ itZ.toArray.toList.drop (0 + KL.length))) = KL ++ [.slice none 0 0] := by
    rw [hl]; rfl
  rw [e]
  show (if (decide (_ ≠ 1) || decide (_ > _)) = true then none else some _) = _
  rw [if_neg (by simp [hl, Value.cells])]
  congr 1
  apply Array.ext'
  simp [hl, Value.cells]

theorem fill_it (l : List Value) (hl : l.length = 33) (cells : Array Value) (hc : cells.size = 33) : Instr.fill (fun i => some (i * 33, 33)) cells [(0, .agg l.toArray)] = some l.toArray := by
  have h := fill_midI (fun i => some (i * 33, 33)) cells 0 0 l (by rw [hl]) (by omega)
  rw [h]
  congr 2
  rw [List.take_zero, List.nil_append, hl, List.drop_of_length_le (by simp [hc]), List.append_nil]
/-- '[]Item{x}'. -/
theorem wp_build_it {o : Oper} {a : Act} {w : World} {K : Act → World → Prop} {Q : Exit → Act → World → Prop} (dd : Option Tmp) (hdd : o.dst = dd) (x : Operand) (ho : o.op = .buildSlice 37 1 #[(0, x)]) (VL : List Value) (hV : VL.length = 33) (hx : a.eval x = .agg VL.toArray)
    (h : K (a.put dd (.slice (some ⟨w.heap.size, 0, none⟩) 1 1)) (w.alloc (.cells VL.toArray 45))) : Oper.wp Try.prog o a w K Q := by
  subst hdd
  obtain ⟨i0, hi, hz0, hz1, hz2⟩ := info_parts itAll
  refine wp_buildSlice 37 45 1 #[(0, x)] ho VL.toArray i0 _ Try.underlying37 hi hz0 (by rw [hz1]; decide) (by rw [hz1]; decide) ?_ h
  rw [hz1]
  simp only [List.map_toArray, List.map_cons, List.map_nil, hx]
  exact fill_it VL hV _ (by simp)
theorem wpList_build_it {ops : Array Oper} {rest : List Oper} {o : Oper} {a : Act} {w : World} {Q : Exit → Act → World → Prop} (hg : o.guard = none) (x : Operand) (ho : o.op = .buildSlice 37 1 #[(0, x)]) (VL : List Value) (hV : VL.length = 33) (hx : a.eval x = .agg VL.toArray)
    (h : wpList Try.prog ops Q rest (a.put o.dst (.slice (some ⟨w.heap.size, 0, none⟩) 1 1)) (w.alloc (.cells VL.toArray 45))) : wpList Try.prog ops Q (o :: rest) a w :=
  wpList_plain hg fun _ hK => wp_build_it o.dst rfl x ho VL hV hx (hK _ _ h)

theorem run_append_it {w : World} {B : Nat} {v : Value} {xs : List Itm} (h : IRow w B v xs) (hB : B ≤ w.heap.size) (ty : TypeId) (g c : Nat) (x : Itm) (hx : x.key.length = 32) (VL : List Value) (hV : VL = itC x) (hg : Arr w g 45 VL) (hm : xs.length ≤ 1000000) :
    ∃ v' w', (Builtin.append_ #[37, 37] ty #[v, .slice (some ⟨g, 0, none⟩) 1 c]).run Try.prog w = .ok v' w' ∧ IRow w' B v' (xs ++ [x]) ∧ w.grownBy w' v.ownBlock := by
  obtain ⟨i0, hi, hz0, hz1, hz2⟩ := info_parts itAll
  subst hV
  have hadd : ∀ k, (⟨g, 0, none⟩ : Addr).add k = ⟨g, k, none⟩ := fun k => by unfold Addr.add; split <;> simp_all
  obtain ⟨v', w', h1, h2, h3, _, _⟩ := run_append_own_at (P := Try.prog) w B 37 ty 45 i0 (.agg itZ.toArray) 33 56 Try.underlying37 hi hz0 hz1 hz2 rfl (by decide) v xs.length (itsC xs) h.2 ⟨g, 0, none⟩ 1 c (itC x) (by rw [itC_length hx]) (fun j u hj => by rw [hadd, hg.cell]; exact hj) (itC_one x) (by unfold maxLen; omega) (by omega) hB
  refine ⟨v', w', h1, ⟨fun y hy => ?_, ?_⟩, h3⟩
  · rcases List.mem_append.1 hy with hy | hy
    · exact h.1 y hy
    · rw [List.mem_singleton] at hy; rw [hy]; exact hx
  · rw [itsC_append, itsC_one, List.length_append]
    exact h2
theorem wpList_append_it {ops : Array Oper} {rest : List Oper} {o : Oper} {a : Act} {w : World} {Q : Exit → Act → World → Prop} (hgd : o.guard = none) (s x : Operand) (ho : o.op = .call { callee := .builtin .append, args := #[s, x], argTypes := #[37, 37] })
    {B : Nat} {v : Value} {xs : List Itm} (h : IRow w B v xs) (hB : B ≤ w.heap.size) (hs : a.eval s = v) (g c : Nat) (hx : a.eval x = .slice (some ⟨g, 0, none⟩) 1 c) (y : Itm) (hy : y.key.length = 32) (VL : List Value) (hV : VL = itC y) (hg : Arr w g 45 VL) (hm : xs.length ≤ 1000000)
    (hK : ∀ v' w', IRow w' B v' (xs ++ [y]) → w.grownBy w' v.ownBlock → wpList Try.prog ops Q rest (a.put o.dst v') w') : wpList Try.prog ops Q (o :: rest) a w := by
  refine wpList_plain hgd fun K hK' => ?_
  obtain ⟨v', w', hr, h2, h3⟩ := run_append_it h hB o.type g c y hy VL hV hg hm
  unfold Oper.wp execOp
  simp only [ho, resolve, invoke, builtin, Sem.run_bind, Sem.run_pure, Result.andThen_ok, List.map_toArray, List.map_cons, List.map_nil, hs, hx, hr]
  exact hK' _ _ (hK v' w' h2 h3)

end Go.Proofs.Ytnhfbggaiecalaa

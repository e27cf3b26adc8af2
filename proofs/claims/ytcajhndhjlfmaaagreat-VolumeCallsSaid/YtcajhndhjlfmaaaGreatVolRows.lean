/-
  Rows of cells and of volumes, as they lie in memory.
-/
import Derived.Test.YtcajhndhjlfmaaaGreatVolPure
import Derived.Maps.AppendAt
import Derived.Laws.MakeOwn
namespace Go.Proofs.YtcajhndhjlfmaaaGreat
open Go.RowKit
set_option linter.unusedVariables false
set_option linter.unusedSimpArgs false

theorem fill_midV (place : Nat → Option (Nat × Nat)) (cells : Array Value) (i off : Nat) (l : List Value) (hp : place i = some (off, l.length)) (h : off + l.length ≤ cells.size) :
    Instr.fill place cells [(i, .agg l.toArray)] = some (cells.toList.take off ++ (l ++ cells.toList.drop (off + l.length))).toArray := by
  simp only [Instr.fill, hp, Value.cells, List.size_toArray]
  rw [if_neg (by simp; omega)]
  congr 1
  obtain ⟨g1, g2⟩ := Great.foldl_set off l 0 cells
  have e : (l.toArray.zipIdx.foldl (fun cs (x : Value × Nat) => cs.setIfInBounds (off + x.2) x.1) cells) = ((l.zipIdx 0).foldl (fun cs (x : Value × Nat) => cs.setIfInBounds (off + x.2) x.1) cells) := by
    rw [← Array.foldl_toList, Array.toList_zipIdx]
  show (l.toArray.zipIdx.foldl (fun cs (x : Value × Nat) => cs.setIfInBounds (off + x.2) x.1) cells) = _
  rw [e]
  apply Array.ext_getElem?
  intro k
  rw [g2 k]
  have hto : (cells.toList.take off).length = off := by simp; omega
  simp only [List.getElem?_toArray, Nat.add_zero]
  by_cases hk : off ≤ k
  · rw [List.getElem?_append_right (by omega), hto]
    by_cases hk2 : k < off + l.length
    · rw [if_pos ⟨hk, hk2, by omega⟩, List.getElem?_append_left (by omega)]
    · rw [if_neg (by omega), List.getElem?_append_right (by omega), List.getElem?_drop]
      rw [show off + l.length + (k - off - l.length) = k by omega]
      simp
  · rw [if_neg (by omega), List.getElem?_append_left (by omega)]
    simp [show k < off from by omega]
theorem fill_consV (place : Nat → Option (Nat × Nat)) (cells : Array Value) (x : Nat × Value) (rest : List (Nat × Value)) (c : Array Value) (h : Instr.fill place cells [x] = some c) : Instr.fill place cells (x :: rest) = Instr.fill place c rest := by
  obtain ⟨i, v⟩ := x
  unfold Instr.fill at h ⊢
  cases hp : place i with
  | none => simp [hp] at h
  | some p =>
    obtain ⟨off, n⟩ := p
    simp only [hp] at h ⊢
    split at h
    · cases h
    · rename_i hc
      rw [if_neg hc]
      simp only [Instr.fill] at h
      injection h with h
      rw [h]
      conv => lhs; unfold Instr.fill
theorem info_partsV {α γ : Type} {P : Program} {t : TypeId} {z : α} {s b : γ} {f : TypeInfo → Option α} {g k : TypeInfo → γ} (h : (P.info? t).map (fun i => (f i, g i, k i)) = some (some z, s, b)) : ∃ i, P.info? t = some i ∧ f i = some z ∧ g i = s ∧ k i = b := by
  cases hi : P.info? t with
  | none => rw [hi] at h; cases h
  | some i =>
    rw [hi] at h
    simp only [Option.map_some, Option.some.injEq, Prod.mk.injEq] at h
    exact ⟨i, rfl, h.1, h.2.1, h.2.2⟩

theorem wpList_builtV {P : Program} {ops : Array Oper} {rest : List Oper} {o : Oper} {a : Act} {w : World} {Q : Exit → Act → World → Prop} (hg : o.guard = none) (t : TypeId) (parts : Array (Nat × Operand)) (ho : o.op = .build t parts)
    (ps : List (Nat × Value)) (hp : parts.toList.map (fun x => (x.1, a.eval x.2)) = ps) (cells : Array Value) (hf : P.built t ps = some cells)
    (h : wpList P ops Q rest (a.put o.dst (.agg cells)) w) : wpList P ops Q (o :: rest) a w :=
  wpList_buildTo hg t parts ho _ rfl cells (by rw [← hf, ← hp]; simp) h

/-! ### cells -/
def cellC (c : Cl) : List Value := .int .i64 (c.1 : Nat) :: Lib.byteCells c.2
def cellsC (cs : List Cl) : List Value := cs.flatMap cellC
theorem cellC_length {c : Cl} (h : c.2.length = 32) : (cellC c).length = 33 := by simp [cellC, Lib.byteCells_length, h]
theorem cellC_one (c : Cl) : ∀ v ∈ cellC c, v.oneCell' = true := by
  intro v hv
  simp only [cellC, List.mem_cons] at hv
  rcases hv with rfl | hv
  · rfl
  · simp only [Lib.byteCells, List.mem_map] at hv
    obtain ⟨b, _, rfl⟩ := hv
    rfl
theorem cellsC_append (a b : List Cl) : cellsC (a ++ b) = cellsC a ++ cellsC b := by unfold cellsC; rw [List.flatMap_append]
theorem cellsC_one (x : Cl) : cellsC [x] = cellC x := by simp [cellsC]
theorem flat_at {α : Type} {k : Nat} {f : α → List Value} {xs : List α} (h : ∀ x ∈ xs, (f x).length = k) {i : Nat} {x : α} (hi : xs[i]? = some x) (j : Nat) (v : Value) (hj : (f x)[j]? = some v) : (xs.flatMap f)[i * k + j]? = some v := by
  induction xs generalizing i with
  | nil => simp at hi
  | cons y xs ih =>
    have hl := h y List.mem_cons_self
    rw [List.flatMap_cons]
    cases i with
    | zero =>
      simp at hi
      subst hi
      rw [Nat.zero_mul, Nat.zero_add, List.getElem?_append_left (List.getElem?_eq_some_iff.1 hj).1]
      exact hj
    | succ i =>
      have := ih (fun x hx => h x (List.mem_cons_of_mem _ hx)) (i := i) (by simpa using hi)
      rw [List.getElem?_append_right (by rw [hl]; rw [Nat.succ_mul]; omega), hl, show (i + 1) * k + j - k = i * k + j by rw [Nat.succ_mul]; omega]
      exact this

/-- Cells in memory, in a block of G. -/
def CsAt (w : World) (G : Nat → Prop) (A : Option Addr) (cs : List Cl) : Prop :=
  0 < cs.length → ∃ b off, A = some ⟨b, off, none⟩ ∧ G b ∧ b < w.heap.size ∧ ∀ i c, cs[i]? = some c → c.2.length = 32 ∧ w.rangeAt b (off + i * 33) (cellC c)
theorem CsAt.keep {w w' : World} {G G' : Nat → Prop} {A : Option Addr} {cs : List Cl} (h : CsAt w G A cs) (hs : w.heap.size ≤ w'.heap.size) (hb : ∀ b, G b → b < w.heap.size → w'.heap[b]? = w.heap[b]?) (hG : ∀ b, b < w.heap.size → G b → G' b) : CsAt w' G' A cs := fun hp => by
  obtain ⟨b, off, e, hg, hlt, hr⟩ := h hp
  refine ⟨b, off, e, hG b hlt hg, by omega, fun i c hi => ⟨(hr i c hi).1, fun j v hj => ?_⟩⟩
  rw [← (hr i c hi).2 j v hj]
  exact World.cell?_of_block (hb b hg hlt)
/-- A row of cells of the call's own, from block B on. -/
def CRow (w : World) (B : Nat) (v : Value) (cs : List Cl) : Prop := (∀ c ∈ cs, c.2.length = 32) ∧ w.ownsRow B 73 33 v cs.length (cellsC cs)
theorem CRow.slice {w : World} {B : Nat} {v : Value} {cs : List Cl} (h : CRow w B v cs) : ∃ A c, v = .slice A cs.length c ∧ cs.length ≤ c ∧ c ≤ maxLen ∧ CsAt w (fun b => B ≤ b) A cs := by
  rcases h.2.2 with ⟨rfl, hn⟩ | ⟨g, cap, cur, rfl, h1, hg, h2, h3, h4, h5⟩
  · exact ⟨none, 0, by rw [hn], by omega, by unfold maxLen; omega, fun hp => by omega⟩
  · refine ⟨_, cap, rfl, h2, h3, fun hp => ⟨g, 0, rfl, h1, (Array.getElem?_eq_some_iff.1 hg).1, fun i x hx => ⟨h.1 x (List.mem_of_getElem? hx), fun j v hj => ?_⟩⟩⟩
    have hd := flat_at (k := 33) (f := cellC) (fun x hx => cellC_length (h.1 x hx)) hx j v hj
    have h5' : List.take (cs.length * 33) cur.toList = cs.flatMap cellC := h5
    rw [← h5'] at hd
    have hlt : i * 33 + j < cs.length * 33 := by
      have := (List.getElem?_eq_some_iff.1 hd).1
      rw [List.length_take] at this
      omega
    rw [List.getElem?_take_of_lt hlt] at hd
    rw [cell_of_row w g _ cur 73 (0, 0) hg, Nat.zero_add]
    simpa using hd

theorem CRow.slice2 {w : World} {B : Nat} {v : Value} {cs : List Cl} (h : CRow w B v cs) : ∃ A c, v = .slice A cs.length c ∧ cs.length ≤ c ∧ c ≤ maxLen ∧ CsAt w (fun b => B ≤ b ∧ v.ownBlock = some b) A cs := by
  obtain ⟨A, c, e, h1, h2, h3⟩ := h.slice
  refine ⟨A, c, e, h1, h2, fun hp => ?_⟩
  obtain ⟨b, off, eA, hB, hlt, hr⟩ := h3 hp
  exact ⟨b, off, eA, ⟨hB, by rw [e, eA]; rfl⟩, hlt, hr⟩
theorem CRow.up {w w' : World} {B : Nat} {v : Value} {cs : List Cl} (h : CRow w B v cs) (hb : Below w.heap.size w w') : CRow w' B v cs := by
  refine ⟨h.1, h.2.1, ?_⟩
  rcases h.2.2 with hn | ⟨g, cap, cur, rfl, h1, hg, rest⟩
  · exact .inl hn
  · exact .inr ⟨g, cap, cur, rfl, h1, (hb.block g (Array.getElem?_eq_some_iff.1 hg).1).trans hg, rest⟩
theorem CRow.lt {w : World} {B : Nat} {v : Value} {cs : List Cl} (h : CRow w B v cs) : ∀ k, v.ownBlock = some k → B ≤ k ∧ k < w.heap.size := World.ownsRow.lt h.2
/-- A row of another type lies in another block. -/
theorem rows_apart {w : World} {B B' : Nat} {e e' : TypeId} {sz sz' : Nat} {v v' : Value} {n n' : Nat} {xs xs' : List Value} (h : w.ownsRow B e sz v n xs) (h' : w.ownsRow B' e' sz' v' n' xs') (hne : e ≠ e') : ∀ g, v.ownBlock = some g → v'.ownBlock ≠ some g := by
  intro g hg hg'
  rcases h.2 with ⟨rfl, _⟩ | ⟨g1, cap, cur, rfl, _, hg1, _⟩
  · cases hg
  · rcases h'.2 with ⟨rfl, _⟩ | ⟨g2, cap2, cur2, rfl, _, hg2, _⟩
    · cases hg'
    · simp only [Value.ownBlock, Option.some.injEq] at hg hg'
      subst hg hg'
      have := hg1.symm.trans hg2
      simp only [Option.some.injEq, Obj.cells.injEq] at this
      exact hne this.2.1

def clZ : List Value := .int .i64 0 :: Lib.byteCells zeros
theorem clAll : (Tryz.prog.info? 73).map (fun i => (i.zero, i.size, i.bytes)) = some (some (.agg clZ.toArray), 33, 40) := by kernel_rfl
theorem clSize : (Tryz.prog.info? 73).map (·.size) = some 33 := by kernel_rfl
theorem cl_fill (parts : List (Nat × Value)) : Tryz.prog.built 73 parts = Instr.fill (#[(0, 1), (1, 32)][·]?) clZ.toArray parts := by kernel_rfl
theorem cl_built (n : Int) (DL : List Value) (hl : DL.length = 32) : Tryz.prog.built 73 [(0, .int .i64 n), (1, .agg DL.toArray)] = some (Value.int .i64 n :: DL).toArray := by
  rw [cl_fill]
  have h0 : Instr.fill (#[(0, 1), (1, 32)][·]?) clZ.toArray [(0, .int .i64 n)] = some (Value.int .i64 n :: Lib.byteCells zeros).toArray := by rfl
  rw [fill_consV _ _ _ _ _ h0]
  have h1 := fill_midV (#[(0, 1), (1, 32)][·]?) (Value.int .i64 n :: Lib.byteCells zeros).toArray 1 1 DL (by rw [hl]; rfl) (by rw [hl]; simp [Lib.byteCells, zeros])
  rw [h1]
  congr 2
  rw [hl]
  have e : (Value.int .i64 n :: Lib.byteCells zeros).toArray.toList.drop (1 + 32) = [] := by
    rw [List.drop_of_length_le]
    simp [Lib.byteCells, zeros]
  rw [e, List.append_nil]
  rfl

theorem fill_rowV {k : Nat} (l : List Value) (hl : l.length = k) (cells : Array Value) (hc : cells.size = k) : Instr.fill (fun i => some (i * k, k)) cells [(0, .agg l.toArray)] = some l.toArray := by
  have h := fill_midV (fun i => some (i * k, k)) cells 0 0 l (by rw [hl, Nat.zero_mul]) (by omega)
  rw [h]
  congr 2
  rw [List.take_zero, List.nil_append, hl, List.drop_of_length_le (by simp [hc]), List.append_nil]
/-- '[]Cell{x}'. -/
theorem wp_build_cl {o : Oper} {a : Act} {w : World} {K : Act → World → Prop} {Q : Exit → Act → World → Prop} (dd : Option Tmp) (hdd : o.dst = dd) (x : Operand) (ho : o.op = .buildSlice 69 1 #[(0, x)]) (VL : List Value) (hV : VL.length = 33) (hx : a.eval x = .agg VL.toArray)
    (h : K (a.put dd (.slice (some ⟨w.heap.size, 0, none⟩) 1 1)) (w.alloc (.cells VL.toArray 73))) : Oper.wp Tryz.prog o a w K Q := by
  subst hdd
  obtain ⟨i0, hi, hz0, hz1, hz2⟩ := info_partsV clAll
  refine wp_buildSlice 69 73 1 #[(0, x)] ho VL.toArray i0 _ Tryz.underlying69 hi hz0 (by rw [hz1]; decide) (by rw [hz1]; decide) ?_ h
  rw [hz1]
  simp only [List.map_toArray, List.map_cons, List.map_nil, hx]
  exact fill_rowV VL hV _ (by simp)
theorem wpList_build_cl {ops : Array Oper} {rest : List Oper} {o : Oper} {a : Act} {w : World} {Q : Exit → Act → World → Prop} (hg : o.guard = none) (x : Operand) (ho : o.op = .buildSlice 69 1 #[(0, x)]) (VL : List Value) (hV : VL.length = 33) (hx : a.eval x = .agg VL.toArray)
    (h : wpList Tryz.prog ops Q rest (a.put o.dst (.slice (some ⟨w.heap.size, 0, none⟩) 1 1)) (w.alloc (.cells VL.toArray 73))) : wpList Tryz.prog ops Q (o :: rest) a w :=
  wpList_plain hg fun _ hK => wp_build_cl o.dst rfl x ho VL hV hx (hK _ _ h)
theorem run_append_cl {w : World} {B : Nat} {v : Value} {xs : List Cl} (h : CRow w B v xs) (hB : B ≤ w.heap.size) (ty : TypeId) (g c : Nat) (x : Cl) (hx : x.2.length = 32) (VL : List Value) (hV : VL = cellC x) (hg : Arr w g 73 VL) (hm : xs.length ≤ 2000000) :
    ∃ v' w', (Builtin.append_ #[69, 69] ty #[v, .slice (some ⟨g, 0, none⟩) 1 c]).run Tryz.prog w = .ok v' w' ∧ CRow w' B v' (xs ++ [x]) ∧ w.grownBy w' v.ownBlock := by
  obtain ⟨i0, hi, hz0, hz1, hz2⟩ := info_partsV clAll
  subst hV
  have hadd : ∀ k, (⟨g, 0, none⟩ : Addr).add k = ⟨g, k, none⟩ := fun k => by unfold Addr.add; split <;> simp_all
  obtain ⟨v', w', h1, h2, h3, _, _⟩ := run_append_own_at (P := Tryz.prog) w B 69 ty 73 i0 (.agg clZ.toArray) 33 40 Tryz.underlying69 hi hz0 hz1 hz2 rfl (by decide) v xs.length (cellsC xs) h.2 ⟨g, 0, none⟩ 1 c (cellC x) (by rw [cellC_length hx]) (fun j u hj => by rw [hadd, hg.cell]; exact hj) (cellC_one x) (by unfold maxLen; omega) (by omega) hB
  refine ⟨v', w', h1, ⟨fun y hy => ?_, ?_⟩, h3⟩
  · rcases List.mem_append.1 hy with hy | hy
    · exact h.1 y hy
    · rw [List.mem_singleton] at hy; rw [hy]; exact hx
  · rw [cellsC_append, cellsC_one, List.length_append]
    exact h2
theorem wpList_append_cl {ops : Array Oper} {rest : List Oper} {o : Oper} {a : Act} {w : World} {Q : Exit → Act → World → Prop} (hgd : o.guard = none) (s x : Operand) (ho : o.op = .call { callee := .builtin .append, args := #[s, x], argTypes := #[69, 69] })
    {B : Nat} {v : Value} {xs : List Cl} (h : CRow w B v xs) (hB : B ≤ w.heap.size) (hs : a.eval s = v) (g c : Nat) (hx : a.eval x = .slice (some ⟨g, 0, none⟩) 1 c) (y : Cl) (hy : y.2.length = 32) (VL : List Value) (hV : VL = cellC y) (hg : Arr w g 73 VL) (hm : xs.length ≤ 2000000)
    (hK : ∀ v' w', CRow w' B v' (xs ++ [y]) → w.grownBy w' v.ownBlock → wpList Tryz.prog ops Q rest (a.put o.dst v') w') : wpList Tryz.prog ops Q (o :: rest) a w := by
  refine wpList_plain hgd fun K hK' => ?_
  obtain ⟨v', w', hr, h2, h3⟩ := run_append_cl h hB o.type g c y hy VL hV hg hm
  unfold Oper.wp execOp
  simp only [ho, resolve, invoke, builtin, Sem.run_bind, Sem.run_pure, Result.andThen_ok, List.map_toArray, List.map_cons, List.map_nil, hs, hx, hr]
  exact hK' _ _ (hK v' w' h2 h3)

/-! ### volumes -/
/-- A volume, where its cells lie. -/
structure Vx where
  v : Vol
  adr : Option Addr
  cap : Nat
def volC (x : Vx) : List Value := [.string x.v.name, .int .i64 (x.v.quota : Nat), .bool x.v.frozen, .slice x.adr x.v.cells.length x.cap]
def volsC (xs : List Vx) : List Value := xs.flatMap volC
theorem volC_length (x : Vx) : (volC x).length = 4 := rfl
theorem volC_one (x : Vx) : ∀ v ∈ volC x, v.oneCell' = true := by
  intro v hv
  simp only [volC, List.mem_cons, List.mem_nil_iff, or_false] at hv
  rcases hv with rfl | rfl | rfl | rfl <;> rfl
theorem volsC_append (a b : List Vx) : volsC (a ++ b) = volsC a ++ volsC b := by unfold volsC; rw [List.flatMap_append]
theorem volsC_one (x : Vx) : volsC [x] = volC x := by simp [volsC]
structure VxOk (w : World) (G : Nat → Prop) (x : Vx) : Prop where
  le : x.v.cells.length ≤ x.cap
  lim : x.cap ≤ maxLen
  cs : CsAt w G x.adr x.v.cells
  n20 : x.v.name.size ≤ maxLen
  q : x.v.quota ≤ 1048576
  len : x.v.cells.length ≤ 1048576
theorem VxOk.keep {w w' : World} {G G' : Nat → Prop} {x : Vx} (h : VxOk w G x) (hs : w.heap.size ≤ w'.heap.size) (hb : ∀ b, G b → b < w.heap.size → w'.heap[b]? = w.heap[b]?) (hG : ∀ b, b < w.heap.size → G b → G' b) : VxOk w' G' x :=
  { h with cs := h.cs.keep hs hb hG }
/-- Volumes in memory, in blocks of G. -/
def VsAt (w : World) (G : Nat → Prop) (A : Option Addr) (xs : List Vx) : Prop :=
  (0 < xs.length → ∃ b off, A = some ⟨b, off, none⟩ ∧ G b ∧ b < w.heap.size ∧ ∀ i x, xs[i]? = some x → w.rangeAt b (off + i * 4) (volC x)) ∧ ∀ x ∈ xs, VxOk w G x
theorem VsAt.keep {w w' : World} {G G' : Nat → Prop} {A : Option Addr} {xs : List Vx} (h : VsAt w G A xs) (hs : w.heap.size ≤ w'.heap.size) (hb : ∀ b, G b → b < w.heap.size → w'.heap[b]? = w.heap[b]?) (hG : ∀ b, b < w.heap.size → G b → G' b) : VsAt w' G' A xs :=
  ⟨fun hp => by
    obtain ⟨b, off, e, hg, hlt, hr⟩ := h.1 hp
    refine ⟨b, off, e, hG b hlt hg, by omega, fun i c hi j v hj => ?_⟩
    rw [← hr i c hi j v hj]
    exact World.cell?_of_block (hb b hg hlt), fun x hx => (h.2 x hx).keep hs hb hG⟩
theorem VsAt.drewN {w : World} {G : Nat → Prop} {A : Option Addr} {xs : List Vx} (h : VsAt w G A xs) (n : Nat) : VsAt (w.drewN n) G A xs := h.keep (Nat.le_refl _) (fun _ _ _ => rfl) fun _ _ h => h
theorem VsAt.below {w w' : World} {G : Nat → Prop} {A : Option Addr} {xs : List Vx} (h : VsAt w G A xs) (hb : Below w.heap.size w w') : VsAt w' G A xs :=
  h.keep hb.size (fun b _ hlt => hb.block b hlt) fun _ _ h => h
theorem VsAt.only {w w' : World} {R G : Nat → Prop} {A : Option Addr} {xs : List Vx} (h : VsAt w G A xs) (hO : Only R w w') (hR : ∀ b, G b → ¬ R b) : VsAt w' G A xs :=
  h.keep hO.size (fun b hg hlt => hO.block b hlt (hR b hg)) fun _ _ h => h
/-- A row of volumes of the call's own, from block B on; their cells lie in blocks of G, and not in the row's. -/
def VRow (w : World) (B : Nat) (G : Nat → Prop) (v : Value) (xs : List Vx) : Prop := (∀ x ∈ xs, VxOk w (fun b => G b ∧ v.ownBlock ≠ some b) x) ∧ w.ownsRow B 71 4 v xs.length (volsC xs)
theorem VRow.slice {w : World} {B : Nat} {G : Nat → Prop} {v : Value} {xs : List Vx} (h : VRow w B G v xs) : ∃ A c, v = .slice A xs.length c ∧ xs.length ≤ c ∧ c ≤ maxLen ∧ VsAt w (fun b => G b ∨ B ≤ b) A xs := by
  have h1' : ∀ x ∈ xs, VxOk w (fun b => G b ∨ B ≤ b) x := fun x hx => (h.1 x hx).keep (Nat.le_refl _) (fun _ _ _ => rfl) fun _ _ h => .inl h.1
  rcases h.2.2 with ⟨rfl, hn⟩ | ⟨g, cap, cur, rfl, h1, hg, h2, h3, h4, h5⟩
  · exact ⟨none, 0, by rw [hn], by omega, by unfold maxLen; omega, fun hp => by omega, h1'⟩
  · refine ⟨_, cap, rfl, h2, h3, fun hp => ⟨g, 0, rfl, .inr h1, (Array.getElem?_eq_some_iff.1 hg).1, fun i x hx j v hj => ?_⟩, h1'⟩
    have hd := flat_at (k := 4) (f := volC) (fun x _ => volC_length x) hx j v hj
    have h5' : List.take (xs.length * 4) cur.toList = xs.flatMap volC := h5
    rw [← h5'] at hd
    have hlt : i * 4 + j < xs.length * 4 := by
      have := (List.getElem?_eq_some_iff.1 hd).1
      rw [List.length_take] at this
      omega
    rw [List.getElem?_take_of_lt hlt] at hd
    rw [cell_of_row w g _ cur 71 (0, 0) hg, Nat.zero_add]
    simpa using hd
theorem VRow.up {w w' : World} {B : Nat} {G : Nat → Prop} {v : Value} {xs : List Vx} (h : VRow w B G v xs) (hb : Below w.heap.size w w') : VRow w' B G v xs := by
  refine ⟨fun x hx => (h.1 x hx).keep hb.size (fun b _ hlt => hb.block b hlt) fun _ _ h => h, h.2.1, ?_⟩
  rcases h.2.2 with hn | ⟨g, cap, cur, rfl, h1, hg, rest⟩
  · exact .inl hn
  · exact .inr ⟨g, cap, cur, rfl, h1, (hb.block g (Array.getElem?_eq_some_iff.1 hg).1).trans hg, rest⟩
theorem VRow.lt {w : World} {B : Nat} {G : Nat → Prop} {v : Value} {xs : List Vx} (h : VRow w B G v xs) : ∀ k, v.ownBlock = some k → B ≤ k ∧ k < w.heap.size := World.ownsRow.lt h.2
theorem vlAll : (Tryz.prog.info? 71).map (fun i => (i.zero, i.size, i.bytes)) = some (some (.agg #[.string ⟨#[]⟩, .int .i64 0, .bool false, .slice none 0 0]), 4, 56) := by kernel_rfl
theorem vlSize : (Tryz.prog.info? 71).map (·.size) = some 4 := by kernel_rfl
theorem run_append_vl {w : World} {B : Nat} {G : Nat → Prop} {v : Value} {xs : List Vx} (h : VRow w B G v xs) (hB : B ≤ w.heap.size) (ty : TypeId) (a : Addr) (m c : Nat) (ys : List Vx) (hm' : ys.length = m) (hys : ∀ x ∈ ys, VxOk w (fun b => G b ∧ v.ownBlock ≠ some b) x) (hg : ∀ j u, (volsC ys)[j]? = some u → w.cell? (a.add j) = some u) (hm : xs.length + m ≤ 1000000) :
    ∃ v' w', (Builtin.append_ #[27, 27] ty #[v, .slice (some a) m c]).run Tryz.prog w = .ok v' w' ∧ VRow w' B G v' (xs ++ ys) ∧ w.grownBy w' v.ownBlock := by
  obtain ⟨i0, hi, hz0, hz1, hz2⟩ := info_partsV vlAll
  have hl4 : (volsC ys).length = m * 4 := by
    rw [← hm']
    clear hys hg hm hm'
    induction ys with
    | nil => rfl
    | cons y ys ih =>
      show (volC y ++ volsC ys).length = _
      rw [List.length_append, ih, volC_length, List.length_cons]
      omega
  have hone : ∀ u ∈ volsC ys, u.oneCell' = true := by
    intro u hu
    obtain ⟨y, _, hu⟩ := List.mem_flatMap.1 hu
    exact volC_one y u hu
  obtain ⟨v', w', h1, h2, h3, _, h5⟩ := run_append_own_at (P := Tryz.prog) w B 27 ty 71 i0 _ 4 56 Tryz.underlying27 hi hz0 hz1 hz2 rfl (by decide) v xs.length (volsC xs) h.2 a m c (volsC ys) hl4 hg hone (by unfold maxLen; omega) (by omega) hB
  refine ⟨v', w', h1, ⟨fun x hx => ?_, ?_⟩, h3⟩
  · have hx' : VxOk w (fun b => G b ∧ v.ownBlock ≠ some b) x := by
      rcases List.mem_append.1 hx with hx | hx
      · exact h.1 x hx
      · exact hys x hx
    refine hx'.keep h3.size (fun b hG hlt => h3.block b hlt fun e => hG.2 e.symm) fun b hlt hG => ⟨hG.1, ?_⟩
    rcases h5 with h5 | h5
    · rw [h5]; exact hG.2
    · rw [h5]; intro e; injection e with e; omega
  · rw [volsC_append, List.length_append, hm']
    exact h2

/-- '[]Volume{x}'. -/
theorem wp_build_vl {o : Oper} {a : Act} {w : World} {K : Act → World → Prop} {Q : Exit → Act → World → Prop} (dd : Option Tmp) (hdd : o.dst = dd) (x : Operand) (ho : o.op = .buildSlice 27 1 #[(0, x)]) (VL : List Value) (hV : VL.length = 4) (hx : a.eval x = .agg VL.toArray)
    (h : K (a.put dd (.slice (some ⟨w.heap.size, 0, none⟩) 1 1)) (w.alloc (.cells VL.toArray 71))) : Oper.wp Tryz.prog o a w K Q := by
  subst hdd
  obtain ⟨i0, hi, hz0, hz1, hz2⟩ := info_partsV vlAll
  refine wp_buildSlice 27 71 1 #[(0, x)] ho VL.toArray i0 _ Tryz.underlying27 hi hz0 (by rw [hz1]; decide) (by rw [hz1]; decide) ?_ h
  rw [hz1]
  simp only [List.map_toArray, List.map_cons, List.map_nil, hx]
  exact fill_rowV VL hV _ (by simp)
theorem wpList_build_vl {ops : Array Oper} {rest : List Oper} {o : Oper} {a : Act} {w : World} {Q : Exit → Act → World → Prop} (hg : o.guard = none) (x : Operand) (ho : o.op = .buildSlice 27 1 #[(0, x)]) (VL : List Value) (hV : VL.length = 4) (hx : a.eval x = .agg VL.toArray)
    (h : wpList Tryz.prog ops Q rest (a.put o.dst (.slice (some ⟨w.heap.size, 0, none⟩) 1 1)) (w.alloc (.cells VL.toArray 71))) : wpList Tryz.prog ops Q (o :: rest) a w :=
  wpList_plain hg fun _ hK => wp_build_vl o.dst rfl x ho VL hV hx (hK _ _ h)
theorem wp_append_vl {o : Oper} {a : Act} {w : World} {K : Act → World → Prop} {Q : Exit → Act → World → Prop} (dd : Option Tmp) (hdd : o.dst = dd) (s x : Operand) (ho : o.op = .call { callee := .builtin .append, args := #[s, x], argTypes := #[27, 27] })
    {B : Nat} {G : Nat → Prop} {v : Value} {xs : List Vx} (h : VRow w B G v xs) (hB : B ≤ w.heap.size) (hs : a.eval s = v) (ad : Addr) (m c : Nat) (hx : a.eval x = .slice (some ad) m c) (ys : List Vx) (hm' : ys.length = m) (hys : ∀ x ∈ ys, VxOk w (fun b => G b ∧ v.ownBlock ≠ some b) x) (hg : ∀ j u, (volsC ys)[j]? = some u → w.cell? (ad.add j) = some u) (hm : xs.length + m ≤ 1000000)
    (hK : ∀ v' w', VRow w' B G v' (xs ++ ys) → w.grownBy w' v.ownBlock → K (a.put dd v') w') : Oper.wp Tryz.prog o a w K Q := by
  subst hdd
  obtain ⟨v', w', hr, h2, h3⟩ := run_append_vl h hB o.type ad m c ys hm' hys hg hm
  unfold Oper.wp execOp
  simp only [ho, resolve, invoke, builtin, Sem.run_bind, Sem.run_pure, Result.andThen_ok, List.map_toArray, List.map_cons, List.map_nil, hs, hx, hr]
  exact hK v' w' h2 h3
theorem wpList_append_vl {ops : Array Oper} {rest : List Oper} {o : Oper} {a : Act} {w : World} {Q : Exit → Act → World → Prop} (hgd : o.guard = none) (s x : Operand) (ho : o.op = .call { callee := .builtin .append, args := #[s, x], argTypes := #[27, 27] })
    {B : Nat} {G : Nat → Prop} {v : Value} {xs : List Vx} (h : VRow w B G v xs) (hB : B ≤ w.heap.size) (hs : a.eval s = v) (ad : Addr) (m c : Nat) (hx : a.eval x = .slice (some ad) m c) (ys : List Vx) (hm' : ys.length = m) (hys : ∀ x ∈ ys, VxOk w (fun b => G b ∧ v.ownBlock ≠ some b) x) (hg : ∀ j u, (volsC ys)[j]? = some u → w.cell? (ad.add j) = some u) (hm : xs.length + m ≤ 1000000)
    (hK : ∀ v' w', VRow w' B G v' (xs ++ ys) → w.grownBy w' v.ownBlock → wpList Tryz.prog ops Q rest (a.put o.dst v') w') : wpList Tryz.prog ops Q (o :: rest) a w :=
  wpList_plain hgd fun K hK' => wp_append_vl o.dst rfl s x ho h hB hs ad m c hx ys hm' hys hg hm fun v' w' h1 h2 => hK' _ _ (hK v' w' h1 h2)
/-- One volume, in a block of its own. -/
theorem one_vl {w : World} {g : Nat} {x : Vx} {VL : List Value} (hV : VL = volC x) (hg : Arr w g 71 VL) : ∀ j u, (volsC [x])[j]? = some u → w.cell? ((⟨g, 0, none⟩ : Addr).add j) = some u := fun j u hj => by
  have hadd : ∀ k, (⟨g, 0, none⟩ : Addr).add k = ⟨g, k, none⟩ := fun k => by unfold Addr.add; split <;> simp_all
  rw [hadd, hg.cell, hV]
  rwa [volsC_one] at hj
theorem vl_built (nm : ByteArray) (q : Int) (f : Bool) (A : Option Addr) (n c : Nat) : Tryz.prog.built 71 [(0, .string nm), (1, .int .i64 q), (2, .bool f), (3, .slice A n c)] = some #[.string nm, .int .i64 q, .bool f, .slice A n c] := by kernel_rfl

end Go.Proofs.YtcajhndhjlfmaaaGreat

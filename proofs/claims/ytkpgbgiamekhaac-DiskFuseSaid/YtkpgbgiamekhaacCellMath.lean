/-
  The cell's bytes; arrays at a place inside a block; '==' on arrays of bytes. No walk.
-/
import Derived.Test.YtkpgbgiamekhaacDig0
import Derived.Test.YtkpgbgiamekhaacShaMath
import Derived.ChangeKeysEq
import Derived.Laws.StructEq
import Derived.ChangeSame
import Derived.OpenShut
import Derived.Deep.RegionHeld3
import Derived.StillTailTactics
import Derived.IntWalk
import Derived.Great.BuildSlice
import Derived.Deep.MidRow
namespace Go.Proofs.Ytkpgbgiamekhaac
open Go.RowKit Go.ChangeShapes Go.WideShapes
set_option linter.unusedVariables false

def un8 (l : List UInt8) : Nat := l.foldl (fun a x => a * 256 + x.toNat) 0

theorem un8_bytes8 {n : Nat} (h : n < 18446744073709551616) : un8 (bytes8 n) = n := by
  simp [un8, bytes8, List.foldl]
  omega

theorem un8_snoc (l : List UInt8) (x : UInt8) : un8 (l ++ [x]) = un8 l * 256 + x.toNat := by simp [un8, List.foldl_append]

theorem un8_take {l : List UInt8} {i : Nat} (h : i < l.length) : un8 (l.take (i + 1)) = un8 (l.take i) * 256 + (l.getD i 0).toNat := by
  rw [List.take_succ_eq_append_getElem h, un8_snoc]
  simp [List.getD, h]

theorem un8_lt : ∀ (n : Nat) (l : List UInt8), l.length = n → un8 l < 256 ^ n
  | 0, l, h => by obtain rfl := List.eq_nil_of_length_eq_zero h; simp [un8]
  | n + 1, l, h => by
    have h1 := un8_lt n (l.take n) (by simp; omega)
    have h2 := un8_take (l := l) (i := n) (by omega)
    rw [List.take_of_length_le (by omega)] at h2
    have := UInt8.toNat_lt (l.getD n 0)
    rw [h2, Nat.pow_succ]
    omega

theorem bytes8_un8 {l : List UInt8} (h : l.length = 8) : bytes8 (un8 l) = l := by
  match l, h with
  | [a, b, c, d, e, f, g, k], _ =>
    have := UInt8.toNat_lt a
    have := UInt8.toNat_lt b
    have := UInt8.toNat_lt c
    have := UInt8.toNat_lt d
    have := UInt8.toNat_lt e
    have := UInt8.toNat_lt f
    have := UInt8.toNat_lt g
    have := UInt8.toNat_lt k
    have hu : un8 [a, b, c, d, e, f, g, k] = ((((((a.toNat * 256 + b.toNat) * 256 + c.toNat) * 256 + d.toNat) * 256 + e.toNat) * 256 + f.toNat) * 256 + g.toNat) * 256 + k.toNat := by simp [un8]
    obtain ⟨n, hn⟩ : ∃ n, un8 [a, b, c, d, e, f, g, k] = n := ⟨_, rfl⟩
    rw [hn]
    rw [hn] at hu
    have hb : ∀ (m : Nat) (x : UInt8), m % 256 = x.toNat → m.toUInt8 = x := fun m x h => UInt8.toNat_inj.1 (by rw [← h]; simp)
    unfold bytes8
    rw [hb (n / 72057594037927936) a (by omega), hb (n / 281474976710656) b (by omega), hb (n / 1099511627776) c (by omega), hb (n / 4294967296) d (by omega), hb (n / 16777216) e (by omega), hb (n / 65536) f (by omega), hb (n / 256) g (by omega), hb n k (by omega)]

theorem bytes8_get (n : Nat) {i : Nat} (h : i < 8) : ((bytes8 n).getD i 0).toNat = n / 2 ^ (8 * (7 - i)) % 256 := by
  rcases (by omega : i = 0 ∨ i = 1 ∨ i = 2 ∨ i = 3 ∨ i = 4 ∨ i = 5 ∨ i = 6 ∨ i = 7) with rfl | rfl | rfl | rfl | rfl | rfl | rfl | rfl <;> simp [bytes8]

/-- A cell, as 40 bytes. -/
def cellF (n : Nat) (d : List UInt8) : List UInt8 := bytes8 n ++ d
theorem cellF_length {n : Nat} {d : List UInt8} (h : d.length = 32) : (cellF n d).length = 40 := by unfold cellF; rw [List.length_append, bytes8_length, h]
theorem cellF_inj {a b : Nat} {x y : List UInt8} (ha : a < 18446744073709551616) (hb : b < 18446744073709551616) : cellF a x = cellF b y ↔ a = b ∧ x = y := by
  constructor
  · intro h
    obtain ⟨h1, h2⟩ := List.append_inj h (by rw [bytes8_length, bytes8_length])
    refine ⟨?_, h2⟩
    rw [← un8_bytes8 ha, h1, un8_bytes8 hb]
  · rintro ⟨rfl, rfl⟩
    rfl
theorem cellF_back {b : List UInt8} (h : b.length = 40) : cellF (un8 (b.take 8)) (b.drop 8) = b := by
  unfold cellF
  rw [bytes8_un8 (by rw [List.length_take]; omega), List.take_append_drop]

/-- A cell, as it lies in memory. -/
def cellC (n : Nat) (d : List UInt8) : List Value := .int .u64 (n : Nat) :: Lib.byteCells d
theorem cellC_length (n : Nat) (d : List UInt8) : (cellC n d).length = d.length + 1 := by simp [cellC, Lib.byteCells]

theorem byteInfo1 : (Try.prog.info? 5).map (·.size) = some 1 := by kernel_rfl
theorem fortyInfo : (Try.prog.info? 51).map (·.size) = some 40 := by kernel_rfl
theorem cellInfo : (Try.prog.info? 90).map (·.size) = some 33 := by kernel_rfl

/-! Arrays at any place -/
theorem run_loadVar_at {P : Program} (w : World) (x : Addr) (ty : TypeId) (cs : Array Value) (d : TypeDesc) (hc : ∀ j v, cs.toList[j]? = some v → w.cell? (x.add j) = some v)
    (hu : P.underlying ty = some d) (hd : (match d with | .struct _ | .array _ _ => true | _ => false) = true) (hi : (P.info? ty).map (·.size) = some cs.size) :
    (loadVar ty x).run P w = .ok (.agg cs) w := by
  have hl : (loadCells x cs.toList.length).run P w = .ok cs.toList.toArray w := run_loadCells_list (P := P) w x cs.toList hc
  cases hq : P.info? ty with
  | none => simp [hq] at hi
  | some i =>
    have hs : i.size = cs.size := by simpa [hq] using hi
    have hagg : (isAgg ty).run P w = .ok true w := by
      unfold isAgg
      rw [Sem.run_bind, run_underlying hu w]
      cases d <;> simp_all
    simp only [Array.length_toList, Array.toArray_toList] at hl
    simp [loadVar, Sem.run_bind, hagg, sizeOf, typeInfo, hq, hs, hl]

theorem run_loadAt_at {P : Program} (w : World) (x : Addr) (ty : TypeId) (cs : Array Value) (d : TypeDesc) (hc : ∀ j v, cs.toList[j]? = some v → w.cell? (x.add j) = some v)
    (hu : P.underlying ty = some d) (hd : (match d with | .struct _ | .array _ _ => true | _ => false) = true) (hi : (P.info? ty).map (·.size) = some cs.size) :
    (Instr.loadAt ty (.pointer (some x))).run P w = .ok (.agg cs) w := by
  simp only [Instr.loadAt, Instr.sureAddr, Sem.run_bind, Sem.run_pure, Result.andThen_ok, run_loadVar_at w x ty cs d hc hu hd hi]

theorem wpList_load_at {P : Program} {ops : Array Oper} {rest : List Oper} {o : Oper} {a : Act} {w : World} {Q : Exit → Act → World → Prop} (hgd : o.guard = none) (ty : TypeId) (x : Operand) (ho : o.op = .load ty x)
    (p : Addr) (hx : a.eval x = .pointer (some p)) (cs : Array Value) (d : TypeDesc) (hc : ∀ j v, cs.toList[j]? = some v → w.cell? (p.add j) = some v)
    (hu : P.underlying ty = some d) (hd : (match d with | .struct _ | .array _ _ => true | _ => false) = true) (hi : (P.info? ty).map (·.size) = some cs.size)
    (h : wpList P ops Q rest (a.put o.dst (.agg cs)) w) : wpList P ops Q (o :: rest) a w :=
  wpList_plain hgd fun _ hK => by
    unfold Oper.wp execOp
    simp only [ho, hx, Sem.run_bind, run_loadAt_at w p ty cs d hc hu hd hi, Result.andThen_ok]
    exact hK _ _ h

theorem wpStill_load_at {P : Program} {ops : Array Oper} {w : World} {Q : Act → Prop} {a : Act} {o : Oper} {rest : List Oper} (hgd : o.guard = none) (ty : TypeId) (x : Operand) (ho : o.op = .load ty x)
    (p : Addr) (hx : a.eval x = .pointer (some p)) (cs : Array Value) (d : TypeDesc) (hc : ∀ j v, cs.toList[j]? = some v → w.cell? (p.add j) = some v)
    (hu : P.underlying ty = some d) (hd : (match d with | .struct _ | .array _ _ => true | _ => false) = true) (hi : (P.info? ty).map (·.size) = some cs.size)
    (h : wpStill P ops w Q rest (a.put o.dst (.agg cs))) : wpStill P ops w Q (o :: rest) a :=
  wpStill_step fun K hK => by
    rw [if_pos (by simp [Region.wanted, hgd])]
    unfold Oper.still execOp
    simp only [ho, hx, Sem.run_bind, run_loadAt_at w p ty cs d hc hu hd hi, Result.andThen_ok, Sem.run_pure]
    exact ⟨rfl, hK _ h⟩

/-- A whole block, read at the head of a region that draws its order. -/
theorem wpStill_load_row {P : Program} {ops : Array Oper} {w : World} {Q : Act → Prop} {a : Act} {o : Oper} {rest : List Oper} (hgd : o.guard = none) (ty : TypeId) (x : Operand) (ho : o.op = .load ty x) (g : Nat) (hx : a.eval x = .pointer (some ⟨g, 0, none⟩))
    (t : TypeId) (cs : Array Value) (d : TypeDesc) (hg : w.heap[g]? = some (.cells cs t (0, 0))) (hu : P.underlying ty = some d) (hd : (match d with | .struct _ | .array _ _ => true | _ => false) = true) (hi : (P.info? ty).map (·.size) = some cs.size)
    (h : wpStill P ops w Q rest (a.put o.dst (.agg cs))) : wpStill P ops w Q (o :: rest) a :=
  wpStill_step fun K hK => by
    rw [if_pos (by simp [Region.wanted, hgd])]
    unfold Oper.still execOp
    simp only [ho, hx, Sem.run_bind, run_loadAt_row w g t ty cs d hg hu hd hi, Result.andThen_ok, Sem.run_pure]
    exact ⟨rfl, hK _ h⟩

/-- The cell of w at any place of block g, where it is an array inside it. -/
theorem Arr.part {w : World} {g : Nat} {T : TypeId} {pre l : List Value} (h : Arr w g T (pre ++ l)) (n : Nat) (hn : pre.length = n) : ∀ j v, l[j]? = some v → w.cell? ((⟨g, n, none⟩ : Addr).add j) = some v := by
  subst hn
  intro j v hj
  have hadd : (⟨g, pre.length, none⟩ : Addr).add j = ⟨g, pre.length + j, none⟩ := by unfold Addr.add; split <;> simp_all
  rw [hadd, h.cell, List.getElem?_append_right (by omega)]
  simpa using hj

theorem storeCells_shift (g off : Nat) : ∀ (l : List Value) (i : Nat), storeCells ⟨g, off, none⟩ l i = storeCells ⟨g, 0, none⟩ l (off + i)
  | [], i => rfl
  | v :: l, i => by
    have h1 : (⟨g, off, none⟩ : Addr).add i = ⟨g, off + i, none⟩ := by unfold Addr.add; split <;> simp_all
    have h2 : (⟨g, 0, none⟩ : Addr).add (off + i) = ⟨g, off + i, none⟩ := by unfold Addr.add; split <;> simp_all
    simp only [storeCells, h1, h2, storeCells_shift g off l (i + 1), Nat.add_assoc]

/-- An array, stored at a place inside a block. -/
theorem run_storeVar_at {P : Program} (w : World) (g off : Nat) (t ty : TypeId) (old : List Value) (cells : Array Value) (hg : Arr w g t old) (hi : (P.info? ty).map (·.size) = some cells.size)
    (ho : off + cells.size = old.length) (h1 : cells.all (·.oneCell') = true) :
    (storeVar ty ⟨g, off, none⟩ (.agg cells)).run P w = .ok () (w.setRow g (old.take off ++ cells.toList).toArray) := by
  have := run_storeCells_from (P := P) g t cells.toList off old.toArray w hg (by simp; omega) (fun v hv => (Array.all_eq_true_iff_forall_mem.1 h1) v (by simpa using hv))
  rw [show storeCells ⟨g, 0, none⟩ cells.toList off = storeCells ⟨g, off, none⟩ cells.toList 0 from (storeCells_shift g off cells.toList 0).symm] at this
  cases hq : P.info? ty with
  | none => simp [hq] at hi
  | some i =>
    have hs : cells.size = i.size := by simp [hq] at hi; omega
    simpa [storeVar, sizeOf, typeInfo, hq, Value.cells, hs] using this

theorem wpList_store_at {P : Program} {ops : Array Oper} {rest : List Oper} {o : Oper} {a : Act} {w : World} {Q : Exit → Act → World → Prop} (hgd : o.guard = none) (ty : TypeId) (x y : Operand) (ho : o.op = .store ty x y)
    (g off : Nat) (cells : Array Value) (hx : a.eval x = .pointer (some ⟨g, off, none⟩)) (hy : a.eval y = .agg cells)
    (t : TypeId) (old : List Value) (hg : Arr w g t old) (hi : (P.info? ty).map (·.size) = some cells.size)
    (hold : off + cells.size = old.length) (h1 : cells.all (·.oneCell') = true)
    (h : wpList P ops Q rest (a.put o.dst undef) (w.setRow g (old.take off ++ cells.toList).toArray)) : wpList P ops Q (o :: rest) a w :=
  wpList_plain hgd fun _ hK => by
    unfold Oper.wp execOp
    simp only [ho, hx, hy, Instr.storeAt, Instr.sureAddr, Sem.run_bind, Sem.run_pure, Result.andThen_ok, run_storeVar_at w g off t ty old cells hg hi hold h1]
    exact hK _ _ h

theorem Arr.setCells {g : Nat} {T : TypeId} : ∀ (vs : List Value) (off : Nat) (cs : List Value) (w : World), Arr w g T cs → off + vs.length = cs.length → Arr (w.setCells g off vs) g T (cs.take off ++ vs)
  | [], off, cs, w, h, hl => by rw [List.append_nil, List.take_of_length_le (by simp at hl; omega)]; exact h
  | v :: r, off, cs, w, h, hl => by
    have h1 := Arr.setCells r (off + 1) (cs.set off v) (w.setCell ⟨g, off, none⟩ v) (h.set off v) (by simp at hl ⊢; omega)
    have e : (cs.set off v).take (off + 1) ++ r = cs.take off ++ v :: r := by
      have hlt : off < cs.length := by simp at hl; omega
      rw [List.take_succ_eq_append_getElem (by simpa using hlt), List.take_set_of_le (Nat.le_refl _)]
      simp
    rw [e] at h1
    exact h1
theorem Only.setCells {R : Nat → Prop} {a : World} {g : Nat} (hg : R g) : ∀ (vs : List Value) (off : Nat) (b : World), Only R a b → Only R a (b.setCells g off vs)
  | [], _, _, h => h
  | v :: r, off, b, h => Only.setCells hg r (off + 1) _ (h.setCell (p := ⟨g, off, none⟩) (.inl hg) v)

/-- 'wpAnyH_take', the operation's slot said by the caller. -/
theorem anyH_take {P : Program} {md : Region.Mode} {ops : Array Oper} {Q : Exit → Act → World → Prop} {S : World → Prop} {i : Nat} {oi : Oper} {v : Value} {fuel : Nat} {listed : Array Bool} {a : Act} {w : World} (dd : Option Tmp) (hi : ops[i]? = some oi) (hd : oi.dst = dd)
    (hs : Region.noSelect ops = true) (hf : Region.free md ops listed i = true) (hr : (Region.ready md ops listed).contains i = true)
    (hQ : ∀ c a w, Q (.panic c) (a.put oi.dst v) w → Q (.panic c) a w) (hy : YieldsIf P ops S oi v a) (hS : S w)
    (h : wpAnyH P md ops Q S fuel (listed.setIfInBounds i true) (a.put dd v) w) : wpAnyH P md ops Q S (fuel + 1) listed a w := by
  subst hd; exact wpAnyH_take hi hs hf hr hQ hy hS h

/-! '==' on arrays of bytes -/
theorem part_byte (X : List UInt8) (i : Nat) (h : i < X.length) (w : World) : (part 5 (Lib.byteCells X).toArray (i * 1)).run Try.prog w = .ok (.int .u8 ((X.getD i 0).toNat : Nat)) w := by
  have hc := byteCells_get h
  simp [part, hc]

theorem eqItems_bytes (d : Nat) (X Y : List UInt8) (w : World) : ∀ (is : List Nat), (∀ i ∈ is, i < X.length ∧ i < Y.length) →
    (Op.eqItems (d + 1) 5 1 (Lib.byteCells X).toArray (Lib.byteCells Y).toArray is).run Try.prog w = .ok (is.all fun i => decide (X.getD i 0 = Y.getD i 0)) w
  | [], _ => by simp [Op.eqItems]
  | i :: is, h => by
    obtain ⟨h1, h2⟩ := h i (by simp)
    have ih := eqItems_bytes d X Y w is fun j hj => h j (by simp [hj])
    simp only [Op.eqItems, Sem.run_bind, part_byte X i h1 w, part_byte Y i h2 w, Result.andThen_ok, run_equalIn_int w d 5 .u8 .u8 _ _ Try.underlying5]
    by_cases he : X.getD i 0 = Y.getD i 0
    · rw [he]
      simp only [beq_self_eq_true, Bool.not_true, Bool.false_eq_true, if_false]
      rw [ih]
      have hd : decide (X.getD i 0 = Y.getD i 0) = true := decide_eq_true he
      simp only [List.all_cons, hd, Bool.true_and]
    · have hb : ((((X.getD i 0).toNat : Nat) : Int) == (((Y.getD i 0).toNat : Nat) : Int)) = false := by
        rw [beq_eq_false_iff_ne]
        intro e
        exact he (UInt8.toNat_inj.1 (by exact_mod_cast e))
      rw [hb]
      have hd : decide (X.getD i 0 = Y.getD i 0) = false := decide_eq_false he
      simp only [Bool.not_false, if_true, Sem.run_pure, List.all_cons, hd, Bool.false_and]

theorem all_getD {n : Nat} {X Y : List UInt8} (hX : X.length = n) (hY : Y.length = n) : ((List.range n).all fun i => decide (X.getD i 0 = Y.getD i 0)) = decide (X = Y) := by
  rw [Bool.eq_iff_iff]
  simp only [List.all_eq_true, List.mem_range, decide_eq_true_eq]
  constructor
  · intro h
    refine List.ext_getElem (by omega) fun i h1 h2 => ?_
    have := h i (by omega)
    simpa [List.getD, h1, h2] using this
  · rintro rfl i _
    rfl

theorem arr_eql {T : TypeId} {n : Nat} (hT : Try.prog.underlying T = some (.array n 5)) (X Y : List UInt8) (hX : X.length = n) (hY : Y.length = n) (w : World) : (binOp .eql T (digV X) (digV Y)).run Try.prog w = .ok (.bool (decide (X = Y))) w := by
  have hi : Try.prog.info? 5 = some ((Try.prog.info? 5).get (by kernel_rfl)) := (Option.some_get _).symm
  have h1 := run_equalIn_array (P := Try.prog) (w := w) 9999 (Lib.byteCells X).toArray (Lib.byteCells Y).toArray hT hi
  have hc : Try.prog.cellsOf 5 = 1 := by kernel_rfl
  rw [hc, eqItems_bytes 9998 X Y w (List.range n) (fun i hi => by have := List.mem_range.1 hi; omega), all_getD hX hY] at h1
  unfold digV
  rw [run_eql_struct, h1]
  rfl

theorem arr_guard (op : BinOp) {T : TypeId} {n : Nat} (hT : Try.prog.underlying T = some (.array n 5)) (h : Try.prog.eqGuardType Try.prog.depth T = false) (x y : Operand) (X Y : List UInt8) (w : World) : (eqGuard op T x y (digV X) (digV Y)).run Try.prog w = .ok () w :=
  run_eqGuard_agg w op T x y _ _ h

/-- A value put together, its parts said by the caller. -/
theorem wpList_built {P : Program} {ops : Array Oper} {rest : List Oper} {o : Oper} {a : Act} {w : World} {Q : Exit → Act → World → Prop} (hg : o.guard = none) (t : TypeId) (parts : Array (Nat × Operand)) (ho : o.op = .build t parts)
    (ps : List (Nat × Value)) (hp : parts.toList.map (fun x => (x.1, a.eval x.2)) = ps) (cells : Array Value) (hf : P.built t ps = some cells)
    (h : wpList P ops Q rest (a.put o.dst (.agg cells)) w) : wpList P ops Q (o :: rest) a w :=
  wpList_buildTo hg t parts ho _ rfl cells (by rw [← hf, ← hp]; simp) h

theorem fill_part (place : Nat → Option (Nat × Nat)) (cells : Array Value) (i off : Nat) (l : List Value) (hp : place i = some (off, l.length)) (h : off + l.length = cells.size) :
    Instr.fill place cells [(i, .agg l.toArray)] = some (cells.toList.take off ++ l).toArray := by
  simp only [Instr.fill, hp, Value.cells, List.size_toArray]
  rw [if_neg (by simp; omega)]
  congr 1
  obtain ⟨g1, g2⟩ := Great.foldl_set off l 0 cells
  have e : (l.toArray.zipIdx.foldl (fun cs (x : Value × Nat) => cs.setIfInBounds (off + x.2) x.1) cells) = ((l.zipIdx 0).foldl (fun cs (x : Value × Nat) => cs.setIfInBounds (off + x.2) x.1) cells) := by
    rw [← Array.foldl_toList, Array.toList_zipIdx]
  show (l.toArray.zipIdx.foldl (fun cs (x : Value × Nat) => cs.setIfInBounds (off + x.2) x.1) cells) = _
  rw [e]
  apply Array.ext_getElem?
  intro k
  rw [g2 k]
  simp only [List.getElem?_toArray, Nat.add_zero]
  by_cases hk : off ≤ k
  · rw [List.getElem?_append_right (by simp; omega), show (cells.toList.take off).length = off from by simp; omega]
    by_cases hk2 : k < off + l.length
    · rw [if_pos ⟨hk, hk2, by omega⟩]
    · rw [if_neg (by omega), Array.getElem?_eq_none (by omega), List.getElem?_eq_none (by omega)]
  · rw [if_neg (by omega), List.getElem?_append_left (by simp; omega)]
    simp [show k < off from by omega]

theorem built_fill (parts : List (Nat × Value)) : Try.prog.built 90 parts = Instr.fill (#[(0, 1), (1, 32)][·]?) (.int .u64 0 :: Lib.byteCells zeros).toArray parts := by kernel_rfl
theorem cell_built (x : Int) (V : List Value) (h : V.length = 32) : Try.prog.built 90 [(0, .int .u64 x), (1, .agg V.toArray)] = some (.int .u64 x :: V).toArray := by
  rw [built_fill]
  have h1 := fill_part (#[(0, 1), (1, 32)][·]?) (.int .u64 x :: Lib.byteCells zeros).toArray 1 1 V (by rw [h]; rfl) (by simp [h, Lib.byteCells, zeros])
  rw [show (((.int .u64 x :: Lib.byteCells zeros).toArray.toList.take 1 ++ V).toArray : Array Value) = (.int .u64 x :: V).toArray from by simp] at h1
  rw [← h1]
  conv => lhs; unfold Instr.fill
  simp [Value.cells]
theorem cell_built1 (V : List Value) (h : V.length = 32) : Try.prog.built 90 [(1, .agg V.toArray)] = some (.int .u64 0 :: V).toArray := by
  rw [built_fill, fill_part _ _ 1 1 V (by rw [h]; rfl) (by simp [h, Lib.byteCells, zeros])]
  simp
theorem zeros_built : Try.prog.built 44 [] = some (Lib.byteCells zeros).toArray := by kernel_rfl

end Go.Proofs.Ytkpgbgiamekhaac

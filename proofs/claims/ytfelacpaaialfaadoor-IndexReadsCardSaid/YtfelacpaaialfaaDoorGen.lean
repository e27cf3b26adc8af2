/-
  Regions op by op; arrays at any place; '==' on digests, whatever they hold. No walk, no program's own type but bytes and digests.
-/
import Derived.Test.YtfelacpaaialfaaDoorDig0
import Derived.ChangeKeysEq
import Derived.Laws.StructEq
import Derived.Laws.IdiomStrings
import Derived.Laws.BytesArg
import Derived.Deep.MidRow
import Derived.Deep.RegionHeld3
import Derived.IntWalk
import Derived.Great.BuildSlice
namespace Go.Proofs.YtfelacpaaialfaaDoor
open Go.RowKit
set_option linter.unusedVariables false

theorem Arr.setCells {g : Nat} {T : TypeId} : ∀ (vs : List Value) (off : Nat) (cs : List Value) (w : World), Arr w g T cs → off + vs.length = cs.length → Arr (w.setCells g off vs) g T (cs.take off ++ vs)
  | [], off, cs, w, h, hl => by rw [List.append_nil, List.take_of_length_le (by simp at hl; omega)]; exact h
  | v :: r, off, cs, w, h, hl => by
    have h1 := Arr.setCells r (off + 1) (cs.set off v) (w.setCell ⟨g, off, none⟩ v) (h.set off v) (by simp at hl ⊢; omega)
    have e : (cs.set off v).take (off + 1) ++ r = cs.take off ++ v :: r := by
      have hlt : off < cs.length := by simp at hl; omega
      rw [List.take_succ_eq_append_getElem (by simpa using hlt), List.take_set_of_le (Nat.le_refl _)]
      simp
    rw [e] at h1
    exact h1
theorem Only.setCells {R : Nat → Prop} {a : World} {g : Nat} (hg : R g) : ∀ (vs : List Value) (off : Nat) (b : World), Only R a b → Only R a (b.setCells g off vs)
  | [], _, _, h => h
  | v :: r, off, b, h => Only.setCells hg r (off + 1) _ (h.setCell (p := ⟨g, off, none⟩) (.inl hg) v)

/-- 'wpAnyH_take', the operation's slot said by the caller. -/
theorem anyH_take {P : Program} {md : Region.Mode} {ops : Array Oper} {Q : Exit → Act → World → Prop} {S : World → Prop} {i : Nat} {oi : Oper} {v : Value} {fuel : Nat} {listed : Array Bool} {a : Act} {w : World} (dd : Option Tmp) (hi : ops[i]? = some oi) (hd : oi.dst = dd)
    (hs : Region.noSelect ops = true) (hf : Region.free md ops listed i = true) (hr : (Region.ready md ops listed).contains i = true)
    (hQ : ∀ c a w, Q (.panic c) (a.put oi.dst v) w → Q (.panic c) a w) (hy : YieldsIf P ops S oi v a) (hS : S w)
    (h : wpAnyH P md ops Q S fuel (listed.setIfInBounds i true) (a.put dd v) w) : wpAnyH P md ops Q S (fuel + 1) listed a w := by
  subst hd; exact wpAnyH_take hi hs hf hr hQ hy hS h

theorem part_byte (X : List UInt8) (i : Nat) (h : i < X.length) (w : World) : (part 5 (Lib.byteCells X).toArray (i * 1)).run Tryd.prog w = .ok (.int .u8 ((X.getD i 0).toNat : Nat)) w := by
  have hc := byteCells_get h
  simp [part, hc]

theorem eqItems_bytes (d : Nat) (X Y : List UInt8) (w : World) : ∀ (is : List Nat), (∀ i ∈ is, i < X.length ∧ i < Y.length) →
    (Op.eqItems (d + 1) 5 1 (Lib.byteCells X).toArray (Lib.byteCells Y).toArray is).run Tryd.prog w = .ok (is.all fun i => decide (X.getD i 0 = Y.getD i 0)) w
  | [], _ => by simp [Op.eqItems]
  | i :: is, h => by
    obtain ⟨h1, h2⟩ := h i (by simp)
    have ih := eqItems_bytes d X Y w is fun j hj => h j (by simp [hj])
    simp only [Op.eqItems, Sem.run_bind, part_byte X i h1 w, part_byte Y i h2 w, Result.andThen_ok, run_equalIn_int w d 5 .u8 .u8 _ _ Tryd.underlying5]
    by_cases he : X.getD i 0 = Y.getD i 0
    · rw [he]
      simp only [beq_self_eq_true, Bool.not_true, Bool.false_eq_true, if_false]
      rw [ih]
      have hd : decide (X.getD i 0 = Y.getD i 0) = true := decide_eq_true he
      simp only [List.all_cons, hd, Bool.true_and]
    · have hb : ((((X.getD i 0).toNat : Nat) : Int) == (((Y.getD i 0).toNat : Nat) : Int)) = false := by
        rw [beq_eq_false_iff_ne]
        intro e
        exact he (UInt8.toNat_inj.1 (by exact_mod_cast e))
      rw [hb]
      have hd : decide (X.getD i 0 = Y.getD i 0) = false := decide_eq_false he
      simp only [Bool.not_false, if_true, Sem.run_pure, List.all_cons, hd, Bool.false_and]

theorem all_getD {n : Nat} {X Y : List UInt8} (hX : X.length = n) (hY : Y.length = n) : ((List.range n).all fun i => decide (X.getD i 0 = Y.getD i 0)) = decide (X = Y) := by
  rw [Bool.eq_iff_iff]
  simp only [List.all_eq_true, List.mem_range, decide_eq_true_eq]
  constructor
  · intro h
    refine List.ext_getElem (by omega) fun i h1 h2 => ?_
    have := h i (by omega)
    simpa [List.getD, h1, h2] using this
  · rintro rfl i _
    rfl

set_option maxRecDepth 100000 in
theorem eqv_at {T : TypeId} {n : Nat} (hT : Tryd.prog.underlying T = some (.array n 5)) (X Y : List UInt8) (hX : X.length = n) (hY : Y.length = n) (XL YL : List Value) (hXL : XL = Lib.byteCells X) (hYL : YL = Lib.byteCells Y) (w : World) :
    (Op.equalIn 10000 T (.agg XL.toArray) (.agg YL.toArray)).run Tryd.prog w = .ok (decide (X = Y)) w := by
  subst hXL hYL
  have hi : Tryd.prog.info? 5 = some ((Tryd.prog.info? 5).get (by kernel_rfl)) := (Option.some_get _).symm
  have h1 := run_equalIn_array (P := Tryd.prog) (w := w) 9999 (Lib.byteCells X).toArray (Lib.byteCells Y).toArray hT hi
  have hc : Tryd.prog.cellsOf 5 = 1 := by kernel_rfl
  rw [hc, eqItems_bytes 9998 X Y w (List.range n) (fun i hi => by have := List.mem_range.1 hi; omega), all_getD hX hY] at h1
  exact h1
theorem gt32 : Tryd.prog.eqGuardType Tryd.prog.depth 39 = false := by kernel_rfl


/-- A new block, filled at once. -/
theorem alloc_row (w : World) (T : TypeId) (Z : Array Value) (VL : List Value) : Arr ((w.alloc (.cells Z T)).setRow w.heap.size VL.toArray) w.heap.size T VL ∧ Below w.heap.size w ((w.alloc (.cells Z T)).setRow w.heap.size VL.toArray) := by
  have h1 : Below w.heap.size w (w.alloc (.cells Z T)) := (Below.refl _ w).alloc (Nat.le_refl _) _
  exact ⟨setRow_heap (w.alloc (.cells Z T)) w.heap.size Z VL.toArray T (0, 0) (heap_alloc_new w _), h1.trans (((Only.refl (fun k => k = w.heap.size) _).setRow (.inl rfl) _).below h1.size (by rintro k rfl; omega))⟩

theorem Arr.up {w w' : World} {g : Nat} {T : TypeId} {cs : List Value} (h : Arr w g T cs) (hb : Below w.heap.size w w') : Arr w' g T cs := h.below hb h.lt

theorem Arr.range {w : World} {g : Nat} {T : TypeId} {cs : List Value} (h : Arr w g T cs) : w.rangeAt g 0 cs := fun j v hj => by rw [Nat.zero_add, h.cell]; exact hj
theorem dig_size {d : List UInt8} {n : Nat} (hd : d.length = n) : (Lib.byteCells d).toArray.size = n := by simp [Lib.byteCells, hd]
theorem dig_one (d : List UInt8) : (Lib.byteCells d).toArray.all (·.oneCell') = true := by simpa using byteCells_one d

/-- A conversion in a region that draws its order. -/
theorem yieldsIf_convert {P : Program} {ops : Array Oper} {S : World → Prop} {op : Oper} {a : Act} (hw : Region.wanted op (yielded ops a.tmps) = true) (src dst : TypeId) (x : Operand) (ho : op.op = .convert src dst x)
    (X v : Value) (hx : a.eval x = X) (hS : ∀ w, S w → (convert src dst X).run P w = .ok v w) : YieldsIf P ops S op v a :=
  .inl ⟨hw, fun w hw' => by
    unfold execOp
    simp only [ho, hx, Sem.run_bind, hS w hw', Result.andThen_ok, Sem.run_pure]⟩

/-- 'string(b)', b nil or not. -/
theorem str_of_bs {P : Program} {w : World} {B : Nat} {A : Option Addr} {l : List UInt8} {m : Nat} (c : Nat) (h : Bs w B A l) (hm : l.length = m) (src dst e : TypeId) (hs : P.underlying src = some (.slice e)) (he : P.underlying e = some (.int .u8)) (hd : P.underlying dst = some .string) :
    (convert src dst (.slice A m c)).run P w = .ok (.string ⟨l.toArray⟩) w := by
  subst hm
  rcases A with _ | a
  · have hl0 : l = [] := by
      rcases Nat.eq_zero_or_pos l.length with h0 | h0
      · exact List.eq_nil_of_length_eq_zero h0
      · obtain ⟨_, _, e, _⟩ := h h0; cases e
    subst hl0
    exact run_convert_bytes_nil w src e hs he _ _ dst hd
  · refine run_convert_bytes_back w src dst e a c l hs he hd fun j hj => ?_
    obtain ⟨b, off, e', _, hc⟩ := h (by omega)
    injection e' with e'
    subst e'
    have hadd : (⟨b, off, none⟩ : Addr).add j = ⟨b, off + j, none⟩ := by unfold Addr.add; split <;> simp_all
    rw [hadd, hc j hj, ← List.getElem_eq_getD (h := hj) 0]

/-- A slice literal, its values said by the caller. -/
theorem wpList_build_vals {P : Program} {ops : Array Oper} {rest : List Oper} {o : Oper} {a : Act} {w : World} {Q : Exit → Act → World → Prop} (hg : o.guard = none) (t e : TypeId) (len : Nat) (parts : Array (Nat × Operand)) (ho : o.op = .buildSlice t len parts)
    (vs : List Value) (hu : P.underlying t = some (.slice e)) (hsz : (P.info? e).map (·.size) = some 1) (hz : ((P.info? e).bind (·.zero)).isSome = true)
    (hlen : len = vs.length) (hpos : 0 < len) (hsmall : len ≤ 2 ^ 24) (h1 : ∀ v ∈ vs, v.cells = #[v])
    (hparts : parts.toList.map (fun x => (x.1, a.eval x.2)) = (vs.zipIdx 0).map fun x => (x.2, x.1))
    (h : wpList P ops Q rest (a.put o.dst (.slice (some ⟨w.heap.size, 0, none⟩) len len)) (w.alloc (.cells vs.toArray e))) : wpList P ops Q (o :: rest) a w := by
  cases hie : P.info? e with
  | none => simp [hie] at hsz
  | some ie =>
    simp only [hie, Option.map_some, Option.some.injEq, Option.bind_some] at hsz hz
    obtain ⟨z, hzz⟩ := Option.isSome_iff_exists.1 hz
    refine wpList_buildSlice hg t e len parts ho _ ie z hu hie hzz (by rw [hsz]; omega) (by rw [hsz]; omega) ?_ h
    rw [Array.toList_map, hparts, hsz]
    exact Great.fill_flat _ _ h1 (by simp [hlen])

/-- What 'make' lays. -/
theorem made_zeros (n : Nat) : madeCells #[.int .u8 0] n = (Lib.byteCells (List.replicate n 0)).toArray := by
  apply Array.ext
  · simp [madeCells, Lib.byteCells]
  · intro i h1 h2
    have hi : i % 1 = 0 := Nat.mod_one i
    simp [madeCells, Lib.byteCells, hi]

end Go.Proofs.YtfelacpaaialfaaDoor

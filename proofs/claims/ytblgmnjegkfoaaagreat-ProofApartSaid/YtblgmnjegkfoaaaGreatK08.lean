/-
  TrieComm Gen TrieNode TrieLeaf TrieLeafOf TrieNext TrieBegun TrieAlone TrieAbove: texts on the way to the laws, as one.
-/
import Derived.Test.YtblgmnjegkfoaaaGreatK07
import Derived.Test.YtblgmnjegkfoaaaGreatK03
import Derived.ChangeKeysEq
import Derived.Laws.StructEq
import Derived.Laws.IdiomStrings
import Derived.Laws.BytesArg
import Derived.Deep.MidRow
import Derived.Deep.RegionHeld3
import Derived.IntWalk
import Derived.Great.BuildSlice
set_option maxRecDepth 100000
namespace Go.Proofs.YtblgmnjegkfoaaaGreat
open Go.RowKit
set_option linter.unusedVariables false
set_option linter.unusedSimpArgs false

set_option maxHeartbeats 4000000 in
set_option maxRecDepth 100000 in
theorem common_run (a b : List UInt8) (ha : a.length = 32) (hb : b.length = 32) (AL BL : List Value) (hAL : AL = Lib.byteCells a) (hBL : BL = Lib.byteCells b) (r : Nat) (hr : commF a b = r) (w : World) :
    Calls Tryz.prog 60 #[.agg AL.toArray, .agg BL.toArray] w fun e w' => e = .returned (.int .i64 (r : Nat)) ∧ Below w.heap.size w w' := by
  obtain ⟨W1, hW1⟩ : ∃ W1, W1 = (w.alloc (.cells AL.toArray 24)).alloc (.cells BL.toArray 24) := ⟨_, rfl⟩
  have hA1 : Arr W1 w.heap.size 24 AL := by rw [hW1]; exact (Arr.new w _ _).alloc _
  have hB1 : Arr W1 (w.heap.size + 1) 24 BL := by rw [hW1, ← World.size_alloc w (.cells AL.toArray 24)]; exact Arr.new _ _ _
  have hb1 : Below w.heap.size w W1 := by rw [hW1]; exact ((Below.refl _ w).alloc (Nat.le_refl _) _).alloc (by simp) _
  have hcA : ∀ i, i < 32 → W1.cell? ⟨w.heap.size, i, none⟩ = some (.int .u8 ((a.getD i 0).toNat : Nat)) := fun i hi => by
    rw [hA1.cell, hAL]; exact byteCells_get (by omega)
  have hcB : ∀ i, i < 32 → W1.cell? ⟨w.heap.size + 1, i, none⟩ = some (.int .u8 ((b.getD i 0).toNat : Nat)) := fun i hi => by
    rw [hB1.cell, hBL]; exact byteCells_get (by omega)
  have HcA := Lib.hid hcA
  have HcB := Lib.hid hcB
  have HW1 := Lib.hid hW1
  have Hr := Lib.hid hr
  have hr64 : r ≤ 64 := by rw [← hr]; exact commF_le a b
  clear hW1 hAL hBL hA1 hB1 hcA hcB hr
  go_enter Tryz.func60, Tryz.ntmps60
  go_upto_region 1 with fail
  change Code.wp _ _ _ _ ((w.alloc (.cells AL.toArray 24)).alloc (.cells BL.toArray 24))
  rw [← HW1.out]
  clear HW1
  go_wp2
  go_loopw [6] (fun x wr => ∃ i : Nat, i ≤ 32 ∧ x = .int .i64 i ∧ Hid (∀ j, j < i → a.getD j 0 = b.getD j 0) ∧ ∃ n, wr = W1.drewN n) (fun x _ => 32 - (intOf x).toNat)
  case atStart => exact ⟨0, by omega, rfl, fun j hj => absurd hj (Nat.not_lt_zero j), 0, rfl⟩
  case round =>
    obtain ⟨i, hi, rfl, hag, n, rfl⟩ := hrel
    by_cases hlt : i < 32
    · have hca : W1.cell? ⟨w.heap.size, i, none⟩ = some (.int .u8 ((a.getD i 0).toNat : Nat)) := HcA.out i hlt
      have hcb : W1.cell? ⟨w.heap.size + 1, i, none⟩ = some (.int .u8 ((b.getD i 0).toNat : Nat)) := HcB.out i hlt
      obtain ⟨hx1, hx2, hx3, hx4⟩ := xor_byte (a.getD i 0) (b.getD i 0)
      have hat := fun hne => commF_at (a := a) (b := b) hlt hag.out hne
      obtain ⟨xa, hxa⟩ : ∃ x, a.getD i 0 = x := ⟨_, rfl⟩
      obtain ⟨xb, hxb⟩ : ∃ x, b.getD i 0 = x := ⟨_, rfl⟩
      rw [hxa, hxb] at hat hx3
      rw [hxa] at hca hx1 hx2 hx4
      rw [hxb] at hcb hx1 hx2 hx4
      obtain ⟨x, hx⟩ : ∃ x, xa.toNat = x := ⟨_, rfl⟩
      obtain ⟨y, hy⟩ : ∃ y, xb.toNat = y := ⟨_, rfl⟩
      have hxB : x < 256 := by rw [← hx]; exact UInt8.toNat_lt _
      have hyB : y < 256 := by rw [← hy]; exact UInt8.toNat_lt _
      rw [hx] at hca hx1 hx2 hx4 hat
      rw [hy] at hcb hx1 hx2 hx4 hat
      have hiI : (i : Int) < 32 := by omega
      have hd1 : decide ((i : Int) < (32 : Int)) = true := by simp; omega
      by_cases he : xa = xb
      · have hxy : x = y := by rw [← hx, ← hy, he]
        subst hxy
        have hag2 : Hid (∀ j, j < i + 1 → a.getD j 0 = b.getD j 0) := fun j hj => by
          by_cases e : j = i
          · rw [e, hxa, hxb, he]
          · exact hag.out j (by omega)
        clear hxa hxb hx hy hat hx1 hx2 hx3 hx4 he
        go_wp2
        go_quiet (fail)
        go_wp2
        go_roundw
        case rel => exact ⟨i + 1, by omega, by go_num, hag2, _, rfl⟩
        case measure => simp [intOf]; omega
      · have hne : ((x : Int) != (y : Int)) = true := by
          rw [bne_iff_ne]
          intro e
          exact he (UInt8.toNat_inj.1 (by rw [hx, hy]; omega))
        have hres := hat he
        rw [Hr.out] at hres
        obtain ⟨z, hz⟩ : ∃ z, x ^^^ y = z := ⟨_, rfl⟩
        rw [hz] at hx1 hx2 hx4 hres
        obtain ⟨l, hl⟩ : ∃ l, 8 - Lib.bitLen z = l := ⟨_, rfl⟩
        have hlI : (8 : Int) - (Lib.bitLen z : Int) = (l : Int) := by omega
        have hlz : ∀ w, Calls Tryz.prog 78 #[.int .u8 (z : Nat)] w fun e w' => e = .returned (.int .i64 (l : Nat)) ∧ w' = w := fun w => by
          refine (lz8_run (z : Nat) w (by omega) (by omega)).mono ?_
          rintro e w' ⟨rfl, rfl⟩
          rw [Int.toNat_natCast, hlI]
          exact ⟨rfl, rfl⟩
        rw [hl] at hres
        obtain ⟨p, hp⟩ : ∃ p, 2 * i = p := ⟨_, rfl⟩
        obtain ⟨q, hq⟩ : ∃ q, l / 4 = q := ⟨_, rfl⟩
        rw [hp, hq] at hres
        have hpI : (2 : Int) * (i : Int) = (p : Int) := by omega
        have hqI : (l : Int) / 4 = (q : Int) := by omega
        have hqT : (l : Int).tdiv 4 = (q : Int) := by rw [Int.tdiv_eq_ediv_of_nonneg (by omega)]; exact hqI
        have hrI : (p : Int) + (q : Int) = (r : Int) := by omega
        have hpB : p ≤ 64 := by omega
        have hpw : IntKind.i64.wrap (p : Int) = (p : Int) := IntWalk.i64_in _ (by omega)
        have hrw : IntKind.i64.wrap (r : Int) = (r : Int) := IntWalk.i64_in _ (by omega)
        have hqw : IntKind.i64.wrap (q : Int) = (q : Int) := IntWalk.i64_in _ (by omega)
        have hlB : l ≤ 8 := by omega
        have hqB : q ≤ 8 := by omega
        have hxw : IntKind.u8.wrap (z : Int) = (z : Int) := IntWalk.u8_in _ (by omega)
        clear hxa hxb hx hy hat hx3 hag hres hp hq hl hz hx4 hlI he
        go_wp2
        go_quiet (fail)
        go_wp2_with fail
        go_quiet ((go_at_call 78; first | exact calls_joined hlz | exact Calls.quiet_of_same (hlz _)))
        go_wp2
        go_ret
        exact ⟨rfl, Below.dN (Below.dN (Below.dN hb1 _) _) _⟩
    · obtain rfl : i = 32 := by omega
      have hall : commF a b = 64 := (commF_all ha hb).2 (List.ext_getElem (by omega) fun j h1 h2 => by
        have := hag.out j (by omega)
        simpa [List.getD, h1, h2] using this)
      have hd1 : decide (((32 : Nat) : Int) < (32 : Int)) = false := by simp
      have hr2 : r = 64 := by rw [← Hr.out]; exact hall
      subst hr2
      clear hall hag
      go_wp2
      go_ret
      exact ⟨rfl, Below.dN hb1 _⟩

end Go.Proofs.YtblgmnjegkfoaaaGreat

namespace Go.Proofs.YtblgmnjegkfoaaaGreat
open Go.RowKit
set_option linter.unusedVariables false

theorem Arr.setCells {g : Nat} {T : TypeId} : ∀ (vs : List Value) (off : Nat) (cs : List Value) (w : World), Arr w g T cs → off + vs.length = cs.length → Arr (w.setCells g off vs) g T (cs.take off ++ vs)
  | [], off, cs, w, h, hl => by rw [List.append_nil, List.take_of_length_le (by simp at hl; omega)]; exact h
  | v :: r, off, cs, w, h, hl => by
    have h1 := Arr.setCells r (off + 1) (cs.set off v) (w.setCell ⟨g, off, none⟩ v) (h.set off v) (by simp at hl ⊢; omega)
    have e : (cs.set off v).take (off + 1) ++ r = cs.take off ++ v :: r := by
      have hlt : off < cs.length := by simp at hl; omega
      rw [List.take_succ_eq_append_getElem (by simpa using hlt), List.take_set_of_le (Nat.le_refl _)]
      simp
    rw [e] at h1
    exact h1
theorem Only.setCells {R : Nat → Prop} {a : World} {g : Nat} (hg : R g) : ∀ (vs : List Value) (off : Nat) (b : World), Only R a b → Only R a (b.setCells g off vs)
  | [], _, _, h => h
  | v :: r, off, b, h => Only.setCells hg r (off + 1) _ (h.setCell (p := ⟨g, off, none⟩) (.inl hg) v)

/-- 'wpAnyH_take', the operation's slot said by the caller. -/
theorem anyH_take {P : Program} {md : Region.Mode} {ops : Array Oper} {Q : Exit → Act → World → Prop} {S : World → Prop} {i : Nat} {oi : Oper} {v : Value} {fuel : Nat} {listed : Array Bool} {a : Act} {w : World} (dd : Option Tmp) (hi : ops[i]? = some oi) (hd : oi.dst = dd)
    (hs : Region.noSelect ops = true) (hf : Region.free md ops listed i = true) (hr : (Region.ready md ops listed).contains i = true)
    (hQ : ∀ c a w, Q (.panic c) (a.put oi.dst v) w → Q (.panic c) a w) (hy : YieldsIf P ops S oi v a) (hS : S w)
    (h : wpAnyH P md ops Q S fuel (listed.setIfInBounds i true) (a.put dd v) w) : wpAnyH P md ops Q S (fuel + 1) listed a w := by
  subst hd; exact wpAnyH_take hi hs hf hr hQ hy hS h

theorem part_byte (X : List UInt8) (i : Nat) (h : i < X.length) (w : World) : (part 5 (Lib.byteCells X).toArray (i * 1)).run Tryz.prog w = .ok (.int .u8 ((X.getD i 0).toNat : Nat)) w := by
  have hc := byteCells_get h
  simp [part, hc]

theorem eqItems_bytes (d : Nat) (X Y : List UInt8) (w : World) : ∀ (is : List Nat), (∀ i ∈ is, i < X.length ∧ i < Y.length) →
    (Op.eqItems (d + 1) 5 1 (Lib.byteCells X).toArray (Lib.byteCells Y).toArray is).run Tryz.prog w = .ok (is.all fun i => decide (X.getD i 0 = Y.getD i 0)) w
  | [], _ => by simp [Op.eqItems]
  | i :: is, h => by
    obtain ⟨h1, h2⟩ := h i (by simp)
    have ih := eqItems_bytes d X Y w is fun j hj => h j (by simp [hj])
    simp only [Op.eqItems, Sem.run_bind, part_byte X i h1 w, part_byte Y i h2 w, Result.andThen_ok, run_equalIn_int w d 5 .u8 .u8 _ _ Tryz.underlying5]
    by_cases he : X.getD i 0 = Y.getD i 0
    · rw [he]
      simp only [beq_self_eq_true, Bool.not_true, Bool.false_eq_true, if_false]
      rw [ih]
      have hd : decide (X.getD i 0 = Y.getD i 0) = true := decide_eq_true he
      simp only [List.all_cons, hd, Bool.true_and]
    · have hb : ((((X.getD i 0).toNat : Nat) : Int) == (((Y.getD i 0).toNat : Nat) : Int)) = false := by
        rw [beq_eq_false_iff_ne]
        intro e
        exact he (UInt8.toNat_inj.1 (by exact_mod_cast e))
      rw [hb]
      have hd : decide (X.getD i 0 = Y.getD i 0) = false := decide_eq_false he
      simp only [Bool.not_false, if_true, Sem.run_pure, List.all_cons, hd, Bool.false_and]

theorem all_getD {n : Nat} {X Y : List UInt8} (hX : X.length = n) (hY : Y.length = n) : ((List.range n).all fun i => decide (X.getD i 0 = Y.getD i 0)) = decide (X = Y) := by
  rw [Bool.eq_iff_iff]
  simp only [List.all_eq_true, List.mem_range, decide_eq_true_eq]
  constructor
  · intro h
    refine List.ext_getElem (by omega) fun i h1 h2 => ?_
    have := h i (by omega)
    simpa [List.getD, h1, h2] using this
  · rintro rfl i _
    rfl

set_option maxRecDepth 100000 in
theorem eqv_at {T : TypeId} {n : Nat} (hT : Tryz.prog.underlying T = some (.array n 5)) (X Y : List UInt8) (hX : X.length = n) (hY : Y.length = n) (XL YL : List Value) (hXL : XL = Lib.byteCells X) (hYL : YL = Lib.byteCells Y) (w : World) :
    (Op.equalIn 10000 T (.agg XL.toArray) (.agg YL.toArray)).run Tryz.prog w = .ok (decide (X = Y)) w := by
  subst hXL hYL
  have hi : Tryz.prog.info? 5 = some ((Tryz.prog.info? 5).get (by kernel_rfl)) := (Option.some_get _).symm
  have h1 := run_equalIn_array (P := Tryz.prog) (w := w) 9999 (Lib.byteCells X).toArray (Lib.byteCells Y).toArray hT hi
  have hc : Tryz.prog.cellsOf 5 = 1 := by kernel_rfl
  rw [hc, eqItems_bytes 9998 X Y w (List.range n) (fun i hi => by have := List.mem_range.1 hi; omega), all_getD hX hY] at h1
  exact h1
theorem gt32 : Tryz.prog.eqGuardType Tryz.prog.depth 24 = false := by kernel_rfl


/-- A new block, filled at once. -/
theorem alloc_row (w : World) (T : TypeId) (Z : Array Value) (VL : List Value) : Arr ((w.alloc (.cells Z T)).setRow w.heap.size VL.toArray) w.heap.size T VL ∧ Below w.heap.size w ((w.alloc (.cells Z T)).setRow w.heap.size VL.toArray) := by
  have h1 : Below w.heap.size w (w.alloc (.cells Z T)) := (Below.refl _ w).alloc (Nat.le_refl _) _
  exact ⟨setRow_heap (w.alloc (.cells Z T)) w.heap.size Z VL.toArray T (0, 0) (heap_alloc_new w _), h1.trans (((Only.refl (fun k => k = w.heap.size) _).setRow (.inl rfl) _).below h1.size (by rintro k rfl; omega))⟩

theorem Arr.up {w w' : World} {g : Nat} {T : TypeId} {cs : List Value} (h : Arr w g T cs) (hb : Below w.heap.size w w') : Arr w' g T cs := h.below hb h.lt

theorem Arr.range {w : World} {g : Nat} {T : TypeId} {cs : List Value} (h : Arr w g T cs) : w.rangeAt g 0 cs := fun j v hj => by rw [Nat.zero_add, h.cell]; exact hj
theorem dig_size {d : List UInt8} {n : Nat} (hd : d.length = n) : (Lib.byteCells d).toArray.size = n := by simp [Lib.byteCells, hd]
theorem dig_one (d : List UInt8) : (Lib.byteCells d).toArray.all (·.oneCell') = true := by simpa using byteCells_one d

/-- A conversion in a region that draws its order. -/
theorem yieldsIf_convert {P : Program} {ops : Array Oper} {S : World → Prop} {op : Oper} {a : Act} (hw : Region.wanted op (yielded ops a.tmps) = true) (src dst : TypeId) (x : Operand) (ho : op.op = .convert src dst x)
    (X v : Value) (hx : a.eval x = X) (hS : ∀ w, S w → (convert src dst X).run P w = .ok v w) : YieldsIf P ops S op v a :=
  .inl ⟨hw, fun w hw' => by
    unfold execOp
    simp only [ho, hx, Sem.run_bind, hS w hw', Result.andThen_ok, Sem.run_pure]⟩

/-- 'string(b)', b nil or not. -/
theorem str_of_bs {P : Program} {w : World} {B : Nat} {A : Option Addr} {l : List UInt8} {m : Nat} (c : Nat) (h : Bs w B A l) (hm : l.length = m) (src dst e : TypeId) (hs : P.underlying src = some (.slice e)) (he : P.underlying e = some (.int .u8)) (hd : P.underlying dst = some .string) :
    (convert src dst (.slice A m c)).run P w = .ok (.string ⟨l.toArray⟩) w := by
  subst hm
  rcases A with _ | a
  · have hl0 : l = [] := by
      rcases Nat.eq_zero_or_pos l.length with h0 | h0
      · exact List.eq_nil_of_length_eq_zero h0
      · obtain ⟨_, _, e, _⟩ := h h0; cases e
    subst hl0
    exact run_convert_bytes_nil w src e hs he _ _ dst hd
  · refine run_convert_bytes_back w src dst e a c l hs he hd fun j hj => ?_
    obtain ⟨b, off, e', _, hc⟩ := h (by omega)
    injection e' with e'
    subst e'
    have hadd : (⟨b, off, none⟩ : Addr).add j = ⟨b, off + j, none⟩ := by unfold Addr.add; split <;> simp_all
    rw [hadd, hc j hj, ← List.getElem_eq_getD (h := hj) 0]

/-- A slice literal, its values said by the caller. -/
theorem wpList_build_vals {P : Program} {ops : Array Oper} {rest : List Oper} {o : Oper} {a : Act} {w : World} {Q : Exit → Act → World → Prop} (hg : o.guard = none) (t e : TypeId) (len : Nat) (parts : Array (Nat × Operand)) (ho : o.op = .buildSlice t len parts)
    (vs : List Value) (hu : P.underlying t = some (.slice e)) (hsz : (P.info? e).map (·.size) = some 1) (hz : ((P.info? e).bind (·.zero)).isSome = true)
    (hlen : len = vs.length) (hpos : 0 < len) (hsmall : len ≤ 2 ^ 24) (h1 : ∀ v ∈ vs, v.cells = #[v])
    (hparts : parts.toList.map (fun x => (x.1, a.eval x.2)) = (vs.zipIdx 0).map fun x => (x.2, x.1))
    (h : wpList P ops Q rest (a.put o.dst (.slice (some ⟨w.heap.size, 0, none⟩) len len)) (w.alloc (.cells vs.toArray e))) : wpList P ops Q (o :: rest) a w := by
  cases hie : P.info? e with
  | none => simp [hie] at hsz
  | some ie =>
    simp only [hie, Option.map_some, Option.some.injEq, Option.bind_some] at hsz hz
    obtain ⟨z, hzz⟩ := Option.isSome_iff_exists.1 hz
    refine wpList_buildSlice hg t e len parts ho _ ie z hu hie hzz (by rw [hsz]; omega) (by rw [hsz]; omega) ?_ h
    rw [Array.toList_map, hparts, hsz]
    exact Great.fill_flat _ _ h1 (by simp [hlen])

/-- What 'make' lays. -/
theorem made_zeros (n : Nat) : madeCells #[.int .u8 0] n = (Lib.byteCells (List.replicate n 0)).toArray := by
  apply Array.ext
  · simp [madeCells, Lib.byteCells]
  · intro i h1 h2
    have hi : i % 1 = 0 := Nat.mod_one i
    simp [madeCells, Lib.byteCells, hi]

end Go.Proofs.YtblgmnjegkfoaaaGreat

namespace Go.Proofs.YtblgmnjegkfoaaaGreat
open Go.RowKit
set_option linter.unusedVariables false
set_option linter.unusedSimpArgs false

theorem nd_fill_mid (place : Nat → Option (Nat × Nat)) (cells : Array Value) (i off : Nat) (l : List Value) (hp : place i = some (off, l.length)) (h : off + l.length ≤ cells.size) :
    Instr.fill place cells [(i, .agg l.toArray)] = some (cells.toList.take off ++ (l ++ cells.toList.drop (off + l.length))).toArray := by
  simp only [Instr.fill, hp, Value.cells, List.size_toArray]
  rw [if_neg (by simp; omega)]
  congr 1
  obtain ⟨g1, g2⟩ := Great.foldl_set off l 0 cells
  have e : (l.toArray.zipIdx.foldl (fun cs (x : Value × Nat) => cs.setIfInBounds (off + x.2) x.1) cells) = ((l.zipIdx 0).foldl (fun cs (x : Value × Nat) => cs.setIfInBounds (off + x.2) x.1) cells) := by
    rw [← Array.foldl_toList, Array.toList_zipIdx]
  show (l.toArray.zipIdx.foldl (fun cs (x : Value × Nat) => cs.setIfInBounds (off + x.2) x.1) cells) = _
  rw [e]
  apply Array.ext_getElem?
  intro k
  rw [g2 k]
  have hto : (cells.toList.take off).length = off := by simp; omega
  simp only [List.getElem?_toArray, Nat.add_zero]
  by_cases hk : off ≤ k
  · rw [List.getElem?_append_right (by omega), hto]
    by_cases hk2 : k < off + l.length
    · rw [if_pos ⟨hk, hk2, by omega⟩, List.getElem?_append_left (by omega)]
    · rw [if_neg (by omega), List.getElem?_append_right (by omega), List.getElem?_drop]
      rw [show off + l.length + (k - off - l.length) = k by omega]
      simp
  · rw [if_neg (by omega), List.getElem?_append_left (by omega)]
    simp [show k < off from by omega]

theorem nd_fill_cons (place : Nat → Option (Nat × Nat)) (cells : Array Value) (x : Nat × Value) (rest : List (Nat × Value)) (c : Array Value) (h : Instr.fill place cells [x] = some c) : Instr.fill place cells (x :: rest) = Instr.fill place c rest := by
  obtain ⟨i, v⟩ := x
  unfold Instr.fill at h ⊢
  cases hp : place i with
  | none => simp [hp] at h
  | some p =>
    obtain ⟨off, n⟩ := p
    simp only [hp] at h ⊢
    split at h
    · cases h
    · rename_i hc
      rw [if_neg hc]
      simp only [Instr.fill] at h
      injection h with h
      rw [h]
      conv => lhs; unfold Instr.fill

/-- The cells of a node: key, from, to, value, nodes, the three of once, digest. -/
def nodeC (key : List UInt8) (f t : Int) (vv nn : Value) (d m s : Int) (dig : List UInt8) : List Value :=
  Lib.byteCells key ++ (.int .i64 f :: .int .i64 t :: vv :: nn :: .int .u32 d :: .int .i32 m :: .int .u32 s :: Lib.byteCells dig)
theorem nodeC_length {key : List UInt8} (f t : Int) (vv nn : Value) (d m s : Int) {dig : List UInt8} (hk : key.length = 32) (hd : dig.length = 32) : (nodeC key f t vv nn d m s dig).length = 71 := by
  simp [nodeC, Lib.byteCells_length, hk, hd]
theorem nodeC_cell (key : List UInt8) (f t : Int) (vv nn : Value) (d m s : Int) (dig : List UInt8) (hv : vv.oneCell' = true) (hn : nn.oneCell' = true) : ∀ v ∈ nodeC key f t vv nn d m s dig, v.oneCell' = true := by
  intro v hv
  simp only [nodeC, List.mem_append, List.mem_cons] at hv
  rcases hv with hv | rfl | rfl | rfl | rfl | rfl | rfl | rfl | hv
  · exact byteCells_one _ v hv
  · rfl
  · rfl
  · assumption
  · assumption
  · rfl
  · rfl
  · rfl
  · exact byteCells_one _ v hv
def z32 : List UInt8 := List.replicate 32 0
def nodeZ : List Value := nodeC z32 0 0 (.slice none 0 0) (.pointer none) 0 0 0 z32
theorem nodeSize : (Tryz.prog.info? 87).map (·.size) = some 71 := by kernel_rfl
theorem node_fill (parts : List (Nat × Value)) : Tryz.prog.built 87 parts = Instr.fill (#[(0, 32), (32, 1), (33, 1), (34, 1), (35, 1), (36, 3), (39, 32)][·]?) nodeZ.toArray parts := by kernel_rfl

theorem node_built_key (key : List UInt8) (KL : List Value) (hK : KL = Lib.byteCells key) (hk : key.length = 32) (rest : List (Nat × Value)) :
    Tryz.prog.built 87 ((0, .agg KL.toArray) :: rest) = Instr.fill (#[(0, 32), (32, 1), (33, 1), (34, 1), (35, 1), (36, 3), (39, 32)][·]?) (nodeC key 0 0 (.slice none 0 0) (.pointer none) 0 0 0 z32).toArray rest := by
  have hl : KL.length = 32 := by rw [hK, Lib.byteCells_length, hk]
  rw [node_fill]
  have h1 := nd_fill_mid (#[(0, 32), (32, 1), (33, 1), (34, 1), (35, 1), (36, 3), (39, 32)][·]?) nodeZ.toArray 0 0 KL (by rw [hl]; rfl) (by rw [hl]; decide +kernel)
  rw [hl] at h1
  have e : (nodeZ.toArray.toList.take 0 ++ (KL ++ nodeZ.toArray.toList.drop (0 + 32)) : List Value) = nodeC key 0 0 (.slice none 0 0) (.pointer none) 0 0 0 z32 := by
    rw [List.take_zero, List.nil_append, hK]; rfl
  rw [e] at h1
  exact nd_fill_cons _ _ _ _ _ h1

theorem wpList_builtT {P : Program} {ops : Array Oper} {rest : List Oper} {o : Oper} {a : Act} {w : World} {Q : Exit → Act → World → Prop} (hg : o.guard = none) (t : TypeId) (parts : Array (Nat × Operand)) (ho : o.op = .build t parts)
    (ps : List (Nat × Value)) (hp : parts.toList.map (fun x => (x.1, a.eval x.2)) = ps) (cells : Array Value) (hf : P.built t ps = some cells)
    (h : wpList P ops Q rest (a.put o.dst (.agg cells)) w) : wpList P ops Q (o :: rest) a w :=
  wpList_buildTo hg t parts ho _ rfl cells (by rw [← hf, ← hp]; simp) h

theorem int_cells (k : IntKind) (n : Int) : (Value.int k n).cells = #[.int k n] := rfl
theorem node_built_leaf (key : List UInt8) (KL : List Value) (hK : KL = Lib.byteCells key) (hk : key.length = 32) (f t : Int) (vv : Value) (hv : vv.cells = #[vv]) :
    Tryz.prog.built 87 [(0, .agg KL.toArray), (1, .int .i64 f), (2, .int .i64 t), (3, vv)] = some (nodeC key f t vv (.pointer none) 0 0 0 z32).toArray := by
  rw [node_built_key key KL hK hk]
  have hl : (Lib.byteCells key).length = 32 := by rw [Lib.byteCells_length, hk]
  have hz : (Lib.byteCells z32).length = 32 := by rw [Lib.byteCells_length]; rfl
  simp [Instr.fill, int_cells, hv, nodeC, List.set_append_right, hl, hz]

theorem node_built_begun (key : List UInt8) (KL : List Value) (hK : KL = Lib.byteCells key) (hk : key.length = 32) (f t : Int) (vv nn : Value) (hv : vv.cells = #[vv]) (hn : nn.cells = #[nn]) :
    Tryz.prog.built 87 [(0, .agg KL.toArray), (1, .int .i64 f), (2, .int .i64 t), (3, vv), (4, nn)] = some (nodeC key f t vv nn 0 0 0 z32).toArray := by
  rw [node_built_key key KL hK hk]
  have hl : (Lib.byteCells key).length = 32 := by rw [Lib.byteCells_length, hk]
  have hz : (Lib.byteCells z32).length = 32 := by rw [Lib.byteCells_length]; rfl
  simp [Instr.fill, int_cells, hv, hn, nodeC, List.set_append_right, hl, hz]

theorem node_built_branch (key : List UInt8) (KL : List Value) (hK : KL = Lib.byteCells key) (hk : key.length = 32) (f t : Int) (nn : Value) (hn : nn.cells = #[nn]) :
    Tryz.prog.built 87 [(0, .agg KL.toArray), (1, .int .i64 f), (2, .int .i64 t), (4, nn)] = some (nodeC key f t (.slice none 0 0) nn 0 0 0 z32).toArray := by
  rw [node_built_key key KL hK hk]
  have hl : (Lib.byteCells key).length = 32 := by rw [Lib.byteCells_length, hk]
  have hz : (Lib.byteCells z32).length = 32 := by rw [Lib.byteCells_length]; rfl
  simp [Instr.fill, int_cells, hn, nodeC, List.set_append_right, hl, hz]

end Go.Proofs.YtblgmnjegkfoaaaGreat

namespace Go.Proofs.YtblgmnjegkfoaaaGreat
open Go.RowKit
set_option linter.unusedVariables false
set_option linter.unusedSimpArgs false

set_option maxHeartbeats 4000000 in
set_option maxRecDepth 100000 in
theorem leaf_run (key : List UInt8) (KL : List Value) (hKL : KL = Lib.byteCells key) (hk : key.length = 32) (f : Int) (A : Option Addr) (n c : Nat) (NL : List Value) (hNL : NL = nodeC key f 64 (.slice A n c) (.pointer none) 0 0 0 z32) (w : World) :
    Calls Tryz.prog 40 #[.agg KL.toArray, .int .i64 f, .slice A n c] w fun e w' => ∃ g, w.heap.size ≤ g ∧ e = .returned (.pointer (some ⟨g, 0, none⟩)) ∧ Arr w' g 87 NL ∧ Below w.heap.size w w' := by
  obtain ⟨W1, hW1⟩ : ∃ W1, W1 = w.alloc (.cells KL.toArray 24) := ⟨_, rfl⟩
  have hA1 : Arr W1 w.heap.size 24 KL := by rw [hW1]; exact Arr.new w _ _
  have hb1 : Below w.heap.size w W1 := by rw [hW1]; exact (Below.refl _ w).alloc (Nat.le_refl _) _
  have hS1 : W1.heap.size = w.heap.size + 1 := by rw [hW1]; simp
  have Hb := Lib.hid (show Tryz.prog.built 87 [(0, .agg KL.toArray), (1, .int .i64 f), (2, .int .i64 64), (3, .slice A n c)] = some NL.toArray by rw [hNL]; exact node_built_leaf key KL hKL hk f 64 _ rfl)
  have hN2 : Arr (W1.alloc (.cells NL.toArray 87)) W1.heap.size 87 NL := Arr.new W1 _ _
  have hb2 : Below w.heap.size w (W1.alloc (.cells NL.toArray 87)) := hb1.alloc (by omega) _
  have hge : w.heap.size ≤ W1.heap.size := by omega
  have Hki := Lib.hid (show (Tryz.prog.info? 24).map (·.size) = some KL.toArray.size by rw [hKL, dig_size hk]; kernel_rfl)
  have HW1 := Lib.hid hW1
  have HA1 := Lib.hid hA1
  clear hW1 hA1 hNL hKL hS1
  go_enter Tryz.func40, Tryz.ntmps40
  go_upto_region 1 with fail
  change Code.wp _ _ _ _ (w.alloc (.cells KL.toArray 24))
  rw [← HW1.out]
  clear HW1
  go_wp2_with (first
    | (refine wpList_load_row rfl _ _ rfl w.heap.size rfl 24 KL.toArray (0, 0) _ HA1.out Tryz.underlying24 rfl Hki.out ?_)
    | (refine wpList_builtT rfl _ _ rfl _ rfl NL.toArray Hb.out ?_))
  go_ret
  exact ⟨W1.heap.size, hge, rfl, hN2, hb2⟩

end Go.Proofs.YtblgmnjegkfoaaaGreat

namespace Go.Proofs.YtblgmnjegkfoaaaGreat
open Go.RowKit
set_option linter.unusedVariables false
set_option linter.unusedSimpArgs false

theorem node_key {w : World} {g : Nat} {key : List UInt8} {f t : Int} {vv nn : Value} {d m s : Int} {dig : List UInt8} {KL NL : List Value} (hN : NL = nodeC key f t vv nn d m s dig) (hK : KL = Lib.byteCells key) (h : Arr w g 87 NL) : w.rangeAt g 0 KL := fun j v hj => by
  rw [Nat.zero_add, h.cell, hN, nodeC, ← hK, List.getElem?_append_left (List.getElem?_eq_some_iff.1 hj).1]; exact hj
theorem node_at {w : World} {g : Nat} {key : List UInt8} {f t : Int} {vv nn : Value} {d m s : Int} {dig : List UInt8} {NL : List Value} (hN : NL = nodeC key f t vv nn d m s dig) (hk : key.length = 32) (h : Arr w g 87 NL) :
    w.cell? ⟨g, 32, none⟩ = some (.int .i64 f) ∧ w.cell? ⟨g, 33, none⟩ = some (.int .i64 t) ∧ w.cell? ⟨g, 34, none⟩ = some vv ∧ w.cell? ⟨g, 35, none⟩ = some nn ∧ w.cell? ⟨g, 36, none⟩ = some (.int .u32 d) ∧ w.cell? ⟨g, 37, none⟩ = some (.int .i32 m) ∧ w.cell? ⟨g, 38, none⟩ = some (.int .u32 s) := by
  have hl : (Lib.byteCells key).length = 32 := by rw [Lib.byteCells_length, hk]
  refine ⟨?_, ?_, ?_, ?_, ?_, ?_, ?_⟩ <;> (rw [h.cell, hN, nodeC, List.getElem?_append_right (by omega), hl]; rfl)
theorem node_dig {w : World} {g : Nat} {key : List UInt8} {f t : Int} {vv nn : Value} {d m s : Int} {dig : List UInt8} {DL NL : List Value} (hN : NL = nodeC key f t vv nn d m s dig) (hk : key.length = 32) (hD : DL = Lib.byteCells dig) (h : Arr w g 87 NL) : w.rangeAt g 39 DL := fun j v hj => by
  have hl : (Lib.byteCells key).length = 32 := by rw [Lib.byteCells_length, hk]
  rw [h.cell, hN, nodeC, ← hD, List.getElem?_append_right (by omega), hl]
  have e : 39 + j - 32 = j + 7 := by omega
  rw [e]; exact hj

set_option maxHeartbeats 8000000 in
set_option maxRecDepth 100000 in
theorem leafOf_leaf (key key2 : List UInt8) (KL K2 : List Value) (hKL : KL = Lib.byteCells key) (hK2 : K2 = Lib.byteCells key2) (hk : key.length = 32) (hk2 : key2.length = 32) (g : Nat) (f t : Int) (vv : Value) (d m s : Int) (dig : List UInt8) (NL : List Value) (hNL : NL = nodeC key f t vv (.pointer none) d m s dig) (w : World) (hN : Arr w g 87 NL) :
    Calls Tryz.prog 36 #[.pointer (some ⟨g, 0, none⟩), .agg K2.toArray] w fun e w' => e = .returned (.bool (decide (key = key2))) ∧ Below w.heap.size w w' := by
  obtain ⟨W1, hW1⟩ : ∃ W1, W1 = w.alloc (.cells K2.toArray 24) := ⟨_, rfl⟩
  have hA1 : Arr W1 w.heap.size 24 K2 := by rw [hW1]; exact Arr.new w _ _
  have hN1 : Arr W1 g 87 NL := by rw [hW1]; exact hN.alloc _
  have hb1 : Below w.heap.size w W1 := by rw [hW1]; exact (Below.refl _ w).alloc (Nat.le_refl _) _
  have Hkey : Hid (∀ w' : World, Arr w' g 87 NL → w'.rangeAt g 0 KL) := fun w' h => node_key hNL hKL h
  have Hnn : Hid (∀ w' : World, Arr w' g 87 NL → w'.cell? ⟨g, 35, none⟩ = some (.pointer none)) := fun w' h => (node_at hNL hk h).2.2.2.1
  have Hki := Lib.hid (show (Tryz.prog.info? 24).map (·.size) = some KL.length by rw [hKL, Lib.byteCells_length, hk]; kernel_rfl)
  have Hk2 := Lib.hid (show (Tryz.prog.info? 24).map (·.size) = some K2.length by rw [hK2, Lib.byteCells_length, hk2]; kernel_rfl)
  obtain ⟨r, hr⟩ : ∃ r, decide (key = key2) = r := ⟨_, rfl⟩
  have Hcmp : Hid (∀ w, (Op.equalIn 10000 24 (.agg KL.toArray) (.agg K2.toArray)).run Tryz.prog w = .ok r w) := fun w => by rw [← hr]; exact eqv_at Tryz.underlying24 key key2 hk hk2 KL K2 hKL hK2 w
  have HW1 := Lib.hid hW1
  clear hW1 hNL hKL hK2 hN
  rw [hr]
  clear hr
  go_enter Tryz.func36, Tryz.ntmps36
  go_upto_region 1 with fail
  change Code.wp _ _ _ _ (w.alloc (.cells K2.toArray 24))
  rw [← HW1.out]
  clear HW1
  refine wp_region_held_drew (S := fun w' => Arr w' g 87 NL ∧ Arr w' w.heap.size 24 K2) (by kernel_rfl) ⟨hN1.drewN 1, hA1.drewN 1⟩ (fun hHeld => ?_)
  refine anyH_take (i := 0) (v := .pointer (some ⟨g, 0, none⟩)) (some 5) rfl rfl (by kernel_rfl) (by kernel_rfl) (by kernel_rfl) (fun _ _ _ h => h) (Or.inl ⟨by rfl, fun w' hw => by rfl⟩) (by assumption) ?_
  simp only [Act.put, List.setIfInBounds_toArray, List.set_cons_zero, List.set_cons_succ]
  refine anyH_take (i := 1) (v := .pointer (some ⟨g, 0, none⟩)) (some 6) rfl rfl (by kernel_rfl) (by kernel_rfl) (by kernel_rfl) (fun _ _ _ h => h) (Or.inl ⟨by rfl, fun w' hw => by go_simp⟩) (by assumption) ?_
  simp only [Act.put, List.setIfInBounds_toArray, List.set_cons_zero, List.set_cons_succ]
  refine anyH_take (i := 2) (v := .pointer (some ⟨g, 35, none⟩)) (some 7) rfl rfl (by kernel_rfl) (by kernel_rfl) (by kernel_rfl) (fun _ _ _ h => h) (Or.inl ⟨by rfl, fun w' hw => by go_simp⟩) (by assumption) ?_
  simp only [Act.put, List.setIfInBounds_toArray, List.set_cons_zero, List.set_cons_succ]
  refine anyH_take (i := 3) (v := .pointer none) (some 8) rfl rfl (by kernel_rfl) (by kernel_rfl) (by kernel_rfl) (fun _ _ _ h => h) (Or.inl ⟨by rfl, fun w' hw => by (have hc := Hnn.out w' hw.1; go_simp)⟩) (by assumption) ?_
  simp only [Act.put, List.setIfInBounds_toArray, List.set_cons_zero, List.set_cons_succ]
  refine anyH_take (i := 4) (v := .bool true) (some 9) rfl rfl (by kernel_rfl) (by kernel_rfl) (by kernel_rfl) (fun _ _ _ h => h) (Or.inl ⟨by rfl, fun w' hw => by go_simp⟩) (by assumption) ?_
  simp only [Act.put, List.setIfInBounds_toArray, List.set_cons_zero, List.set_cons_succ]
  refine anyH_take (i := 5) (v := .bool true) (some 10) rfl rfl (by kernel_rfl) (by kernel_rfl) (by kernel_rfl) (fun _ _ _ h => h) (Or.inl ⟨by rfl, fun w' hw => by rfl⟩) (by assumption) ?_
  simp only [Act.put, List.setIfInBounds_toArray, List.set_cons_zero, List.set_cons_succ]
  refine anyH_take (i := 6) (v := .pointer (some ⟨g, 0, none⟩)) (some 11) rfl rfl (by kernel_rfl) (by kernel_rfl) (by kernel_rfl) (fun _ _ _ h => h) (Or.inl ⟨by rfl, fun w' hw => by rfl⟩) (by assumption) ?_
  simp only [Act.put, List.setIfInBounds_toArray, List.set_cons_zero, List.set_cons_succ]
  refine anyH_take (i := 7) (v := .pointer (some ⟨g, 0, none⟩)) (some 12) rfl rfl (by kernel_rfl) (by kernel_rfl) (by kernel_rfl) (fun _ _ _ h => h) (Or.inl ⟨by rfl, fun w' hw => by go_simp⟩) (by assumption) ?_
  simp only [Act.put, List.setIfInBounds_toArray, List.set_cons_zero, List.set_cons_succ]
  refine anyH_take (i := 8) (v := .pointer (some ⟨g, 0, none⟩)) (some 13) rfl rfl (by kernel_rfl) (by kernel_rfl) (by kernel_rfl) (fun _ _ _ h => h) (Or.inl ⟨by rfl, fun w' hw => by go_simp⟩) (by assumption) ?_
  simp only [Act.put, List.setIfInBounds_toArray, List.set_cons_zero, List.set_cons_succ]
  refine anyH_take (i := 9) (some 14) rfl rfl (by kernel_rfl) (by kernel_rfl) (by kernel_rfl) (fun _ _ _ h => h) (yieldsIf_load_mid (by rfl) 24 (.tmp 13) rfl g 0 rfl KL _ (fun w' h => Hkey.out w' h.1) Tryz.underlying24 rfl Hki.out) (by assumption) ?_
  simp only [Act.put, List.setIfInBounds_toArray, List.set_cons_zero, List.set_cons_succ]
  refine anyH_take (i := 10) (some 15) rfl rfl (by kernel_rfl) (by kernel_rfl) (by kernel_rfl) (fun _ _ _ h => h) (yieldsIf_load_mid (by rfl) 24 (.tmp 3) rfl w.heap.size 0 rfl K2 _ (fun w' h => h.2.range) Tryz.underlying24 rfl Hk2.out) (by assumption) ?_
  simp only [Act.put, List.setIfInBounds_toArray, List.set_cons_zero, List.set_cons_succ]
  refine anyH_take (i := 11) (v := .bool r) (some 16) rfl rfl (by kernel_rfl) (by kernel_rfl) (by kernel_rfl) (fun _ _ _ h => h) (Or.inl ⟨by rfl, fun w' hw => by (have hc := Hcmp.out; have hg := gt32; go_simp)⟩) (by assumption) ?_
  simp only [Act.put, List.setIfInBounds_toArray, List.set_cons_zero, List.set_cons_succ]
  refine anyH_take (i := 12) (v := .bool r) (some 17) rfl rfl (by kernel_rfl) (by kernel_rfl) (by kernel_rfl) (fun _ _ _ h => h) (Or.inl ⟨by rfl, fun w' hw => by go_simp⟩) (by assumption) ?_
  simp only [Act.put, List.setIfInBounds_toArray, List.set_cons_zero, List.set_cons_succ]
  refine anyH_take (i := 13) (v := .bool r) (some 4) rfl rfl (by kernel_rfl) (by kernel_rfl) (by kernel_rfl) (fun _ _ _ h => h) (Or.inl ⟨by rfl, fun w' hw => by go_simp⟩) (by assumption) ?_
  simp only [Act.put, List.setIfInBounds_toArray, List.set_cons_zero, List.set_cons_succ]
  refine wpAnyH_done (by kernel_rfl) ?_ _
  go_wp2
  go_ret
  exact ⟨rfl, Below.dN hb1 1⟩

set_option maxHeartbeats 8000000 in
set_option maxRecDepth 100000 in
theorem leafOf_branch (key key2 : List UInt8) (KL K2 : List Value) (hKL : KL = Lib.byteCells key) (hK2 : K2 = Lib.byteCells key2) (hk : key.length = 32) (hk2 : key2.length = 32) (g : Nat) (gn : Nat) (f t : Int) (vv : Value) (d m s : Int) (dig : List UInt8) (NL : List Value) (hNL : NL = nodeC key f t vv (.pointer (some ⟨gn, 0, none⟩)) d m s dig) (w : World) (hN : Arr w g 87 NL) :
    Calls Tryz.prog 36 #[.pointer (some ⟨g, 0, none⟩), .agg K2.toArray] w fun e w' => e = .returned (.bool (false)) ∧ Below w.heap.size w w' := by
  obtain ⟨W1, hW1⟩ : ∃ W1, W1 = w.alloc (.cells K2.toArray 24) := ⟨_, rfl⟩
  have hA1 : Arr W1 w.heap.size 24 K2 := by rw [hW1]; exact Arr.new w _ _
  have hN1 : Arr W1 g 87 NL := by rw [hW1]; exact hN.alloc _
  have hb1 : Below w.heap.size w W1 := by rw [hW1]; exact (Below.refl _ w).alloc (Nat.le_refl _) _
  have Hkey : Hid (∀ w' : World, Arr w' g 87 NL → w'.rangeAt g 0 KL) := fun w' h => node_key hNL hKL h
  have Hnn : Hid (∀ w' : World, Arr w' g 87 NL → w'.cell? ⟨g, 35, none⟩ = some (.pointer (some ⟨gn, 0, none⟩))) := fun w' h => (node_at hNL hk h).2.2.2.1
  have Hki := Lib.hid (show (Tryz.prog.info? 24).map (·.size) = some KL.length by rw [hKL, Lib.byteCells_length, hk]; kernel_rfl)
  have Hk2 := Lib.hid (show (Tryz.prog.info? 24).map (·.size) = some K2.length by rw [hK2, Lib.byteCells_length, hk2]; kernel_rfl)
  obtain ⟨r, hr⟩ : ∃ r, decide (key = key2) = r := ⟨_, rfl⟩
  have Hcmp : Hid (∀ w, (Op.equalIn 10000 24 (.agg KL.toArray) (.agg K2.toArray)).run Tryz.prog w = .ok r w) := fun w => by rw [← hr]; exact eqv_at Tryz.underlying24 key key2 hk hk2 KL K2 hKL hK2 w
  have HW1 := Lib.hid hW1
  clear hW1 hNL hKL hK2 hN
  clear hr
  go_enter Tryz.func36, Tryz.ntmps36
  go_upto_region 1 with fail
  change Code.wp _ _ _ _ (w.alloc (.cells K2.toArray 24))
  rw [← HW1.out]
  clear HW1
  refine wp_region_held_drew (S := fun w' => Arr w' g 87 NL ∧ Arr w' w.heap.size 24 K2) (by kernel_rfl) ⟨hN1.drewN 1, hA1.drewN 1⟩ (fun hHeld => ?_)
  refine anyH_take (i := 0) (v := .pointer (some ⟨g, 0, none⟩)) (some 5) rfl rfl (by kernel_rfl) (by kernel_rfl) (by kernel_rfl) (fun _ _ _ h => h) (Or.inl ⟨by rfl, fun w' hw => by rfl⟩) (by assumption) ?_
  simp only [Act.put, List.setIfInBounds_toArray, List.set_cons_zero, List.set_cons_succ]
  refine anyH_take (i := 1) (v := .pointer (some ⟨g, 0, none⟩)) (some 6) rfl rfl (by kernel_rfl) (by kernel_rfl) (by kernel_rfl) (fun _ _ _ h => h) (Or.inl ⟨by rfl, fun w' hw => by go_simp⟩) (by assumption) ?_
  simp only [Act.put, List.setIfInBounds_toArray, List.set_cons_zero, List.set_cons_succ]
  refine anyH_take (i := 2) (v := .pointer (some ⟨g, 35, none⟩)) (some 7) rfl rfl (by kernel_rfl) (by kernel_rfl) (by kernel_rfl) (fun _ _ _ h => h) (Or.inl ⟨by rfl, fun w' hw => by go_simp⟩) (by assumption) ?_
  simp only [Act.put, List.setIfInBounds_toArray, List.set_cons_zero, List.set_cons_succ]
  refine anyH_take (i := 3) (v := .pointer (some ⟨gn, 0, none⟩)) (some 8) rfl rfl (by kernel_rfl) (by kernel_rfl) (by kernel_rfl) (fun _ _ _ h => h) (Or.inl ⟨by rfl, fun w' hw => by (have hc := Hnn.out w' hw.1; go_simp)⟩) (by assumption) ?_
  simp only [Act.put, List.setIfInBounds_toArray, List.set_cons_zero, List.set_cons_succ]
  refine anyH_take (i := 4) (v := .bool false) (some 9) rfl rfl (by kernel_rfl) (by kernel_rfl) (by kernel_rfl) (fun _ _ _ h => h) (Or.inl ⟨by rfl, fun w' hw => by go_simp⟩) (by assumption) ?_
  simp only [Act.put, List.setIfInBounds_toArray, List.set_cons_zero, List.set_cons_succ]
  refine anyH_take (i := 5) (v := .bool false) (some 10) rfl rfl (by kernel_rfl) (by kernel_rfl) (by kernel_rfl) (fun _ _ _ h => h) (Or.inl ⟨by rfl, fun w' hw => by rfl⟩) (by assumption) ?_
  simp only [Act.put, List.setIfInBounds_toArray, List.set_cons_zero, List.set_cons_succ]
  refine anyH_take (i := 6) (v := undef) (some 11) rfl rfl (by kernel_rfl) (by kernel_rfl) (by kernel_rfl) (fun _ _ _ h => h) (Or.inr ⟨by rfl, rfl⟩) (by assumption) ?_
  simp only [Act.put, List.setIfInBounds_toArray, List.set_cons_zero, List.set_cons_succ]
  refine anyH_take (i := 7) (v := undef) (some 12) rfl rfl (by kernel_rfl) (by kernel_rfl) (by kernel_rfl) (fun _ _ _ h => h) (Or.inr ⟨by rfl, rfl⟩) (by assumption) ?_
  simp only [Act.put, List.setIfInBounds_toArray, List.set_cons_zero, List.set_cons_succ]
  refine anyH_take (i := 8) (v := undef) (some 13) rfl rfl (by kernel_rfl) (by kernel_rfl) (by kernel_rfl) (fun _ _ _ h => h) (Or.inr ⟨by rfl, rfl⟩) (by assumption) ?_
  simp only [Act.put, List.setIfInBounds_toArray, List.set_cons_zero, List.set_cons_succ]
  refine anyH_take (i := 9) (v := undef) (some 14) rfl rfl (by kernel_rfl) (by kernel_rfl) (by kernel_rfl) (fun _ _ _ h => h) (Or.inr ⟨by rfl, rfl⟩) (by assumption) ?_
  simp only [Act.put, List.setIfInBounds_toArray, List.set_cons_zero, List.set_cons_succ]
  refine anyH_take (i := 10) (v := undef) (some 15) rfl rfl (by kernel_rfl) (by kernel_rfl) (by kernel_rfl) (fun _ _ _ h => h) (Or.inr ⟨by rfl, rfl⟩) (by assumption) ?_
  simp only [Act.put, List.setIfInBounds_toArray, List.set_cons_zero, List.set_cons_succ]
  refine anyH_take (i := 11) (v := undef) (some 16) rfl rfl (by kernel_rfl) (by kernel_rfl) (by kernel_rfl) (fun _ _ _ h => h) (Or.inr ⟨by rfl, rfl⟩) (by assumption) ?_
  simp only [Act.put, List.setIfInBounds_toArray, List.set_cons_zero, List.set_cons_succ]
  refine anyH_take (i := 12) (v := .bool false) (some 17) rfl rfl (by kernel_rfl) (by kernel_rfl) (by kernel_rfl) (fun _ _ _ h => h) (Or.inl ⟨by rfl, fun w' hw => by go_simp⟩) (by assumption) ?_
  simp only [Act.put, List.setIfInBounds_toArray, List.set_cons_zero, List.set_cons_succ]
  refine anyH_take (i := 13) (v := .bool false) (some 4) rfl rfl (by kernel_rfl) (by kernel_rfl) (by kernel_rfl) (fun _ _ _ h => h) (Or.inl ⟨by rfl, fun w' hw => by go_simp⟩) (by assumption) ?_
  simp only [Act.put, List.setIfInBounds_toArray, List.set_cons_zero, List.set_cons_succ]
  refine wpAnyH_done (by kernel_rfl) ?_ _
  go_wp2
  go_ret
  exact ⟨rfl, Below.dN hb1 1⟩

end Go.Proofs.YtblgmnjegkfoaaaGreat

namespace Go.Proofs.YtblgmnjegkfoaaaGreat
open Go.RowKit
set_option linter.unusedVariables false
set_option linter.unusedSimpArgs false

set_option maxHeartbeats 8000000 in
set_option maxRecDepth 100000 in
theorem next_leaf (key key2 : List UInt8) (KL K2 : List Value) (hKL : KL = Lib.byteCells key) (hK2 : K2 = Lib.byteCells key2) (hk : key.length = 32) (hk2 : key2.length = 32) (g : Nat) (f : Int) (t : Nat) (vv : Value) (d m s : Int) (dig : List UInt8) (NL : List Value) (hNL : NL = nodeC key f (t : Nat) vv (.pointer none) d m s dig) (w : World) (hN : Arr w g 87 NL) :
    Calls Tryz.prog 54 #[.pointer (some ⟨g, 0, none⟩), .agg K2.toArray] w fun e w' => e = .returned (.pointer none) ∧ Below w.heap.size w w' := by
  obtain ⟨W1, hW1⟩ : ∃ W1, W1 = w.alloc (.cells K2.toArray 24) := ⟨_, rfl⟩
  have hA1 : Arr W1 w.heap.size 24 K2 := by rw [hW1]; exact Arr.new w _ _
  have hN1 : Arr W1 g 87 NL := by rw [hW1]; exact hN.alloc _
  have hb1 : Below w.heap.size w W1 := by rw [hW1]; exact (Below.refl _ w).alloc (Nat.le_refl _) _
  have Hkey : Hid (∀ w' : World, Arr w' g 87 NL → w'.rangeAt g 0 KL) := fun w' h => node_key hNL hKL h
  have Hnn : Hid (∀ w' : World, Arr w' g 87 NL → w'.cell? ⟨g, 35, none⟩ = some (.pointer none)) := fun w' h => (node_at hNL hk h).2.2.2.1
  have Hto : Hid (∀ w' : World, Arr w' g 87 NL → w'.cell? ⟨g, 33, none⟩ = some (.int .i64 (t : Nat))) := fun w' h => (node_at hNL hk h).2.1
  have Hki := Lib.hid (show (Tryz.prog.info? 24).map (·.size) = some KL.length by rw [hKL, Lib.byteCells_length, hk]; kernel_rfl)
  have Hk2 := Lib.hid (show (Tryz.prog.info? 24).map (·.size) = some K2.length by rw [hK2, Lib.byteCells_length, hk2]; kernel_rfl)
  have HW1 := Lib.hid hW1
  have HKL := Lib.hid hKL
  have HK2 := Lib.hid hK2
  clear hW1 hNL hKL hK2 hN
  go_enter Tryz.func54, Tryz.ntmps54
  go_upto_region 1 with fail
  change Code.wp _ _ _ _ (w.alloc (.cells K2.toArray 24))
  rw [← HW1.out]
  clear HW1
  refine wp_region_held_drew (S := fun w' => Arr w' g 87 NL ∧ Arr w' w.heap.size 24 K2) (by kernel_rfl) ⟨hN1.drewN 1, hA1.drewN 1⟩ (fun hHeld => ?_)
  refine anyH_take (i := 0) (v := .pointer (some ⟨g, 0, none⟩)) (some 5) rfl rfl (by kernel_rfl) (by kernel_rfl) (by kernel_rfl) (fun _ _ _ h => h) (Or.inl ⟨by rfl, fun w' hw => by rfl⟩) (by assumption) ?_
  simp only [Act.put, List.setIfInBounds_toArray, List.set_cons_zero, List.set_cons_succ]
  refine anyH_take (i := 1) (v := .pointer (some ⟨g, 0, none⟩)) (some 6) rfl rfl (by kernel_rfl) (by kernel_rfl) (by kernel_rfl) (fun _ _ _ h => h) (Or.inl ⟨by rfl, fun w' hw => by go_simp⟩) (by assumption) ?_
  simp only [Act.put, List.setIfInBounds_toArray, List.set_cons_zero, List.set_cons_succ]
  refine anyH_take (i := 2) (v := .pointer (some ⟨g, 35, none⟩)) (some 7) rfl rfl (by kernel_rfl) (by kernel_rfl) (by kernel_rfl) (fun _ _ _ h => h) (Or.inl ⟨by rfl, fun w' hw => by go_simp⟩) (by assumption) ?_
  simp only [Act.put, List.setIfInBounds_toArray, List.set_cons_zero, List.set_cons_succ]
  refine anyH_take (i := 3) (v := .pointer none) (some 8) rfl rfl (by kernel_rfl) (by kernel_rfl) (by kernel_rfl) (fun _ _ _ h => h) (Or.inl ⟨by rfl, fun w' hw => by (have hc := Hnn.out w' hw.1; go_simp)⟩) (by assumption) ?_
  simp only [Act.put, List.setIfInBounds_toArray, List.set_cons_zero, List.set_cons_succ]
  refine anyH_take (i := 4) (v := .bool true) (some 9) rfl rfl (by kernel_rfl) (by kernel_rfl) (by kernel_rfl) (fun _ _ _ h => h) (Or.inl ⟨by rfl, fun w' hw => by go_simp⟩) (by assumption) ?_
  simp only [Act.put, List.setIfInBounds_toArray, List.set_cons_zero, List.set_cons_succ]
  refine anyH_take (i := 5) (v := .bool true) (some 10) rfl rfl (by kernel_rfl) (by kernel_rfl) (by kernel_rfl) (fun _ _ _ h => h) (Or.inl ⟨by rfl, fun w' hw => by rfl⟩) (by assumption) ?_
  simp only [Act.put, List.setIfInBounds_toArray, List.set_cons_zero, List.set_cons_succ]
  refine anyH_take (i := 6) (v := undef) (some 11) rfl rfl (by kernel_rfl) (by kernel_rfl) (by kernel_rfl) (fun _ _ _ h => h) (Or.inr ⟨by rfl, rfl⟩) (by assumption) ?_
  simp only [Act.put, List.setIfInBounds_toArray, List.set_cons_zero, List.set_cons_succ]
  refine anyH_take (i := 7) (v := undef) (some 12) rfl rfl (by kernel_rfl) (by kernel_rfl) (by kernel_rfl) (fun _ _ _ h => h) (Or.inr ⟨by rfl, rfl⟩) (by assumption) ?_
  simp only [Act.put, List.setIfInBounds_toArray, List.set_cons_zero, List.set_cons_succ]
  refine anyH_take (i := 8) (v := undef) (some 13) rfl rfl (by kernel_rfl) (by kernel_rfl) (by kernel_rfl) (fun _ _ _ h => h) (Or.inr ⟨by rfl, rfl⟩) (by assumption) ?_
  simp only [Act.put, List.setIfInBounds_toArray, List.set_cons_zero, List.set_cons_succ]
  refine anyH_take (i := 9) (v := undef) (some 14) rfl rfl (by kernel_rfl) (by kernel_rfl) (by kernel_rfl) (fun _ _ _ h => h) (Or.inr ⟨by rfl, rfl⟩) (by assumption) ?_
  simp only [Act.put, List.setIfInBounds_toArray, List.set_cons_zero, List.set_cons_succ]
  refine anyH_take (i := 10) (v := undef) (some 15) rfl rfl (by kernel_rfl) (by kernel_rfl) (by kernel_rfl) (fun _ _ _ h => h) (Or.inr ⟨by rfl, rfl⟩) (by assumption) ?_
  simp only [Act.put, List.setIfInBounds_toArray, List.set_cons_zero, List.set_cons_succ]
  refine anyH_take (i := 11) (v := undef) (some 16) rfl rfl (by kernel_rfl) (by kernel_rfl) (by kernel_rfl) (fun _ _ _ h => h) (Or.inr ⟨by rfl, rfl⟩) (by assumption) ?_
  simp only [Act.put, List.setIfInBounds_toArray, List.set_cons_zero, List.set_cons_succ]
  refine anyH_take (i := 12) (v := undef) (some 17) rfl rfl (by kernel_rfl) (by kernel_rfl) (by kernel_rfl) (fun _ _ _ h => h) (Or.inr ⟨by rfl, rfl⟩) (by assumption) ?_
  simp only [Act.put, List.setIfInBounds_toArray, List.set_cons_zero, List.set_cons_succ]
  refine anyH_take (i := 13) (v := undef) (some 18) rfl rfl (by kernel_rfl) (by kernel_rfl) (by kernel_rfl) (fun _ _ _ h => h) (Or.inr ⟨by rfl, rfl⟩) (by assumption) ?_
  simp only [Act.put, List.setIfInBounds_toArray, List.set_cons_zero, List.set_cons_succ]
  refine anyH_take (i := 14) (v := undef) (some 19) rfl rfl (by kernel_rfl) (by kernel_rfl) (by kernel_rfl) (fun _ _ _ h => h) (Or.inr ⟨by rfl, rfl⟩) (by assumption) ?_
  simp only [Act.put, List.setIfInBounds_toArray, List.set_cons_zero, List.set_cons_succ]
  refine anyH_take (i := 15) (v := undef) (some 20) rfl rfl (by kernel_rfl) (by kernel_rfl) (by kernel_rfl) (fun _ _ _ h => h) (Or.inr ⟨by rfl, rfl⟩) (by assumption) ?_
  simp only [Act.put, List.setIfInBounds_toArray, List.set_cons_zero, List.set_cons_succ]
  refine anyH_take (i := 16) (v := undef) (some 21) rfl rfl (by kernel_rfl) (by kernel_rfl) (by kernel_rfl) (fun _ _ _ h => h) (Or.inr ⟨by rfl, rfl⟩) (by assumption) ?_
  simp only [Act.put, List.setIfInBounds_toArray, List.set_cons_zero, List.set_cons_succ]
  refine anyH_take (i := 17) (v := .bool true) (some 22) rfl rfl (by kernel_rfl) (by kernel_rfl) (by kernel_rfl) (fun _ _ _ h => h) (Or.inl ⟨by rfl, fun w' hw => by go_simp⟩) (by assumption) ?_
  simp only [Act.put, List.setIfInBounds_toArray, List.set_cons_zero, List.set_cons_succ]
  refine wpAnyH_done (by kernel_rfl) ?_ _
  go_wp2
  go_ret
  exact ⟨rfl, Below.dN hb1 1⟩

set_option maxHeartbeats 8000000 in
set_option maxRecDepth 100000 in
theorem next_off (key key2 : List UInt8) (KL K2 : List Value) (hKL : KL = Lib.byteCells key) (hK2 : K2 = Lib.byteCells key2) (hk : key.length = 32) (hk2 : key2.length = 32) (g : Nat) (gn : Nat) (f : Int) (t : Nat) (vv : Value) (d m s : Int) (dig : List UInt8) (NL : List Value) (hNL : NL = nodeC key f (t : Nat) vv (.pointer (some ⟨gn, 0, none⟩)) d m s dig) (w : World) (hN : Arr w g 87 NL) (r : Nat) (hr : commF key key2 = r) (hrt : r < t) (ht : t ≤ 64) :
    Calls Tryz.prog 54 #[.pointer (some ⟨g, 0, none⟩), .agg K2.toArray] w fun e w' => e = .returned (.pointer none) ∧ Below w.heap.size w w' := by
  obtain ⟨W1, hW1⟩ : ∃ W1, W1 = w.alloc (.cells K2.toArray 24) := ⟨_, rfl⟩
  have hA1 : Arr W1 w.heap.size 24 K2 := by rw [hW1]; exact Arr.new w _ _
  have hN1 : Arr W1 g 87 NL := by rw [hW1]; exact hN.alloc _
  have hb1 : Below w.heap.size w W1 := by rw [hW1]; exact (Below.refl _ w).alloc (Nat.le_refl _) _
  have Hkey : Hid (∀ w' : World, Arr w' g 87 NL → w'.rangeAt g 0 KL) := fun w' h => node_key hNL hKL h
  have Hnn : Hid (∀ w' : World, Arr w' g 87 NL → w'.cell? ⟨g, 35, none⟩ = some (.pointer (some ⟨gn, 0, none⟩))) := fun w' h => (node_at hNL hk h).2.2.2.1
  have Hto : Hid (∀ w' : World, Arr w' g 87 NL → w'.cell? ⟨g, 33, none⟩ = some (.int .i64 (t : Nat))) := fun w' h => (node_at hNL hk h).2.1
  have Hki := Lib.hid (show (Tryz.prog.info? 24).map (·.size) = some KL.length by rw [hKL, Lib.byteCells_length, hk]; kernel_rfl)
  have Hk2 := Lib.hid (show (Tryz.prog.info? 24).map (·.size) = some K2.length by rw [hK2, Lib.byteCells_length, hk2]; kernel_rfl)
  have HW1 := Lib.hid hW1
  have HKL := Lib.hid hKL
  have HK2 := Lib.hid hK2
  have Hr := Lib.hid hr
  have hd1 : decide ((r : Int) < (t : Int)) = true := by simp; omega
  clear hW1 hNL hKL hK2 hN hr
  go_enter Tryz.func54, Tryz.ntmps54
  go_upto_region 1 with fail
  change Code.wp _ _ _ _ (w.alloc (.cells K2.toArray 24))
  rw [← HW1.out]
  clear HW1
  refine wp_region_held_drew (S := fun w' => Arr w' g 87 NL ∧ Arr w' w.heap.size 24 K2) (by kernel_rfl) ⟨hN1.drewN 1, hA1.drewN 1⟩ (fun hHeld => ?_)
  refine anyH_take (i := 0) (v := .pointer (some ⟨g, 0, none⟩)) (some 5) rfl rfl (by kernel_rfl) (by kernel_rfl) (by kernel_rfl) (fun _ _ _ h => h) (Or.inl ⟨by rfl, fun w' hw => by rfl⟩) (by assumption) ?_
  simp only [Act.put, List.setIfInBounds_toArray, List.set_cons_zero, List.set_cons_succ]
  refine anyH_take (i := 1) (v := .pointer (some ⟨g, 0, none⟩)) (some 6) rfl rfl (by kernel_rfl) (by kernel_rfl) (by kernel_rfl) (fun _ _ _ h => h) (Or.inl ⟨by rfl, fun w' hw => by go_simp⟩) (by assumption) ?_
  simp only [Act.put, List.setIfInBounds_toArray, List.set_cons_zero, List.set_cons_succ]
  refine anyH_take (i := 2) (v := .pointer (some ⟨g, 35, none⟩)) (some 7) rfl rfl (by kernel_rfl) (by kernel_rfl) (by kernel_rfl) (fun _ _ _ h => h) (Or.inl ⟨by rfl, fun w' hw => by go_simp⟩) (by assumption) ?_
  simp only [Act.put, List.setIfInBounds_toArray, List.set_cons_zero, List.set_cons_succ]
  refine anyH_take (i := 3) (v := .pointer (some ⟨gn, 0, none⟩)) (some 8) rfl rfl (by kernel_rfl) (by kernel_rfl) (by kernel_rfl) (fun _ _ _ h => h) (Or.inl ⟨by rfl, fun w' hw => by (have hc := Hnn.out w' hw.1; go_simp)⟩) (by assumption) ?_
  simp only [Act.put, List.setIfInBounds_toArray, List.set_cons_zero, List.set_cons_succ]
  refine anyH_take (i := 4) (v := .bool false) (some 9) rfl rfl (by kernel_rfl) (by kernel_rfl) (by kernel_rfl) (fun _ _ _ h => h) (Or.inl ⟨by rfl, fun w' hw => by go_simp⟩) (by assumption) ?_
  simp only [Act.put, List.setIfInBounds_toArray, List.set_cons_zero, List.set_cons_succ]
  refine anyH_take (i := 5) (v := .bool false) (some 10) rfl rfl (by kernel_rfl) (by kernel_rfl) (by kernel_rfl) (fun _ _ _ h => h) (Or.inl ⟨by rfl, fun w' hw => by rfl⟩) (by assumption) ?_
  simp only [Act.put, List.setIfInBounds_toArray, List.set_cons_zero, List.set_cons_succ]
  refine anyH_take (i := 6) (v := .pointer (some ⟨g, 0, none⟩)) (some 11) rfl rfl (by kernel_rfl) (by kernel_rfl) (by kernel_rfl) (fun _ _ _ h => h) (Or.inl ⟨by rfl, fun w' hw => by rfl⟩) (by assumption) ?_
  simp only [Act.put, List.setIfInBounds_toArray, List.set_cons_zero, List.set_cons_succ]
  refine anyH_take (i := 7) (v := .pointer (some ⟨g, 0, none⟩)) (some 12) rfl rfl (by kernel_rfl) (by kernel_rfl) (by kernel_rfl) (fun _ _ _ h => h) (Or.inl ⟨by rfl, fun w' hw => by go_simp⟩) (by assumption) ?_
  simp only [Act.put, List.setIfInBounds_toArray, List.set_cons_zero, List.set_cons_succ]
  refine anyH_take (i := 8) (v := .pointer (some ⟨g, 0, none⟩)) (some 13) rfl rfl (by kernel_rfl) (by kernel_rfl) (by kernel_rfl) (fun _ _ _ h => h) (Or.inl ⟨by rfl, fun w' hw => by go_simp⟩) (by assumption) ?_
  simp only [Act.put, List.setIfInBounds_toArray, List.set_cons_zero, List.set_cons_succ]
  refine anyH_take (i := 9) (some 14) rfl rfl (by kernel_rfl) (by kernel_rfl) (by kernel_rfl) (fun _ _ _ h => h) (yieldsIf_load_mid (by rfl) 24 (.tmp 13) rfl g 0 rfl KL _ (fun w' h => Hkey.out w' h.1) Tryz.underlying24 rfl Hki.out) (by assumption) ?_
  simp only [Act.put, List.setIfInBounds_toArray, List.set_cons_zero, List.set_cons_succ]
  refine anyH_take (i := 10) (some 15) rfl rfl (by kernel_rfl) (by kernel_rfl) (by kernel_rfl) (fun _ _ _ h => h) (yieldsIf_load_mid (by rfl) 24 (.tmp 3) rfl w.heap.size 0 rfl K2 _ (fun w' h => h.2.range) Tryz.underlying24 rfl Hk2.out) (by assumption) ?_
  simp only [Act.put, List.setIfInBounds_toArray, List.set_cons_zero, List.set_cons_succ]
  refine anyH_take (i := 12) (v := .pointer (some ⟨g, 0, none⟩)) (some 17) rfl rfl (by kernel_rfl) (by kernel_rfl) (by kernel_rfl) (fun _ _ _ h => h) (Or.inl ⟨by rfl, fun w' hw => by rfl⟩) (by assumption) ?_
  simp only [Act.put, List.setIfInBounds_toArray, List.set_cons_zero, List.set_cons_succ]
  refine anyH_take (i := 13) (v := .pointer (some ⟨g, 0, none⟩)) (some 18) rfl rfl (by kernel_rfl) (by kernel_rfl) (by kernel_rfl) (fun _ _ _ h => h) (Or.inl ⟨by rfl, fun w' hw => by go_simp⟩) (by assumption) ?_
  simp only [Act.put, List.setIfInBounds_toArray, List.set_cons_zero, List.set_cons_succ]
  refine anyH_take (i := 14) (v := .pointer (some ⟨g, 33, none⟩)) (some 19) rfl rfl (by kernel_rfl) (by kernel_rfl) (by kernel_rfl) (fun _ _ _ h => h) (Or.inl ⟨by rfl, fun w' hw => by go_simp⟩) (by assumption) ?_
  simp only [Act.put, List.setIfInBounds_toArray, List.set_cons_zero, List.set_cons_succ]
  refine anyH_take (i := 15) (v := .int .i64 (t : Nat)) (some 20) rfl rfl (by kernel_rfl) (by kernel_rfl) (by kernel_rfl) (fun _ _ _ h => h) (Or.inl ⟨by rfl, fun w' hw => by (have hc := Hto.out w' hw.1; go_simp)⟩) (by assumption) ?_
  simp only [Act.put, List.setIfInBounds_toArray, List.set_cons_zero, List.set_cons_succ]
  refine wpAnyH_ready (rs := [11]) (by kernel_rfl) (by simp) ?_
  refine AllReadyH.cons rfl (fun K hK => ?_) AllReadyH.nil
  go_simp
  go_at_call 60
  refine Calls.mono (common_run key key2 hk hk2 KL K2 HKL.out HK2.out r Hr.out _) ?_
  rintro e w2 ⟨rfl, hb2⟩
  have hN2 : Arr w2 g 87 NL := Arr.below (w := W1.drewN 1) (hN1.drewN 1) hb2 hN1.lt
  have hA2 : Arr w2 w.heap.size 24 K2 := Arr.below (w := W1.drewN 1) (hA1.drewN 1) hb2 hA1.lt
  have hB2 : Below w.heap.size w w2 := (Below.dN hb1 1).trans (hb2.mono hb1.size)
  dsimp only
  go_wp2_with fail
  refine hK.out _ _ ⟨hN2, hA2⟩ (fun hHeld2 => ?_)
  clear hK K hHeld hb2 hb1 hN1 hA1
  try simp only [Act.put, List.setIfInBounds_toArray, List.set_cons_zero, List.set_cons_succ]
  refine anyH_take (i := 16) (v := .bool true) (some 21) rfl rfl (by kernel_rfl) (by kernel_rfl) (by kernel_rfl) (fun _ _ _ h => h) (Or.inl ⟨by rfl, fun w' hw => by go_simp⟩) (by assumption) ?_
  simp only [Act.put, List.setIfInBounds_toArray, List.set_cons_zero, List.set_cons_succ]
  refine anyH_take (i := 17) (v := .bool true) (some 22) rfl rfl (by kernel_rfl) (by kernel_rfl) (by kernel_rfl) (fun _ _ _ h => h) (Or.inl ⟨by rfl, fun w' hw => by go_simp⟩) (by assumption) ?_
  simp only [Act.put, List.setIfInBounds_toArray, List.set_cons_zero, List.set_cons_succ]
  refine wpAnyH_done (by kernel_rfl) ?_ _
  go_wp2
  go_ret
  exact ⟨rfl, hB2⟩

set_option maxHeartbeats 8000000 in
set_option maxRecDepth 100000 in
theorem next_on (key key2 : List UInt8) (KL K2 : List Value) (hKL : KL = Lib.byteCells key) (hK2 : K2 = Lib.byteCells key2) (hk : key.length = 32) (hk2 : key2.length = 32) (g : Nat) (gn : Nat) (f : Int) (t : Nat) (vv : Value) (d m s : Int) (dig : List UInt8) (NL : List Value) (hNL : NL = nodeC key f (t : Nat) vv (.pointer (some ⟨gn, 0, none⟩)) d m s dig) (w : World) (hN : Arr w g 87 NL) (r : Nat) (hr : commF key key2 = r) (hrt : t ≤ r) (ht : t < 64) (i : Nat) (hi : nibF key2 t = i) (KN : List Value) (hKN : Arr w gn 132 KN) (kp : Value) (hkp : KN[i]? = some kp) :
    Calls Tryz.prog 54 #[.pointer (some ⟨g, 0, none⟩), .agg K2.toArray] w fun e w' => e = .returned (kp) ∧ Below w.heap.size w w' := by
  obtain ⟨W1, hW1⟩ : ∃ W1, W1 = w.alloc (.cells K2.toArray 24) := ⟨_, rfl⟩
  have hA1 : Arr W1 w.heap.size 24 K2 := by rw [hW1]; exact Arr.new w _ _
  have hN1 : Arr W1 g 87 NL := by rw [hW1]; exact hN.alloc _
  have hb1 : Below w.heap.size w W1 := by rw [hW1]; exact (Below.refl _ w).alloc (Nat.le_refl _) _
  have hM1 : Arr W1 gn 132 KN := by rw [hW1]; exact hKN.alloc _
  have Hkey : Hid (∀ w' : World, Arr w' g 87 NL → w'.rangeAt g 0 KL) := fun w' h => node_key hNL hKL h
  have Hnn : Hid (∀ w' : World, Arr w' g 87 NL → w'.cell? ⟨g, 35, none⟩ = some (.pointer (some ⟨gn, 0, none⟩))) := fun w' h => (node_at hNL hk h).2.2.2.1
  have Hto : Hid (∀ w' : World, Arr w' g 87 NL → w'.cell? ⟨g, 33, none⟩ = some (.int .i64 (t : Nat))) := fun w' h => (node_at hNL hk h).2.1
  have Hki := Lib.hid (show (Tryz.prog.info? 24).map (·.size) = some KL.length by rw [hKL, Lib.byteCells_length, hk]; kernel_rfl)
  have Hk2 := Lib.hid (show (Tryz.prog.info? 24).map (·.size) = some K2.length by rw [hK2, Lib.byteCells_length, hk2]; kernel_rfl)
  have HW1 := Lib.hid hW1
  have HKL := Lib.hid hKL
  have HK2 := Lib.hid hK2
  have Hr := Lib.hid hr
  have hd1 : decide ((r : Int) < (t : Int)) = false := by simp; omega
  have hi16 : i < 16 := by rw [← hi]; exact nibF_lt _ _
  have Hi := Lib.hid hi
  have Hkp := Lib.hid hkp
  clear hi hkp hKN
  clear hW1 hNL hKL hK2 hN hr
  go_enter Tryz.func54, Tryz.ntmps54
  go_upto_region 1 with fail
  change Code.wp _ _ _ _ (w.alloc (.cells K2.toArray 24))
  rw [← HW1.out]
  clear HW1
  refine wp_region_held_drew (S := fun w' => Arr w' g 87 NL ∧ Arr w' w.heap.size 24 K2 ∧ Arr w' gn 132 KN) (by kernel_rfl) ⟨hN1.drewN 1, hA1.drewN 1, hM1.drewN 1⟩ (fun hHeld => ?_)
  refine anyH_take (i := 0) (v := .pointer (some ⟨g, 0, none⟩)) (some 5) rfl rfl (by kernel_rfl) (by kernel_rfl) (by kernel_rfl) (fun _ _ _ h => h) (Or.inl ⟨by rfl, fun w' hw => by rfl⟩) (by assumption) ?_
  simp only [Act.put, List.setIfInBounds_toArray, List.set_cons_zero, List.set_cons_succ]
  refine anyH_take (i := 1) (v := .pointer (some ⟨g, 0, none⟩)) (some 6) rfl rfl (by kernel_rfl) (by kernel_rfl) (by kernel_rfl) (fun _ _ _ h => h) (Or.inl ⟨by rfl, fun w' hw => by go_simp⟩) (by assumption) ?_
  simp only [Act.put, List.setIfInBounds_toArray, List.set_cons_zero, List.set_cons_succ]
  refine anyH_take (i := 2) (v := .pointer (some ⟨g, 35, none⟩)) (some 7) rfl rfl (by kernel_rfl) (by kernel_rfl) (by kernel_rfl) (fun _ _ _ h => h) (Or.inl ⟨by rfl, fun w' hw => by go_simp⟩) (by assumption) ?_
  simp only [Act.put, List.setIfInBounds_toArray, List.set_cons_zero, List.set_cons_succ]
  refine anyH_take (i := 3) (v := .pointer (some ⟨gn, 0, none⟩)) (some 8) rfl rfl (by kernel_rfl) (by kernel_rfl) (by kernel_rfl) (fun _ _ _ h => h) (Or.inl ⟨by rfl, fun w' hw => by (have hc := Hnn.out w' hw.1; go_simp)⟩) (by assumption) ?_
  simp only [Act.put, List.setIfInBounds_toArray, List.set_cons_zero, List.set_cons_succ]
  refine anyH_take (i := 4) (v := .bool false) (some 9) rfl rfl (by kernel_rfl) (by kernel_rfl) (by kernel_rfl) (fun _ _ _ h => h) (Or.inl ⟨by rfl, fun w' hw => by go_simp⟩) (by assumption) ?_
  simp only [Act.put, List.setIfInBounds_toArray, List.set_cons_zero, List.set_cons_succ]
  refine anyH_take (i := 5) (v := .bool false) (some 10) rfl rfl (by kernel_rfl) (by kernel_rfl) (by kernel_rfl) (fun _ _ _ h => h) (Or.inl ⟨by rfl, fun w' hw => by rfl⟩) (by assumption) ?_
  simp only [Act.put, List.setIfInBounds_toArray, List.set_cons_zero, List.set_cons_succ]
  refine anyH_take (i := 6) (v := .pointer (some ⟨g, 0, none⟩)) (some 11) rfl rfl (by kernel_rfl) (by kernel_rfl) (by kernel_rfl) (fun _ _ _ h => h) (Or.inl ⟨by rfl, fun w' hw => by rfl⟩) (by assumption) ?_
  simp only [Act.put, List.setIfInBounds_toArray, List.set_cons_zero, List.set_cons_succ]
  refine anyH_take (i := 7) (v := .pointer (some ⟨g, 0, none⟩)) (some 12) rfl rfl (by kernel_rfl) (by kernel_rfl) (by kernel_rfl) (fun _ _ _ h => h) (Or.inl ⟨by rfl, fun w' hw => by go_simp⟩) (by assumption) ?_
  simp only [Act.put, List.setIfInBounds_toArray, List.set_cons_zero, List.set_cons_succ]
  refine anyH_take (i := 8) (v := .pointer (some ⟨g, 0, none⟩)) (some 13) rfl rfl (by kernel_rfl) (by kernel_rfl) (by kernel_rfl) (fun _ _ _ h => h) (Or.inl ⟨by rfl, fun w' hw => by go_simp⟩) (by assumption) ?_
  simp only [Act.put, List.setIfInBounds_toArray, List.set_cons_zero, List.set_cons_succ]
  refine anyH_take (i := 9) (some 14) rfl rfl (by kernel_rfl) (by kernel_rfl) (by kernel_rfl) (fun _ _ _ h => h) (yieldsIf_load_mid (by rfl) 24 (.tmp 13) rfl g 0 rfl KL _ (fun w' h => Hkey.out w' h.1) Tryz.underlying24 rfl Hki.out) (by assumption) ?_
  simp only [Act.put, List.setIfInBounds_toArray, List.set_cons_zero, List.set_cons_succ]
  refine anyH_take (i := 10) (some 15) rfl rfl (by kernel_rfl) (by kernel_rfl) (by kernel_rfl) (fun _ _ _ h => h) (yieldsIf_load_mid (by rfl) 24 (.tmp 3) rfl w.heap.size 0 rfl K2 _ (fun w' h => h.2.1.range) Tryz.underlying24 rfl Hk2.out) (by assumption) ?_
  simp only [Act.put, List.setIfInBounds_toArray, List.set_cons_zero, List.set_cons_succ]
  refine anyH_take (i := 12) (v := .pointer (some ⟨g, 0, none⟩)) (some 17) rfl rfl (by kernel_rfl) (by kernel_rfl) (by kernel_rfl) (fun _ _ _ h => h) (Or.inl ⟨by rfl, fun w' hw => by rfl⟩) (by assumption) ?_
  simp only [Act.put, List.setIfInBounds_toArray, List.set_cons_zero, List.set_cons_succ]
  refine anyH_take (i := 13) (v := .pointer (some ⟨g, 0, none⟩)) (some 18) rfl rfl (by kernel_rfl) (by kernel_rfl) (by kernel_rfl) (fun _ _ _ h => h) (Or.inl ⟨by rfl, fun w' hw => by go_simp⟩) (by assumption) ?_
  simp only [Act.put, List.setIfInBounds_toArray, List.set_cons_zero, List.set_cons_succ]
  refine anyH_take (i := 14) (v := .pointer (some ⟨g, 33, none⟩)) (some 19) rfl rfl (by kernel_rfl) (by kernel_rfl) (by kernel_rfl) (fun _ _ _ h => h) (Or.inl ⟨by rfl, fun w' hw => by go_simp⟩) (by assumption) ?_
  simp only [Act.put, List.setIfInBounds_toArray, List.set_cons_zero, List.set_cons_succ]
  refine anyH_take (i := 15) (v := .int .i64 (t : Nat)) (some 20) rfl rfl (by kernel_rfl) (by kernel_rfl) (by kernel_rfl) (fun _ _ _ h => h) (Or.inl ⟨by rfl, fun w' hw => by (have hc := Hto.out w' hw.1; go_simp)⟩) (by assumption) ?_
  simp only [Act.put, List.setIfInBounds_toArray, List.set_cons_zero, List.set_cons_succ]
  refine wpAnyH_ready (rs := [11]) (by kernel_rfl) (by simp) ?_
  refine AllReadyH.cons rfl (fun K hK => ?_) AllReadyH.nil
  go_simp
  go_at_call 60
  refine Calls.mono (common_run key key2 hk hk2 KL K2 HKL.out HK2.out r Hr.out _) ?_
  rintro e w2 ⟨rfl, hb2⟩
  have hN2 : Arr w2 g 87 NL := Arr.below (w := W1.drewN 1) (hN1.drewN 1) hb2 hN1.lt
  have hA2 : Arr w2 w.heap.size 24 K2 := Arr.below (w := W1.drewN 1) (hA1.drewN 1) hb2 hA1.lt
  have hB2 : Below w.heap.size w w2 := (Below.dN hb1 1).trans (hb2.mono hb1.size)
  have hM2 : Arr w2 gn 132 KN := Arr.below (w := W1.drewN 1) (hM1.drewN 1) hb2 hM1.lt
  dsimp only
  go_wp2_with fail
  refine hK.out _ _ ⟨hN2, hA2, hM2⟩ (fun hHeld2 => ?_)
  clear hK K hHeld hb2 hb1 hN1 hA1 hM1
  try simp only [Act.put, List.setIfInBounds_toArray, List.set_cons_zero, List.set_cons_succ]
  refine anyH_take (i := 16) (v := .bool false) (some 21) rfl rfl (by kernel_rfl) (by kernel_rfl) (by kernel_rfl) (fun _ _ _ h => h) (Or.inl ⟨by rfl, fun w' hw => by go_simp⟩) (by assumption) ?_
  simp only [Act.put, List.setIfInBounds_toArray, List.set_cons_zero, List.set_cons_succ]
  refine anyH_take (i := 17) (v := .bool false) (some 22) rfl rfl (by kernel_rfl) (by kernel_rfl) (by kernel_rfl) (fun _ _ _ h => h) (Or.inl ⟨by rfl, fun w' hw => by go_simp⟩) (by assumption) ?_
  simp only [Act.put, List.setIfInBounds_toArray, List.set_cons_zero, List.set_cons_succ]
  refine wpAnyH_done (by kernel_rfl) ?_ _
  clear hHeld2
  go_wp2_with fail
  refine wp_region_held_drew (S := fun w' => Arr w' g 87 NL ∧ Arr w' w.heap.size 24 K2 ∧ Arr w' gn 132 KN) (by kernel_rfl) ⟨hN2.drewN 1, hA2.drewN 1, hM2.drewN 1⟩ (fun hHeld => ?_)
  refine anyH_take (i := 0) (v := .pointer (some ⟨g, 0, none⟩)) (some 23) rfl rfl (by kernel_rfl) (by kernel_rfl) (by kernel_rfl) (fun _ _ _ h => h) (Or.inl ⟨by rfl, fun w' hw => by rfl⟩) (by assumption) ?_
  simp only [Act.put, List.setIfInBounds_toArray, List.set_cons_zero, List.set_cons_succ]
  refine anyH_take (i := 1) (v := .pointer (some ⟨g, 0, none⟩)) (some 24) rfl rfl (by kernel_rfl) (by kernel_rfl) (by kernel_rfl) (fun _ _ _ h => h) (Or.inl ⟨by rfl, fun w' hw => by go_simp⟩) (by assumption) ?_
  simp only [Act.put, List.setIfInBounds_toArray, List.set_cons_zero, List.set_cons_succ]
  refine anyH_take (i := 2) (v := .pointer (some ⟨g, 35, none⟩)) (some 25) rfl rfl (by kernel_rfl) (by kernel_rfl) (by kernel_rfl) (fun _ _ _ h => h) (Or.inl ⟨by rfl, fun w' hw => by go_simp⟩) (by assumption) ?_
  simp only [Act.put, List.setIfInBounds_toArray, List.set_cons_zero, List.set_cons_succ]
  refine anyH_take (i := 3) (v := .pointer (some ⟨gn, 0, none⟩)) (some 26) rfl rfl (by kernel_rfl) (by kernel_rfl) (by kernel_rfl) (fun _ _ _ h => h) (Or.inl ⟨by rfl, fun w' hw => by (have hc := Hnn.out w' hw.1; go_simp)⟩) (by assumption) ?_
  simp only [Act.put, List.setIfInBounds_toArray, List.set_cons_zero, List.set_cons_succ]
  refine anyH_take (i := 4) (some 27) rfl rfl (by kernel_rfl) (by kernel_rfl) (by kernel_rfl) (fun _ _ _ h => h) (yieldsIf_load_mid (by rfl) 24 (.tmp 3) rfl w.heap.size 0 rfl K2 _ (fun w' h => h.2.1.range) Tryz.underlying24 rfl Hk2.out) (by assumption) ?_
  simp only [Act.put, List.setIfInBounds_toArray, List.set_cons_zero, List.set_cons_succ]
  refine anyH_take (i := 5) (v := .pointer (some ⟨g, 0, none⟩)) (some 28) rfl rfl (by kernel_rfl) (by kernel_rfl) (by kernel_rfl) (fun _ _ _ h => h) (Or.inl ⟨by rfl, fun w' hw => by rfl⟩) (by assumption) ?_
  simp only [Act.put, List.setIfInBounds_toArray, List.set_cons_zero, List.set_cons_succ]
  refine anyH_take (i := 6) (v := .pointer (some ⟨g, 0, none⟩)) (some 29) rfl rfl (by kernel_rfl) (by kernel_rfl) (by kernel_rfl) (fun _ _ _ h => h) (Or.inl ⟨by rfl, fun w' hw => by go_simp⟩) (by assumption) ?_
  simp only [Act.put, List.setIfInBounds_toArray, List.set_cons_zero, List.set_cons_succ]
  refine anyH_take (i := 7) (v := .pointer (some ⟨g, 33, none⟩)) (some 30) rfl rfl (by kernel_rfl) (by kernel_rfl) (by kernel_rfl) (fun _ _ _ h => h) (Or.inl ⟨by rfl, fun w' hw => by go_simp⟩) (by assumption) ?_
  simp only [Act.put, List.setIfInBounds_toArray, List.set_cons_zero, List.set_cons_succ]
  refine anyH_take (i := 8) (v := .int .i64 (t : Nat)) (some 31) rfl rfl (by kernel_rfl) (by kernel_rfl) (by kernel_rfl) (fun _ _ _ h => h) (Or.inl ⟨by rfl, fun w' hw => by (have hc := Hto.out w' hw.1; go_simp)⟩) (by assumption) ?_
  simp only [Act.put, List.setIfInBounds_toArray, List.set_cons_zero, List.set_cons_succ]
  refine anyH_take (i := 10) (v := .pointer (some ⟨gn, 0, none⟩)) (some 33) rfl rfl (by kernel_rfl) (by kernel_rfl) (by kernel_rfl) (fun _ _ _ h => h) (Or.inl ⟨by rfl, fun w' hw => by go_simp⟩) (by assumption) ?_
  simp only [Act.put, List.setIfInBounds_toArray, List.set_cons_zero, List.set_cons_succ]
  refine wpAnyH_ready (rs := [9]) (by kernel_rfl) (by simp) ?_
  refine AllReadyH.cons rfl (fun K hK => ?_) AllReadyH.nil
  go_simp
  go_at_call 55
  refine Calls.mono (nibble_run key2 hk2 K2 HK2.out t ht _ rfl i Hi.out.symm _) ?_
  rintro e w3 ⟨rfl, hb3⟩
  have hN3 : Arr w3 g 87 NL := Arr.below (w := w2.drewN 1) (hN2.drewN 1) hb3 hN2.lt
  have hA3 : Arr w3 w.heap.size 24 K2 := Arr.below (w := w2.drewN 1) (hA2.drewN 1) hb3 hA2.lt
  have hM3 : Arr w3 gn 132 KN := Arr.below (w := w2.drewN 1) (hM2.drewN 1) hb3 hM2.lt
  have hB3 : Below w.heap.size w w3 := (Below.dN hB2 1).trans (hb3.mono hB2.size)
  dsimp only
  go_wp2_with fail
  refine hK.out _ _ ⟨hN3, hA3, hM3⟩ (fun hHeld2 => ?_)
  clear hK K hHeld hb3 hB2 hN2 hA2 hM2
  try simp only [Act.put, List.setIfInBounds_toArray, List.set_cons_zero, List.set_cons_succ]
  refine anyH_take (i := 11) (v := .pointer (some ⟨gn, i, none⟩)) (some 34) rfl rfl (by kernel_rfl) (by kernel_rfl) (by kernel_rfl) (fun _ _ _ h => h) (Or.inl ⟨by rfl, fun w' hw => by (go_simp; intro h; omega)⟩) (by assumption) ?_
  simp only [Act.put, List.setIfInBounds_toArray, List.set_cons_zero, List.set_cons_succ]
  refine anyH_take (i := 12) (v := kp) (some 35) rfl rfl (by kernel_rfl) (by kernel_rfl) (by kernel_rfl) (fun _ _ _ h => h) (Or.inl ⟨by rfl, fun w' hw => by (have hc : w'.cell? ⟨gn, i, none⟩ = some kp := (by rw [hw.2.2.cell]; exact Hkp.out); go_simp)⟩) (by assumption) ?_
  simp only [Act.put, List.setIfInBounds_toArray, List.set_cons_zero, List.set_cons_succ]
  refine anyH_take (i := 13) (v := kp) (some 4) rfl rfl (by kernel_rfl) (by kernel_rfl) (by kernel_rfl) (fun _ _ _ h => h) (Or.inl ⟨by rfl, fun w' hw => by go_simp⟩) (by assumption) ?_
  simp only [Act.put, List.setIfInBounds_toArray, List.set_cons_zero, List.set_cons_succ]
  refine wpAnyH_done (by kernel_rfl) ?_ _
  clear hHeld2
  go_wp2
  go_ret
  exact ⟨rfl, hB3⟩

end Go.Proofs.YtblgmnjegkfoaaaGreat

namespace Go.Proofs.YtblgmnjegkfoaaaGreat
open Go.RowKit
set_option linter.unusedVariables false
set_option linter.unusedSimpArgs false

theorem nd_yieldsIf_build {P : Program} {ops : Array Oper} {S : World → Prop} {op : Oper} {a : Act} (hw : Region.wanted op (yielded ops a.tmps) = true) (t : TypeId) (parts : Array (Nat × Operand)) (ho : op.op = .build t parts)
    (ps : List (Nat × Value)) (hp : parts.toList.map (fun x => (x.1, a.eval x.2)) = ps) (cells : Array Value) (hf : P.built t ps = some cells) : YieldsIf P ops S op (.agg cells) a :=
  .inl ⟨hw, fun w hw' => by
    unfold execOp
    simp only [ho, Sem.run_bind, run_build w t _ cells (show P.built t (parts.map fun (i, x) => (i, a.eval x)).toList = some cells by rw [← hf, ← hp]; simp), Result.andThen_ok, Sem.run_pure]⟩

set_option maxHeartbeats 8000000 in
set_option maxRecDepth 100000 in
theorem begun_run (key : List UInt8) (KL : List Value) (hKL : KL = Lib.byteCells key) (hk : key.length = 32) (g : Nat) (f t : Int) (A : Option Addr) (n c : Nat) (np : Option Addr) (d m s : Int) (dig : List UInt8) (NL : List Value) (hNL : NL = nodeC key f t (.slice A n c) (.pointer np) d m s dig) (f2 : Int) (ML : List Value) (hML : ML = nodeC key f2 t (.slice A n c) (.pointer np) 0 0 0 z32) (w : World) (hN : Arr w g 87 NL) :
    Calls Tryz.prog 77 #[.pointer (some ⟨g, 0, none⟩), .int .i64 f2] w fun e w' => e = .returned (.pointer (some ⟨w.heap.size, 0, none⟩)) ∧ Arr w' w.heap.size 87 ML ∧ Below w.heap.size w w' := by
  have Hkey : Hid (∀ w' : World, Arr w' g 87 NL → w'.rangeAt g 0 KL) := fun w' h => node_key hNL hKL h
  have Hat : Hid (∀ w' : World, Arr w' g 87 NL → w'.cell? ⟨g, 33, none⟩ = some (.int .i64 t) ∧ w'.cell? ⟨g, 34, none⟩ = some (.slice A n c) ∧ w'.cell? ⟨g, 35, none⟩ = some (.pointer np)) := fun w' h => ⟨(node_at hNL hk h).2.1, (node_at hNL hk h).2.2.1, (node_at hNL hk h).2.2.2.1⟩
  have Hki := Lib.hid (show (Tryz.prog.info? 24).map (·.size) = some KL.length by rw [hKL, Lib.byteCells_length, hk]; kernel_rfl)
  have Hb := Lib.hid (show Tryz.prog.built 87 [(0, .agg KL.toArray), (1, .int .i64 f2), (2, .int .i64 t), (3, .slice A n c), (4, .pointer np)] = some ML.toArray by rw [hML]; exact node_built_begun key KL hKL hk f2 t _ _ rfl rfl)
  have hM : Arr ((w.drewN 1).alloc (.cells ML.toArray 87)) w.heap.size 87 ML := Arr.new (w.drewN 1) _ _
  have hb : Below w.heap.size w ((w.drewN 1).alloc (.cells ML.toArray 87)) := (Below.dN (Below.refl _ w) 1).alloc (Nat.le_refl _) _
  clear hNL hKL hML
  go_enter Tryz.func77, Tryz.ntmps77
  go_upto_region 1 with fail
  refine wp_region_held_drew (S := fun w' => Arr w' g 87 NL) (by kernel_rfl) (hN.drewN 1) (fun hHeld => ?_)
  refine anyH_take (i := 0) (v := .pointer (some ⟨g, 0, none⟩)) (some 5) rfl rfl (by kernel_rfl) (by kernel_rfl) (by kernel_rfl) (fun _ _ _ h => h) (Or.inl ⟨by rfl, fun w' hw => by rfl⟩) (by assumption) ?_
  simp only [Act.put, List.setIfInBounds_toArray, List.set_cons_zero, List.set_cons_succ]
  refine anyH_take (i := 1) (v := .pointer (some ⟨g, 0, none⟩)) (some 6) rfl rfl (by kernel_rfl) (by kernel_rfl) (by kernel_rfl) (fun _ _ _ h => h) (Or.inl ⟨by rfl, fun w' hw => by go_simp⟩) (by assumption) ?_
  simp only [Act.put, List.setIfInBounds_toArray, List.set_cons_zero, List.set_cons_succ]
  refine anyH_take (i := 2) (v := .pointer (some ⟨g, 0, none⟩)) (some 7) rfl rfl (by kernel_rfl) (by kernel_rfl) (by kernel_rfl) (fun _ _ _ h => h) (Or.inl ⟨by rfl, fun w' hw => by go_simp⟩) (by assumption) ?_
  simp only [Act.put, List.setIfInBounds_toArray, List.set_cons_zero, List.set_cons_succ]
  refine anyH_take (i := 3) (some 8) rfl rfl (by kernel_rfl) (by kernel_rfl) (by kernel_rfl) (fun _ _ _ h => h) (yieldsIf_load_mid (by rfl) 24 (.tmp 7) rfl g 0 rfl KL _ (fun w' h => Hkey.out w' h) Tryz.underlying24 rfl Hki.out) (by assumption) ?_
  simp only [Act.put, List.setIfInBounds_toArray, List.set_cons_zero, List.set_cons_succ]
  refine anyH_take (i := 4) (v := .int .i64 f2) (some 9) rfl rfl (by kernel_rfl) (by kernel_rfl) (by kernel_rfl) (fun _ _ _ h => h) (Or.inl ⟨by rfl, fun w' hw => by rfl⟩) (by assumption) ?_
  simp only [Act.put, List.setIfInBounds_toArray, List.set_cons_zero, List.set_cons_succ]
  refine anyH_take (i := 5) (v := .pointer (some ⟨g, 0, none⟩)) (some 10) rfl rfl (by kernel_rfl) (by kernel_rfl) (by kernel_rfl) (fun _ _ _ h => h) (Or.inl ⟨by rfl, fun w' hw => by rfl⟩) (by assumption) ?_
  simp only [Act.put, List.setIfInBounds_toArray, List.set_cons_zero, List.set_cons_succ]
  refine anyH_take (i := 6) (v := .pointer (some ⟨g, 0, none⟩)) (some 11) rfl rfl (by kernel_rfl) (by kernel_rfl) (by kernel_rfl) (fun _ _ _ h => h) (Or.inl ⟨by rfl, fun w' hw => by go_simp⟩) (by assumption) ?_
  simp only [Act.put, List.setIfInBounds_toArray, List.set_cons_zero, List.set_cons_succ]
  refine anyH_take (i := 7) (v := .pointer (some ⟨g, 33, none⟩)) (some 12) rfl rfl (by kernel_rfl) (by kernel_rfl) (by kernel_rfl) (fun _ _ _ h => h) (Or.inl ⟨by rfl, fun w' hw => by go_simp⟩) (by assumption) ?_
  simp only [Act.put, List.setIfInBounds_toArray, List.set_cons_zero, List.set_cons_succ]
  refine anyH_take (i := 8) (v := .int .i64 t) (some 13) rfl rfl (by kernel_rfl) (by kernel_rfl) (by kernel_rfl) (fun _ _ _ h => h) (Or.inl ⟨by rfl, fun w' hw => by (have hc := (Hat.out w' hw).1; go_simp)⟩) (by assumption) ?_
  simp only [Act.put, List.setIfInBounds_toArray, List.set_cons_zero, List.set_cons_succ]
  refine anyH_take (i := 9) (v := .pointer (some ⟨g, 0, none⟩)) (some 14) rfl rfl (by kernel_rfl) (by kernel_rfl) (by kernel_rfl) (fun _ _ _ h => h) (Or.inl ⟨by rfl, fun w' hw => by rfl⟩) (by assumption) ?_
  simp only [Act.put, List.setIfInBounds_toArray, List.set_cons_zero, List.set_cons_succ]
  refine anyH_take (i := 10) (v := .pointer (some ⟨g, 0, none⟩)) (some 15) rfl rfl (by kernel_rfl) (by kernel_rfl) (by kernel_rfl) (fun _ _ _ h => h) (Or.inl ⟨by rfl, fun w' hw => by go_simp⟩) (by assumption) ?_
  simp only [Act.put, List.setIfInBounds_toArray, List.set_cons_zero, List.set_cons_succ]
  refine anyH_take (i := 11) (v := .pointer (some ⟨g, 34, none⟩)) (some 16) rfl rfl (by kernel_rfl) (by kernel_rfl) (by kernel_rfl) (fun _ _ _ h => h) (Or.inl ⟨by rfl, fun w' hw => by go_simp⟩) (by assumption) ?_
  simp only [Act.put, List.setIfInBounds_toArray, List.set_cons_zero, List.set_cons_succ]
  refine anyH_take (i := 12) (v := .slice A n c) (some 17) rfl rfl (by kernel_rfl) (by kernel_rfl) (by kernel_rfl) (fun _ _ _ h => h) (Or.inl ⟨by rfl, fun w' hw => by (have hc := (Hat.out w' hw).2.1; go_simp)⟩) (by assumption) ?_
  simp only [Act.put, List.setIfInBounds_toArray, List.set_cons_zero, List.set_cons_succ]
  refine anyH_take (i := 13) (v := .pointer (some ⟨g, 0, none⟩)) (some 18) rfl rfl (by kernel_rfl) (by kernel_rfl) (by kernel_rfl) (fun _ _ _ h => h) (Or.inl ⟨by rfl, fun w' hw => by rfl⟩) (by assumption) ?_
  simp only [Act.put, List.setIfInBounds_toArray, List.set_cons_zero, List.set_cons_succ]
  refine anyH_take (i := 14) (v := .pointer (some ⟨g, 0, none⟩)) (some 19) rfl rfl (by kernel_rfl) (by kernel_rfl) (by kernel_rfl) (fun _ _ _ h => h) (Or.inl ⟨by rfl, fun w' hw => by go_simp⟩) (by assumption) ?_
  simp only [Act.put, List.setIfInBounds_toArray, List.set_cons_zero, List.set_cons_succ]
  refine anyH_take (i := 15) (v := .pointer (some ⟨g, 35, none⟩)) (some 20) rfl rfl (by kernel_rfl) (by kernel_rfl) (by kernel_rfl) (fun _ _ _ h => h) (Or.inl ⟨by rfl, fun w' hw => by go_simp⟩) (by assumption) ?_
  simp only [Act.put, List.setIfInBounds_toArray, List.set_cons_zero, List.set_cons_succ]
  refine anyH_take (i := 16) (v := .pointer np) (some 21) rfl rfl (by kernel_rfl) (by kernel_rfl) (by kernel_rfl) (fun _ _ _ h => h) (Or.inl ⟨by rfl, fun w' hw => by (have hc := (Hat.out w' hw).2.2; go_simp)⟩) (by assumption) ?_
  simp only [Act.put, List.setIfInBounds_toArray, List.set_cons_zero, List.set_cons_succ]
  refine anyH_take (i := 17) (some 22) rfl rfl (by kernel_rfl) (by kernel_rfl) (by kernel_rfl) (fun _ _ _ h => h) (nd_yieldsIf_build (by rfl) _ _ rfl _ rfl ML.toArray Hb.out) (by assumption) ?_
  simp only [Act.put, List.setIfInBounds_toArray, List.set_cons_zero, List.set_cons_succ]
  refine wpAnyH_ready (rs := [18]) (by kernel_rfl) (by simp) ?_
  refine AllReadyH.cons rfl (fun K hK => ?_) AllReadyH.nil
  go_simp
  refine hK.out _ _ ((hN.drewN 1).alloc _) (fun hHeld2 => ?_)
  clear hK K hHeld
  try simp only [Act.put, List.setIfInBounds_toArray, List.set_cons_zero, List.set_cons_succ]
  refine anyH_take (i := 19) (v := .pointer (some ⟨w.heap.size, 0, none⟩)) (some 4) rfl rfl (by kernel_rfl) (by kernel_rfl) (by kernel_rfl) (fun _ _ _ h => h) (Or.inl ⟨by rfl, fun w' hw => by go_simp⟩) (by assumption) ?_
  simp only [Act.put, List.setIfInBounds_toArray, List.set_cons_zero, List.set_cons_succ]
  refine wpAnyH_done (by kernel_rfl) ?_ _
  clear hHeld2
  go_wp2
  go_ret
  exact ⟨rfl, hM, hb⟩

end Go.Proofs.YtblgmnjegkfoaaaGreat

namespace Go.Proofs.YtblgmnjegkfoaaaGreat
open Go.RowKit
set_option linter.unusedVariables false
set_option linter.unusedSimpArgs false

/-- What alone gives of the pointers from a place on, another one told already. -/
def aloneF : List (Option Addr) → Option Addr → Option Addr
  | [], o => o
  | none :: r, o => aloneF r o
  | some p :: r, none => aloneF r (some p)
  | some _ :: _, some _ => none
theorem aloneF_drop {ps : List (Option Addr)} {i : Nat} (h : i < ps.length) (o : Option Addr) : aloneF (ps.drop i) o = aloneF (ps[i] :: ps.drop (i + 1)) o := by
  rw [List.drop_eq_getElem_cons h]

set_option maxHeartbeats 8000000 in
set_option maxRecDepth 100000 in
theorem alone_run (ps : List (Option Addr)) (hp : ps.length = 16) (PL : List Value) (hPL : PL = ps.map .pointer) (r : Option Addr) (hr : aloneF ps none = r) (g : Nat) (w : World) (hN : Arr w g 132 PL) :
    Calls Tryz.prog 76 #[.pointer (some ⟨g, 0, none⟩)] w fun e w' => e = .returned (.pointer r) ∧ Below w.heap.size w w' := by
  have hc : ∀ i, (h : i < 16) → w.cell? ⟨g, i, none⟩ = some (.pointer (ps[i]'(by omega))) := fun i h => by
    rw [hN.cell, hPL, List.getElem?_map, List.getElem?_eq_getElem (by omega)]; rfl
  have Hc := Lib.hid hc
  have HN := Lib.hid hN
  have Hr := Lib.hid (show aloneF (ps.drop 0) none = r from hr)
  clear hN hPL hc hr
  go_enter Tryz.func76, Tryz.ntmps76
  go_wp2
  go_loopw [3, 5, 7] (fun x y z wr => ∃ (i : Nat) (o : Option Addr), i ≤ 16 ∧ z = .int .i64 i ∧ x = .pointer o ∧ Hid (aloneF (ps.drop i) o = r) ∧ ∃ n, wr = w.drewN n) (fun _ _ z _ => 16 - (intOf z).toNat)
  case atStart => exact ⟨0, none, by omega, rfl, rfl, Hr.out, 0, rfl⟩
  case round =>
    obtain ⟨i, o, hi, rfl, rfl, hal, n, rfl⟩ := hrel
    by_cases hlt : i < 16
    · have hcell := Hc.out i hlt
      have hstep := aloneF_drop (ps := ps) (i := i) (by omega) o
      rw [hal.out] at hstep
      obtain ⟨q, hq⟩ : ∃ q, ps[i]'(by omega) = q := ⟨_, rfl⟩
      rw [hq] at hcell hstep
      have hd1 : decide ((i : Int) < (16 : Int)) = true := by simp; omega
      clear hq hal
      cases q with
      | none =>
        have hal2 : Hid (aloneF (ps.drop (i + 1)) o = r) := hstep.symm
        clear hstep
        go_wp2
        go_roundw
        case rel => exact ⟨i + 1, o, by omega, by go_num, rfl, hal2, _, rfl⟩
        case measure => simp [intOf]; omega
      | some p =>
        cases o with
        | none =>
          have hal2 : Hid (aloneF (ps.drop (i + 1)) (some p) = r) := hstep.symm
          clear hstep
          go_wp2
          go_roundw
          case rel => exact ⟨i + 1, some p, by omega, by go_num, rfl, hal2, _, rfl⟩
          case measure => simp [intOf]; omega
        | some p2 =>
          have hrn : r = none := hstep
          subst hrn
          clear hstep
          go_wp2
          go_ret
          exact ⟨rfl, Below.dN (Below.refl _ w) _⟩
    · obtain rfl : i = 16 := by omega
      have hro : o = r := by
        have h := hal.out
        rw [List.drop_eq_nil_of_le (by omega)] at h
        exact h
      subst hro
      have hd1 : decide (((16 : Nat) : Int) < (16 : Int)) = false := by simp
      clear hal
      go_wp2
      go_ret
      exact ⟨rfl, Below.dN (Below.refl _ w) _⟩

end Go.Proofs.YtblgmnjegkfoaaaGreat

namespace Go.Proofs.YtblgmnjegkfoaaaGreat
open Go.RowKit
set_option linter.unusedVariables false
set_option linter.unusedSimpArgs false

def noKids : List (Option Addr) := List.replicate 16 none
def kidsC (ps : List (Option Addr)) : List Value := ps.map .pointer

set_option maxHeartbeats 8000000 in
set_option maxRecDepth 100000 in
theorem above_run (key : List UInt8) (KL : List Value) (hKL : KL = Lib.byteCells key) (hk : key.length = 32) (g : Nat) (f t : Int) (A : Option Addr) (n c : Nat) (np : Option Addr) (d m s : Int) (dig : List UInt8) (NL : List Value) (hNL : NL = nodeC key f t (.slice A n c) (.pointer np) d m s dig)
    (e : Nat) (he : e < 64) (i : Nat) (hi : nibF key e = i) (BL ML : List Value) (hBL : BL = nodeC key ((e : Int) + 1) t (.slice A n c) (.pointer np) 0 0 0 z32) (w : World) (hN : Arr w g 87 NL) :
    Calls Tryz.prog 61 #[.pointer (some ⟨g, 0, none⟩), .int .i64 (e : Nat)] w fun x w' => ∃ g2 gA gB, w.heap.size ≤ g2 ∧ w.heap.size ≤ gA ∧ w.heap.size ≤ gB ∧ x = .returned (.pointer (some ⟨g2, 0, none⟩)) ∧ Arr w' g2 87 (nodeC key f (e : Nat) (.slice none 0 0) (.pointer (some ⟨gA, 0, none⟩)) 0 0 0 z32) ∧
      Arr w' gA 132 (kidsC (noKids.set i (some ⟨gB, 0, none⟩))) ∧ Arr w' gB 87 BL ∧ Below w.heap.size w w' := by
  have hrange := node_key hNL hKL hN
  have Hkey : Hid (∀ w' : World, Arr w' g 87 NL → w'.rangeAt g 0 KL) := fun w' h => node_key hNL hKL h
  have Hat : Hid (∀ w' : World, Arr w' g 87 NL → w'.cell? ⟨g, 32, none⟩ = some (.int .i64 f)) := fun w' h => (node_at hNL hk h).1
  have Hki := Lib.hid (show (Tryz.prog.info? 24).map (·.size) = some KL.length by rw [hKL, Lib.byteCells_length, hk]; kernel_rfl)
  have hi16 : i < 16 := by rw [← hi]; exact nibF_lt _ _
  have HKL := Lib.hid hKL
  have HNL := Lib.hid hNL
  have HBL := Lib.hid hBL
  have Hi := Lib.hid hi
  have HN := Lib.hid hN
  clear hKL hNL hBL hi hN
  go_enter Tryz.func61, Tryz.ntmps61
  go_upto_region 2 with fail
  obtain ⟨W1, hW1⟩ : ∃ W1, W1 = w.alloc (.cells (kidsC noKids).toArray 132) := ⟨_, rfl⟩
  have hA1 : Arr W1 w.heap.size 132 (kidsC noKids) := by rw [hW1]; exact Arr.new w _ _
  have hN1 : Arr W1 g 87 NL := by rw [hW1]; exact HN.out.alloc _
  have hgw : g < w.heap.size := HN.out.lt
  have hb1 : Below w.heap.size w W1 := by rw [hW1]; exact (Below.refl _ w).alloc (Nat.le_refl _) _
  change Code.wp _ _ _ _ (w.alloc (.cells (kidsC noKids).toArray 132))
  rw [← hW1]
  have hrng := Hkey.out W1 hN1
  have hew : IntKind.i64.wrap ((e : Int) + 1) = (e : Int) + 1 := IntWalk.i64_in _ (by omega)
  clear hW1 hrange
  go_wp2_with (first
    | (refine wpList_load_mid rfl _ _ rfl g 0 rfl KL _ hrng Tryz.underlying24 rfl Hki.out ?_))
  go_at_call 55
  refine Calls.mono (nibble_run key hk KL HKL.out e he _ rfl i Hi.out.symm _) ?_
  rintro x w2 ⟨rfl, hb2⟩
  have hN2 := hN1.below hb2 hN1.lt
  have hA2 := hA1.below hb2 hA1.lt
  have hB2 : Below w.heap.size w w2 := hb1.trans (hb2.mono hb1.size)
  clear hb2 hA1 hN1 hb1 hrng
  go_wp2_with fail
  go_at_call 77
  refine Calls.mono (begun_run key KL HKL.out hk g f t A n c np d m s dig NL HNL.out ((e : Int) + 1) BL HBL.out w2 hN2) ?_
  rintro x w3 ⟨rfl, hM3, hb3⟩
  have hN3 := hN2.below hb3 hN2.lt
  have hA3 := hA2.below hb3 hA2.lt
  have hB3 : Below w.heap.size w w3 := hB2.trans (hb3.mono hB2.size)
  have hlt2 : w.heap.size < w2.heap.size := hA2.lt
  obtain ⟨gB, hgB⟩ : ∃ x, x = w2.heap.size := ⟨_, rfl⟩
  rw [← hgB] at hM3 hlt2 ⊢
  have hcA : w3.cell? ⟨w.heap.size, i, none⟩ = some (.pointer none) := by
    rw [hA3.cell]; unfold kidsC noKids; rw [List.getElem?_map, List.getElem?_replicate, if_pos hi16]; rfl
  have hfA := hA3.frozen i
  clear hgB hN2 hA2 hB2 hb3
  go_wp2_with fail
  have hB4 : Below w.heap.size w (w3.setCell ⟨w.heap.size, i, none⟩ (.pointer (some ⟨gB, 0, none⟩))) := hB3.trans (((Only.refl (fun k => k = w.heap.size) w3).setCell (p := ⟨w.heap.size, i, none⟩) (.inl rfl) _).below hB3.size (by rintro k rfl; exact Nat.le_refl _))
  have hN4 : Arr (w3.setCell ⟨w.heap.size, i, none⟩ (.pointer (some ⟨gB, 0, none⟩))) g 87 NL := hN3.setOther (p := ⟨w.heap.size, i, none⟩) (Nat.ne_of_lt hgw) _
  have hM4 : Arr (w3.setCell ⟨w.heap.size, i, none⟩ (.pointer (some ⟨gB, 0, none⟩))) gB 87 BL := hM3.setOther (p := ⟨w.heap.size, i, none⟩) (Nat.ne_of_gt hlt2) _
  have hA4 : Arr (w3.setCell ⟨w.heap.size, i, none⟩ (.pointer (some ⟨gB, 0, none⟩))) w.heap.size 132 (kidsC (noKids.set i (some ⟨gB, 0, none⟩))) := by
    have h := hA3.set i (.pointer (some ⟨gB, 0, none⟩))
    unfold kidsC at h ⊢
    rw [List.map_set]; exact h
  obtain ⟨w4, hw4⟩ : ∃ x, x = w3.setCell ⟨w.heap.size, i, none⟩ (.pointer (some ⟨gB, 0, none⟩)) := ⟨_, rfl⟩
  rw [← hw4] at hB4 hN4 hM4 hA4 ⊢
  clear hw4 hB3 hN3 hM3 hA3 hcA hfA
  obtain ⟨CL, hCL⟩ : ∃ CL, CL = nodeC key f (e : Nat) (.slice none 0 0) (.pointer (some ⟨w.heap.size, 0, none⟩)) 0 0 0 z32 := ⟨_, rfl⟩
  have Hb := Lib.hid (show Tryz.prog.built 87 [(0, .agg KL.toArray), (1, .int .i64 f), (2, .int .i64 (e : Nat)), (4, .pointer (some ⟨w.heap.size, 0, none⟩))] = some CL.toArray by rw [hCL]; exact node_built_branch key KL HKL.out hk f _ _ rfl)
  have hO5 : Below w4.heap.size w4 ((w4.drewN 1).alloc (.cells CL.toArray 87)) := (Below.dN (Below.refl _ w4) 1).alloc (Nat.le_refl _) _
  have hC5 : Arr ((w4.drewN 1).alloc (.cells CL.toArray 87)) w4.heap.size 87 CL := Arr.new (w4.drewN 1) _ _
  have hA5 := hA4.below hO5 hA4.lt
  have hM5 := hM4.below hO5 hM4.lt
  have hB5 := hB4.trans (hO5.mono hB4.size)
  have hge := hB4.size
  have hgB : w.heap.size ≤ gB := Nat.le_of_lt hlt2
  have HCL := Lib.hid hCL
  clear hCL hO5
  refine wp_region_held_drew (S := fun w' => Arr w' g 87 NL) (by kernel_rfl) (hN4.drewN 1) (fun hHeld => ?_)
  refine anyH_take (i := 0) (v := .pointer (some ⟨g, 0, none⟩)) (some 17) rfl rfl (by kernel_rfl) (by kernel_rfl) (by kernel_rfl) (fun _ _ _ h => h) (Or.inl ⟨by rfl, fun w' hw => by rfl⟩) (by assumption) ?_
  simp only [Act.put, List.setIfInBounds_toArray, List.set_cons_zero, List.set_cons_succ]
  refine anyH_take (i := 1) (v := .pointer (some ⟨g, 0, none⟩)) (some 18) rfl rfl (by kernel_rfl) (by kernel_rfl) (by kernel_rfl) (fun _ _ _ h => h) (Or.inl ⟨by rfl, fun w' hw => by go_simp⟩) (by assumption) ?_
  simp only [Act.put, List.setIfInBounds_toArray, List.set_cons_zero, List.set_cons_succ]
  refine anyH_take (i := 2) (v := .pointer (some ⟨g, 0, none⟩)) (some 19) rfl rfl (by kernel_rfl) (by kernel_rfl) (by kernel_rfl) (fun _ _ _ h => h) (Or.inl ⟨by rfl, fun w' hw => by go_simp⟩) (by assumption) ?_
  simp only [Act.put, List.setIfInBounds_toArray, List.set_cons_zero, List.set_cons_succ]
  refine anyH_take (i := 3) (some 20) rfl rfl (by kernel_rfl) (by kernel_rfl) (by kernel_rfl) (fun _ _ _ h => h) (yieldsIf_load_mid (by rfl) 24 (.tmp 19) rfl g 0 rfl KL _ (fun w' h => Hkey.out w' h) Tryz.underlying24 rfl Hki.out) (by assumption) ?_
  simp only [Act.put, List.setIfInBounds_toArray, List.set_cons_zero, List.set_cons_succ]
  refine anyH_take (i := 4) (v := .pointer (some ⟨g, 0, none⟩)) (some 21) rfl rfl (by kernel_rfl) (by kernel_rfl) (by kernel_rfl) (fun _ _ _ h => h) (Or.inl ⟨by rfl, fun w' hw => by rfl⟩) (by assumption) ?_
  simp only [Act.put, List.setIfInBounds_toArray, List.set_cons_zero, List.set_cons_succ]
  refine anyH_take (i := 5) (v := .pointer (some ⟨g, 0, none⟩)) (some 22) rfl rfl (by kernel_rfl) (by kernel_rfl) (by kernel_rfl) (fun _ _ _ h => h) (Or.inl ⟨by rfl, fun w' hw => by go_simp⟩) (by assumption) ?_
  simp only [Act.put, List.setIfInBounds_toArray, List.set_cons_zero, List.set_cons_succ]
  refine anyH_take (i := 6) (v := .pointer (some ⟨g, 32, none⟩)) (some 23) rfl rfl (by kernel_rfl) (by kernel_rfl) (by kernel_rfl) (fun _ _ _ h => h) (Or.inl ⟨by rfl, fun w' hw => by go_simp⟩) (by assumption) ?_
  simp only [Act.put, List.setIfInBounds_toArray, List.set_cons_zero, List.set_cons_succ]
  refine anyH_take (i := 7) (v := .int .i64 f) (some 24) rfl rfl (by kernel_rfl) (by kernel_rfl) (by kernel_rfl) (fun _ _ _ h => h) (Or.inl ⟨by rfl, fun w' hw => by (have hc := Hat.out w' hw; go_simp)⟩) (by assumption) ?_
  simp only [Act.put, List.setIfInBounds_toArray, List.set_cons_zero, List.set_cons_succ]
  refine anyH_take (i := 8) (v := .int .i64 (e : Nat)) (some 25) rfl rfl (by kernel_rfl) (by kernel_rfl) (by kernel_rfl) (fun _ _ _ h => h) (Or.inl ⟨by rfl, fun w' hw => by rfl⟩) (by assumption) ?_
  simp only [Act.put, List.setIfInBounds_toArray, List.set_cons_zero, List.set_cons_succ]
  refine anyH_take (i := 9) (some 26) rfl rfl (by kernel_rfl) (by kernel_rfl) (by kernel_rfl) (fun _ _ _ h => h) (nd_yieldsIf_build (by rfl) _ _ rfl _ rfl CL.toArray Hb.out) (by assumption) ?_
  simp only [Act.put, List.setIfInBounds_toArray, List.set_cons_zero, List.set_cons_succ]
  refine wpAnyH_ready (rs := [10]) (by kernel_rfl) (by simp) ?_
  refine AllReadyH.cons rfl (fun K hK => ?_) AllReadyH.nil
  go_simp
  refine hK.out _ _ ((hN4.drewN 1).alloc _) (fun hHeld2 => ?_)
  clear hK K hHeld
  try simp only [Act.put, List.setIfInBounds_toArray, List.set_cons_zero, List.set_cons_succ]
  refine anyH_take (i := 11) (v := .pointer (some ⟨w4.heap.size, 0, none⟩)) (some 4) rfl rfl (by kernel_rfl) (by kernel_rfl) (by kernel_rfl) (fun _ _ _ h => h) (Or.inl ⟨by rfl, fun w' hw => by go_simp⟩) (by assumption) ?_
  simp only [Act.put, List.setIfInBounds_toArray, List.set_cons_zero, List.set_cons_succ]
  refine wpAnyH_done (by kernel_rfl) ?_ _
  clear hHeld2
  go_wp2
  go_ret
  exact ⟨w4.heap.size, w.heap.size, gB, hge, Nat.le_refl _, hgB, rfl, by rw [← HCL.out]; exact hC5, hA5, hM5, hB5⟩

end Go.Proofs.YtblgmnjegkfoaaaGreat

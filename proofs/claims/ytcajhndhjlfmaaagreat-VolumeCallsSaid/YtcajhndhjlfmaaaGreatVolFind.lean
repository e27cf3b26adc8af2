/-
  The document's Find on volumes; two cells compared.
-/
import Derived.Test.YtcajhndhjlfmaaaGreatVolRows
import Derived.Deep.DeepCutAuto
import Derived.Deep.CutBlock
import Derived.IntWalk
namespace Go.Proofs.YtcajhndhjlfmaaaGreat
open Go.RowKit
set_option linter.unusedVariables false
set_option linter.unusedSimpArgs false

theorem VsAt.at_ {w : World} {G : Nat → Prop} {A : Option Addr} {xs : List Vx} (h : VsAt w G A xs) {i : Nat} {x : Vx} (hi : xs[i]? = some x) : ∃ b off, A = some ⟨b, off, none⟩ ∧ b < w.heap.size ∧ G b ∧
    w.cell? ⟨b, off + i * 4, none⟩ = some (.string x.v.name) ∧ w.cell? ⟨b, off + i * 4 + 1, none⟩ = some (.int .i64 (x.v.quota : Nat)) ∧ w.cell? ⟨b, off + i * 4 + 2, none⟩ = some (.bool x.v.frozen) ∧ w.cell? ⟨b, off + i * 4 + 3, none⟩ = some (.slice x.adr x.v.cells.length x.cap) := by
  obtain ⟨b, off, e, hg, hlt, hr⟩ := h.1 (by have := (List.getElem?_eq_some_iff.1 hi).1; omega)
  have hr := hr i x hi
  exact ⟨b, off, e, hlt, hg, hr 0 _ rfl, hr 1 _ rfl, hr 2 _ rfl, hr 3 _ rfl⟩

theorem ba_toList (b : ByteArray) : b.toList = b.data.toList := by
  have h : ∀ (n i : Nat) (r : List UInt8), b.size - i = n → ByteArray.toList.loop b i r = r.reverse ++ b.data.toList.drop i := by
    intro n
    induction n with
    | zero =>
      intro i r hi
      have hz : b.data.toList.length = b.size := Array.length_toList
      rw [ByteArray.toList.loop, if_neg (by omega), List.drop_of_length_le (by omega), List.append_nil]
    | succ n ih =>
      intro i r hi
      have hz : b.data.toList.length = b.size := Array.length_toList
      rw [ByteArray.toList.loop, if_pos (by omega), ih (i + 1) _ (by omega), List.reverse_cons, List.append_assoc, List.drop_eq_getElem_cons (i := i) (by omega)]
      congr 1
      show [b.get! i] ++ _ = _
      rw [List.singleton_append]
      congr 1
      have hi' : i < b.data.size := by have : b.data.size = b.size := rfl; omega
      show b.data[i]! = _
      rw [getElem!_pos b.data i hi']
      simp
  have := h _ 0 [] rfl
  simpa [ByteArray.toList] using this
theorem ba_eq {a b : ByteArray} (h : a = b) : (a.toList == b.toList) = true := by rw [h]; simp
theorem ba_ne {a b : ByteArray} (h : a ≠ b) : (a.toList == b.toList) = false := by
  rw [beq_eq_false_iff_ne]
  intro e
  rw [ba_toList, ba_toList] at e
  exact h (ba_ext e)
/-- The place of a volume, or -1. -/
def findI (L : List Vol) (nm : ByteArray) : Int := match L.findIdx? fun v => decide (v.name = nm) with | some i => (i : Nat) | none => -1
theorem findI_none {L : List Vol} {nm : ByteArray} (h : ∀ (i : Nat) (v : Vol), L[i]? = some v → v.name ≠ nm) : findI L nm = -1 := by
  unfold findI
  have : L.findIdx? (fun v => decide (v.name = nm)) = none := by
    rw [List.findIdx?_eq_none_iff]
    intro x hx
    obtain ⟨i, hi⟩ := List.getElem?_of_mem hx
    simpa using h i x hi
  rw [this]
theorem findI_some {L : List Vol} {nm : ByteArray} {i : Nat} {v : Vol} (hi : L[i]? = some v) (hv : v.name = nm) (h : ∀ (j : Nat) (v : Vol), j < i → L[j]? = some v → v.name ≠ nm) : findI L nm = (i : Nat) := by
  unfold findI
  have : L.findIdx? (fun v => decide (v.name = nm)) = some i := by
    rw [List.findIdx?_eq_some_iff_getElem]
    obtain ⟨h1, h2⟩ := List.getElem?_eq_some_iff.1 hi
    refine ⟨h1, by rw [h2]; simpa using hv, fun j hj => ?_⟩
    have := h j L[j] hj (List.getElem?_eq_getElem (by omega))
    simpa using this
  rw [this]

set_option maxHeartbeats 1000000 in
theorem find12_any (A : Option Addr) (n c : Nat) (xs : List Vx) (nm : ByteArray) (hs : nm.size ≤ maxLen) (w : World) (G : Nat → Prop) (h : VsAt w G A xs) (hn : xs.length = n) (hc : n ≤ c) (hm : c ≤ maxLen) :
    Calls Tryz.prog 25 #[.slice A n c, .string nm] w fun e w' => e = .returned (.int .i64 (findI (xs.map (·.v)) nm)) ∧ w = w' := by
  unfold maxLen at hm
  have Hn := Lib.hid hn
  have Hh := Lib.hid h
  clear hn h
  go_enter Tryz.func25, Tryz.ntmps25
  go_wp2
  go_loop [5] (fun i => ∃ k : Nat, k ≤ n ∧ i = .int .i64 k ∧ Hid (∀ (j : Nat) (v : Vol), j < k → (xs.map (·.v))[j]? = some v → v.name ≠ nm)) (fun i => n - (Go.RowKit.intOf i).toNat)
  case atStart => exact ⟨0, Nat.zero_le _, rfl, fun j v hj => by omega⟩
  case round =>
    obtain ⟨k, hk, rfl, Hk⟩ := hrel
    by_cases hlt : k < n
    · obtain ⟨x, hx⟩ : ∃ x, xs[k]? = some x := ⟨xs[k]'(by rw [Hn.out]; exact hlt), List.getElem?_eq_getElem _⟩
      obtain ⟨b, off, rfl, hblt, hG, h0, h1, h2, h3⟩ := Hh.out.at_ hx
      have hxv : (xs.map (·.v))[k]? = some x.v := by rw [List.getElem?_map, hx]; rfl
      have Hx := Lib.hid hxv
      clear hx hxv h1 h2 h3
      have hd1 : decide ((k : Int) < (n : Int)) = true := by simp; omega
      by_cases he : x.v.name = nm
      · have hq := ba_eq he
        have Hf := Lib.hid (findI_some Hx.out he Hk.out)
        clear he
        go_wp2_with fail
        go_ret
        exact ⟨by rw [Hf.out]; rfl, rfl⟩
      · have hq := ba_ne he
        have Hk2 : Hid (∀ (j : Nat) (v : Vol), j < k + 1 → (xs.map (·.v))[j]? = some v → v.name ≠ nm) := fun j v hj hv => by
          by_cases e : j = k
          · subst e; rw [Hx.out] at hv; injection hv with hv; rw [← hv]; exact he
          · exact Hk.out j v (by omega) hv
        clear he
        go_wp2_with fail
        go_round
        case rel => exact ⟨k + 1, by omega, by go_num, Hk2⟩
        case measure => simp [Go.RowKit.intOf]; omega
    · obtain rfl : k = n := by omega
      have hd1 : decide (k < k) = false := by simp
      have Hf := Lib.hid (findI_none (L := xs.map (·.v)) (nm := nm) fun i v hi => Hk.out i v (by have := (List.getElem?_eq_some_iff.1 hi).1; rw [List.length_map, Hn.out] at this; exact this) hi)
      go_wp2_with fail
      go_ret
      exact ⟨by rw [Hf.out]; rfl, rfl⟩

/-! ### two cells compared -/
theorem cl_fields : (Tryz.prog.fieldsOf 73).toList.map (fun f => (f.name == "_", f.type, f.offset)) = [(false, 3, 0), (false, 29, 1)] := by kernel_rfl
theorem cl_held : Tryz.prog.stoodInHeld 73 = false := by kernel_rfl
theorem cl_under : Tryz.prog.underlying 73 = some (.struct (Tryz.prog.fieldsOf 73)) := by kernel_rfl
theorem cl_part0 (c : Cl) (w : World) : (part 3 (cellC c).toArray 0).run Tryz.prog w = .ok (.int .i64 (c.1 : Nat)) w := by
  have hu := Tryz.underlying3
  simp [part, isAgg, run_underlying hu, cellC]
theorem cl_part1 {c : Cl} (hc : c.2.length = 32) (w : World) : (part 29 (cellC c).toArray 1).run Tryz.prog w = .ok (.agg (Lib.byteCells c.2).toArray) w := by
  have hs : (Tryz.prog.info? 29).map (·.size) = some 32 := digInfo
  have hu := Tryz.underlying29
  have hl : (Lib.byteCells c.2).length = 32 := by rw [Lib.byteCells_length, hc]
  cases hq : Tryz.prog.info? 29 with
  | none => simp [hq] at hs
  | some i0 =>
    have h1 : i0.size = 32 := by simpa [hq] using hs
    have e : List.take 32 (Lib.byteCells c.2) = Lib.byteCells c.2 := List.take_of_length_le (by omega)
    simp [part, isAgg, run_underlying hu, sizeOf, typeInfo, hq, h1, cellC, e]
theorem cl_list : ∃ f g : Field, (Tryz.prog.fieldsOf 73).toList = [f, g] ∧ (f.name ≠ "_" ∧ f.type = 3 ∧ f.offset = 0) ∧ (g.name ≠ "_" ∧ g.type = 29 ∧ g.offset = 1) := by
  have h := cl_fields
  revert h
  generalize (Tryz.prog.fieldsOf 73).toList = l
  intro h
  cases l with
  | nil => simp at h
  | cons f l => cases l with
    | nil => simp at h
    | cons g l => cases l with
      | cons _ _ => simp at h
      | nil =>
        simp only [List.map_cons, List.map_nil, List.cons.injEq, Prod.mk.injEq, beq_eq_false_iff_ne, and_true] at h
        exact ⟨f, g, rfl, h.1, h.2⟩
theorem eqFieldsV_yes {P : Program} {d : Nat} {xs ys : Array Value} {f : Field} {fs : List Field} {w : World} {a b : Value} (hn : f.name ≠ "_") (ha : (part f.type xs f.offset).run P w = .ok a w) (hb : (part f.type ys f.offset).run P w = .ok b w) (he : (Op.equalIn d f.type a b).run P w = .ok true w) :
    (Op.eqFields d xs ys (f :: fs)).run P w = (Op.eqFields d xs ys fs).run P w := by
  rw [Op.eqFields, if_pos hn]
  simp only [Sem.run_bind, ha, hb, he, Result.andThen_ok, Bool.not_true, Bool.false_eq_true, if_false]
theorem eqFieldsV_no {P : Program} {d : Nat} {xs ys : Array Value} {f : Field} {fs : List Field} {w : World} {a b : Value} (hn : f.name ≠ "_") (ha : (part f.type xs f.offset).run P w = .ok a w) (hb : (part f.type ys f.offset).run P w = .ok b w) (he : (Op.equalIn d f.type a b).run P w = .ok false w) :
    (Op.eqFields d xs ys (f :: fs)).run P w = .ok false w := by
  rw [Op.eqFields, if_pos hn]
  simp only [Sem.run_bind, ha, hb, he, Result.andThen_ok, Bool.not_false, if_true, Sem.run_pure]
theorem eqFieldsV_nil {P : Program} {d : Nat} {xs ys : Array Value} {w : World} : (Op.eqFields d xs ys []).run P w = .ok true w := by
  rw [Op.eqFields, Sem.run_pure]
set_option maxRecDepth 100000 in
theorem digV_eqv (e : Nat) (X Y : List UInt8) (hX : X.length = 32) (hY : Y.length = 32) (w : World) :
    (Op.equalIn (e + 1 + 1) 29 (.agg (Lib.byteCells X).toArray) (.agg (Lib.byteCells Y).toArray)).run Tryz.prog w = .ok (decide (X = Y)) w := by
  have hi : Tryz.prog.info? 5 = some ((Tryz.prog.info? 5).get (by kernel_rfl)) := (Option.some_get _).symm
  have h1 := run_equalIn_array (P := Tryz.prog) (w := w) (e + 1) (Lib.byteCells X).toArray (Lib.byteCells Y).toArray Tryz.underlying29 hi
  have hc : Tryz.prog.cellsOf 5 = 1 := by kernel_rfl
  rw [hc, eqItems_bytes e X Y w (List.range 32) (fun i hi => by have := List.mem_range.1 hi; omega), all_getD hX hY] at h1
  exact h1
theorem cl_eqv_at (e : Nat) (a b : Cl) (ha : a.2.length = 32) (hb : b.2.length = 32) (w : World) :
    (Op.equalIn (e + 1 + 1 + 1) 73 (.agg (cellC a).toArray) (.agg (cellC b).toArray)).run Tryz.prog w = .ok (decide (a = b)) w := by
  obtain ⟨f, g, hl, ⟨f1, f2, f3⟩, ⟨g1, g2, g3⟩⟩ := cl_list
  rw [run_equalIn_struct w (e + 1 + 1) 73 _ _ cl_under cl_held, hl]
  have p1 := cl_part0 a w
  have p2 := cl_part0 b w
  have p3 := cl_part1 ha w
  have p4 := cl_part1 hb w
  have q1 := run_equalIn_int w (e + 1) 3 .i64 .i64 (a.1 : Nat) (b.1 : Nat) Tryz.underlying3
  have q2 := digV_eqv e a.2 b.2 ha hb w
  by_cases h1 : a.1 = b.1
  · have h1' : (((a.1 : Nat) : Int) == ((b.1 : Nat) : Int)) = true := by simp [h1]
    rw [h1'] at q1
    rw [eqFieldsV_yes f1 (by rw [f2, f3]; exact p1) (by rw [f2, f3]; exact p2) (by rw [f2]; exact q1)]
    by_cases h2 : a.2 = b.2
    · rw [decide_eq_true h2] at q2
      rw [eqFieldsV_yes g1 (by rw [g2, g3]; exact p3) (by rw [g2, g3]; exact p4) (by rw [g2]; exact q2), eqFieldsV_nil, decide_eq_true (Prod.ext h1 h2)]
    · rw [decide_eq_false h2] at q2
      rw [eqFieldsV_no g1 (by rw [g2, g3]; exact p3) (by rw [g2, g3]; exact p4) (by rw [g2]; exact q2), decide_eq_false (fun e => h2 (by rw [e]))]
  · have h1' : (((a.1 : Nat) : Int) == ((b.1 : Nat) : Int)) = false := by simp; omega
    rw [h1'] at q1
    rw [eqFieldsV_no f1 (by rw [f2, f3]; exact p1) (by rw [f2, f3]; exact p2) (by rw [f2]; exact q1), decide_eq_false (fun e => h1 (by rw [e]))]
theorem cl_eqv (a b : Cl) (ha : a.2.length = 32) (hb : b.2.length = 32) (XL YL : List Value) (hX : XL = cellC a) (hY : YL = cellC b) (w : World) :
    (Op.equalIn 10000 73 (.agg XL.toArray) (.agg YL.toArray)).run Tryz.prog w = .ok (decide (a = b)) w := by
  subst hX hY
  exact cl_eqv_at 9997 a b ha hb w
theorem gtCl : Tryz.prog.eqGuardType Tryz.prog.depth 73 = false := by kernel_rfl

end Go.Proofs.YtcajhndhjlfmaaaGreat

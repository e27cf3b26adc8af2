/-
  Digests behind others; a digest of a row turned in one byte; a row without its first digest.
-/
import Derived.Test.YtkpgbgiamekhaabReverse
import Derived.Test.YtkpgbgiamekhaabMerkArg
import Derived.Test.YtkpgbgiamekhaabVerify
namespace Go.Proofs.Ytkpgbgiamekhaab
open Go.RowKit
set_option linter.unusedVariables false
set_option linter.unusedSimpArgs false

theorem digC_parts : ∀ {ds : List (List UInt8)} (h : ∀ i, i < ds.length → (ds.getD i []).length = 32) {j : Nat} {u : Value}, (digC ds)[j]? = some u → ∃ i r, i < ds.length ∧ j = i * 32 + r ∧ (Lib.byteCells (ds.getD i []))[r]? = some u
  | [], _, j, u, hj => by simp [digC] at hj
  | d :: ds, h, j, u, hj => by
    have hd : d.length = 32 := h 0 (by simp)
    have hc : digC (d :: ds) = Lib.byteCells d ++ digC ds := by unfold digC; rw [List.flatMap_cons]
    have hdl : (Lib.byteCells d).length = 32 := by rw [Lib.byteCells_length, hd]
    rw [hc] at hj
    by_cases hlt : j < 32
    · rw [List.getElem?_append_left (by omega)] at hj
      exact ⟨0, j, by simp, by omega, by simpa using hj⟩
    · rw [List.getElem?_append_right (by omega), hdl] at hj
      obtain ⟨i, r, hi, hjr, hc2⟩ := digC_parts (fun i hi => by have := h (i + 1) (by simpa using hi); simpa using this) hj
      exact ⟨i + 1, r, by simpa using hi, by omega, by simpa using hc2⟩

theorem run_append_digs {w : World} {B : Nat} {v : Value} {ds : List (List UInt8)} (h : DRow w B v ds) (hB : B ≤ w.heap.size) (ty : TypeId) (A : Option Addr) (m c : Nat) (es : List (List UInt8)) (he : es.length = m) (hg : DigsAt w A es) (hm : ds.length + m ≤ 1000000) :
    ∃ v' w', (Builtin.append_ #[30, 30] ty #[v, .slice A m c]).run Try.prog w = .ok v' w' ∧ DRow w' B v' (ds ++ es) ∧ w.grownBy w' v.ownBlock := by
  obtain ⟨i0, hi, hz0, hz1, hz2⟩ := info_parts digAll
  subst he
  rcases A with _ | ad
  · have hl0 : es = [] := by
      rcases Nat.eq_zero_or_pos es.length with h0 | h0
      · exact List.eq_nil_of_length_eq_zero h0
      · obtain ⟨_, _, e, _⟩ := hg h0; cases e
    subst hl0
    exact ⟨v, w, run_append_nothing w B 30 ty 26 i0 32 Try.underlying30 hi v _ _ h.2 c, by simpa using h, ⟨rfl, rfl, rfl, Nat.le_refl _, fun _ _ _ => rfl⟩⟩
  · have hall : ∀ d ∈ es, d.length = 32 := fun d hd => by
      obtain ⟨i, hi2, rfl⟩ := List.getElem_of_mem hd
      obtain ⟨b, off, e, hb, hx⟩ := hg (by omega)
      have := (hx i hi2).1
      simpa [List.getD, hi2] using this
    have hcells : ∀ j u, (digC es)[j]? = some u → w.cell? (ad.add j) = some u := by
      intro j u hj
      obtain ⟨i, r, hi2, rfl, hr⟩ := digC_parts (fun i hi2 => hall _ (by simp [List.getD, hi2])) hj
      obtain ⟨b, off, e, hb, hx⟩ := hg (by omega)
      injection e with e
      subst e
      have hadd : ∀ k, (⟨b, off, none⟩ : Addr).add k = ⟨b, off + k, none⟩ := fun k => by unfold Addr.add; split <;> simp_all
      rw [hadd, ← Nat.add_assoc]
      exact (hx i hi2).2 r u hr
    have hone : ∀ v ∈ digC es, v.oneCell' = true := by
      intro v hv
      unfold digC at hv
      obtain ⟨d, _, hd⟩ := List.mem_flatMap.1 hv
      exact byteCells_one d v hd
    obtain ⟨v', w', h1, h2, h3, _, _⟩ := run_append_own_at (P := Try.prog) w B 30 ty 26 i0 (.agg (Lib.byteCells zeros).toArray) 32 32 Try.underlying30 hi hz0 hz1 hz2 rfl (by decide) v ds.length (digC ds) h.2 ad es.length c (digC es) (digC_length hall) hcells hone (by unfold maxLen; omega) (by omega) hB
    refine ⟨v', w', h1, ⟨fun x hx => ?_, ?_⟩, h3⟩
    · rcases List.mem_append.1 hx with hx | hx
      · exact h.1 x hx
      · exact hall x hx
    · rw [digC_append, List.length_append]
      exact h2

theorem wpList_append_digs {ops : Array Oper} {rest : List Oper} {o : Oper} {a : Act} {w : World} {Q : Exit → Act → World → Prop} (hgd : o.guard = none) (s x : Operand) (ho : o.op = .call { callee := .builtin .append, args := #[s, x], argTypes := #[30, 30] })
    {B : Nat} {v : Value} {ds : List (List UInt8)} (h : DRow w B v ds) (hB : B ≤ w.heap.size) (hs : a.eval s = v) (A : Option Addr) (m c : Nat) (hx : a.eval x = .slice A m c) (es : List (List UInt8)) (he : es.length = m) (hg : DigsAt w A es) (hm : ds.length + m ≤ 1000000)
    (hK : ∀ v' w', DRow w' B v' (ds ++ es) → w.grownBy w' v.ownBlock → wpList Try.prog ops Q rest (a.put o.dst v') w') : wpList Try.prog ops Q (o :: rest) a w := by
  refine wpList_plain hgd fun K hK' => ?_
  obtain ⟨v', w', hr, h2, h3⟩ := run_append_digs h hB o.type A m c es he hg hm
  unfold Oper.wp execOp
  simp only [ho, resolve, invoke, builtin, Sem.run_bind, Sem.run_pure, Result.andThen_ok, List.map_toArray, List.map_cons, List.map_nil, hs, hx, hr]
  exact hK' _ _ (hK v' w' h2 h3)

/-- .. in a region, the operation being wanted. -/
theorem wp_append_digs {o : Oper} {a : Act} {w : World} {K : Act → World → Prop} {Q : Exit → Act → World → Prop} (dd : Option Tmp) (hdd : o.dst = dd) (s x : Operand) (ho : o.op = .call { callee := .builtin .append, args := #[s, x], argTypes := #[30, 30] })
    {B : Nat} {v : Value} {ds : List (List UInt8)} (h : DRow w B v ds) (hB : B ≤ w.heap.size) (hs : a.eval s = v) (A : Option Addr) (m c : Nat) (hx : a.eval x = .slice A m c) (es : List (List UInt8)) (he : es.length = m) (hg : DigsAt w A es) (hm : ds.length + m ≤ 1000000)
    (hK : ∀ v' w', DRow w' B v' (ds ++ es) → w.grownBy w' v.ownBlock → K (a.put dd v') w') : Oper.wp Try.prog o a w K Q := by
  subst hdd
  obtain ⟨v', w', hr, h2, h3⟩ := run_append_digs h hB o.type A m c es he hg hm
  unfold Oper.wp execOp
  simp only [ho, resolve, invoke, builtin, Sem.run_bind, Sem.run_pure, Result.andThen_ok, List.map_toArray, List.map_cons, List.map_nil, hs, hx, hr]
  exact hK v' w' h2 h3
/-- One byte of one digest, turned. -/
def turnF (ds : List (List UInt8)) (i j : Nat) (x : UInt8) : List (List UInt8) := ds.set i ((ds.getD i []).set j x)
theorem turnF_length (ds : List (List UInt8)) (i j : Nat) (x : UInt8) : (turnF ds i j x).length = ds.length := by simp [turnF]
theorem turnF_ne {ds : List (List UInt8)} {i j : Nat} {x : UInt8} (hi : i < ds.length) (hj : j < (ds.getD i []).length) (hx : x ≠ (ds.getD i []).getD j 0) : turnF ds i j x ≠ ds := by
  intro h
  have h1 : (turnF ds i j x).getD i [] = ds.getD i [] := by rw [h]
  have h2 : (turnF ds i j x).getD i [] = (ds.getD i []).set j x := by simp [turnF, List.getD, hi]
  rw [h2] at h1
  have hset : ∀ (l : List UInt8), j < l.length → (l.set j x).getD j 0 = x := fun l hl => by simp only [List.getD]; rw [List.getElem?_set_self hl]; rfl
  have h3 := hset _ hj
  rw [h1] at h3
  exact hx h3.symm
theorem digC_cell : ∀ {ds : List (List UInt8)} (h : ∀ d ∈ ds, d.length = 32) {i j : Nat} (hi : i < ds.length) (hj : j < 32) (x : UInt8), (digC ds).set (i * 32 + j) (.int .u8 (x.toNat : Nat)) = digC (turnF ds i j x)
  | [], _, i, j, hi, _, _ => by simp at hi
  | d :: ds, h, 0, j, hi, hj, x => by
    have hd := h d List.mem_cons_self
    have hc : ∀ (y : List UInt8), digC (y :: ds) = Lib.byteCells y ++ digC ds := fun y => by unfold digC; rw [List.flatMap_cons]
    show _ = digC ((d.set j x) :: ds)
    rw [hc, hc, Nat.zero_mul, Nat.zero_add, List.set_append_left _ _ (by rw [Lib.byteCells_length, hd]; exact hj)]
    congr 1
    unfold Lib.byteCells
    rw [List.map_set]
  | d :: ds, h, i + 1, j, hi, hj, x => by
    have hd := h d List.mem_cons_self
    have hdl : (Lib.byteCells d).length = 32 := by rw [Lib.byteCells_length, hd]
    have ih := digC_cell (fun y hy => h y (List.mem_cons_of_mem _ hy)) (i := i) (j := j) (by simpa using hi) hj x
    have hc : ∀ (zs : List (List UInt8)), digC (d :: zs) = Lib.byteCells d ++ digC zs := fun zs => by unfold digC; rw [List.flatMap_cons]
    show _ = digC (d :: turnF ds i j x)
    rw [hc, hc, ← ih, show (i + 1) * 32 + j = (Lib.byteCells d).length + (i * 32 + j) by rw [hdl]; omega, List.set_append_right _ _ (by omega), Nat.add_sub_cancel_left]

theorem byte_at {l : List UInt8} {j : Nat} (h : j < l.length) : (Lib.byteCells l)[j]? = some (.int .u8 ((l.getD j 0).toNat : Nat)) := by
  unfold Lib.byteCells
  rw [List.getElem?_map, List.getElem?_eq_getElem h]
  simp [List.getD, List.getElem?_eq_getElem h]

/-- Where a row of digests isn't empty it lies in a block. -/
theorem DRow.row {w : World} {B : Nat} {v : Value} {ds : List (List UInt8)} (h : DRow w B v ds) (hp : 0 < ds.length) : ∃ g c, v = .slice (some ⟨g, 0, none⟩) ds.length c ∧ B ≤ g ∧ g < w.heap.size ∧ ds.length ≤ c ∧ c ≤ maxLen ∧
    (∀ i j, i < ds.length → j < 32 → w.cell? ⟨g, i * 32 + j, none⟩ = some (.int .u8 (((ds.getD i []).getD j 0).toNat : Nat)) ∧ w.frozen? ⟨g, i * 32 + j, none⟩ = false) ∧
    ∀ i j x, i < ds.length → j < 32 → DRow (w.setCell ⟨g, i * 32 + j, none⟩ (.int .u8 (x : UInt8).toNat)) B v (turnF ds i j x) ∧ Below B w (w.setCell ⟨g, i * 32 + j, none⟩ (.int .u8 (x : UInt8).toNat)) := by
  rcases h.2.2 with ⟨rfl, hn⟩ | ⟨g, c, cur, rfl, h1, hg, h2, h3, h4, h5⟩
  · omega
  · refine ⟨g, c, rfl, h1, (Array.getElem?_eq_some_iff.1 hg).1, h2, h3, fun i j hi hj => ⟨?_, frozen_of_row w _ _ _ _ hg⟩, fun i j x hi hj => ⟨⟨fun d hd => ?_, ?_, .inr ⟨g, c, (cur.toList.set (i * 32 + j) (.int .u8 (x.toNat : Nat))).toArray, by rw [turnF_length], h1, ?_, by rw [turnF_length]; exact h2, h3, by simpa using h4, ?_⟩⟩, ?_⟩⟩
    · have hl : (ds.getD i []).length = 32 := h.1 _ (by simp [List.getD, hi])
      have hb : (Lib.byteCells (ds.getD i []))[j]? = some (.int .u8 (((ds.getD i []).getD j 0).toNat : Nat)) := byte_at (by omega)
      have hd := digC_at h.1 hi j _ hb
      rw [← h5] at hd
      have hlt : i * 32 + j < ds.length * 32 := by omega
      rw [List.getElem?_take_of_lt hlt] at hd
      rw [cell_of_row w g _ cur 26 (0, 0) hg]
      simpa using hd
    · unfold turnF at hd
      rcases List.mem_or_eq_of_mem_set hd with hd | hd
      · exact h.1 d hd
      · rw [hd, List.length_set]; exact h.1 _ (by simp [List.getD, hi])
    · rw [turnF_length, ← digC_cell h.1 hi hj, List.length_set]
      exact h.2.1
    · rw [heap_setCell_same w g _ cur 26 _ hg]
      simp only [Option.some.injEq, Obj.cells.injEq, and_true]
      exact Array.ext' (by simp)
    · rw [turnF_length, ← digC_cell h.1 hi hj, ← h5, List.take_set]
    · exact ⟨rfl, rfl, rfl, by simp [World.setCell], fun k hk => Below.heap_setCell w _ _ k (by simp; omega)⟩

/-- A row of digests without its first one. -/
theorem DigsAt.tail {w : World} {b off : Nat} {ds : List (List UInt8)} (h : DigsAt w (some ⟨b, off, none⟩) ds) : DigsAt w (some ⟨b, off + 32, none⟩) (ds.drop 1) := fun hp => by
  rw [List.length_drop] at hp
  obtain ⟨b', off', e, hb, hx⟩ := h (by omega)
  injection e with e
  injection e with e1 e2
  subst e1 e2
  refine ⟨b, off + 32, rfl, hb, fun i hi => ?_⟩
  rw [List.length_drop] at hi
  have := hx (i + 1) (by omega)
  rw [show off + (i + 1) * 32 = off + 32 + i * 32 by omega] at this
  have e : (ds.drop 1).getD i [] = ds.getD (i + 1) [] := by simp only [List.getD, List.getElem?_drop]; rw [Nat.add_comm 1 i]
  rw [e]
  exact this

theorem digs_one {w : World} {g : Nat} {T : TypeId} {d : List UInt8} (h : Arr w g T (Lib.byteCells d)) (hd : d.length = 32) : DigsAt w (some ⟨g, 0, none⟩) [d] := fun _ =>
  ⟨g, 0, rfl, h.lt, fun i hi => by
    obtain rfl : i = 0 := by simpa using hi
    exact ⟨hd, fun j v hj => by rw [h.cell]; simpa using hj⟩⟩

theorem verF_len {rt : List UInt8} {n a : Nat} {row : List UInt8} {ds : List (List UInt8)} (h : a < n) (hl : ds.length ≠ plenF n a) : verF rt n a row ds = false := by
  rw [verF_in h, leadF_ok, decide_eq_false hl, Bool.false_and]

end Go.Proofs.Ytkpgbgiamekhaab

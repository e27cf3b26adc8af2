/-
  The document's Set, as plain lists.
-/
import Derived.Test.YtcajhndhjlfmaaaGreatVolRGet
import Derived.Test.YtcajhndhjlfmaaaGreatVolWithout
namespace Go.Proofs.YtcajhndhjlfmaaaGreat
open Go.RowKit
set_option linter.unusedVariables false
set_option linter.unusedSimpArgs false

def stepC (n : Nat) (f : List UInt8) (st : List Cl × Bool) (c : Cl) : List Cl × Bool :=
  let s1 := if st.2 = false ∧ n ≤ c.1 then (st.1 ++ [(n, f)], true) else st
  if c.1 ≠ n then (s1.1 ++ [c], s1.2) else s1
def accC (n : Nat) (f : List UInt8) (d : Bool) (cs : List Cl) : List Cl × Bool := cs.foldl (stepC n f) ([], d)
theorem accC_snoc (n : Nat) (f : List UInt8) (d : Bool) (cs : List Cl) (c : Cl) : accC n f d (cs ++ [c]) = stepC n f (accC n f d cs) c := by simp [accC]
theorem fold_done (n : Nat) (f : List UInt8) : ∀ (cs acc : List Cl), cs.foldl (stepC n f) (acc, true) = (acc ++ delC cs n, true)
  | [], acc => by simp [delC]
  | c :: r, acc => by
    rw [List.foldl_cons]
    have e : stepC n f (acc, true) c = (if c.1 ≠ n then acc ++ [c] else acc, true) := by
      unfold stepC
      by_cases h : c.1 = n <;> simp [h]
    rw [e, fold_done n f r]
    unfold delC
    by_cases h : c.1 = n <;> simp [h]
theorem insC_head {x : Cl} : ∀ {cs : List Cl}, (∀ c ∈ cs, x.1 < c.1) → insC x cs = x :: cs
  | [], _ => rfl
  | y :: r, h => by unfold insC; rw [if_pos (h y List.mem_cons_self)]
def finC (st : List Cl × Bool) (n : Nat) (f : List UInt8) : List Cl := if st.2 = false then st.1 ++ [(n, f)] else st.1
theorem fold_put (n : Nat) (f : List UInt8) : ∀ (cs acc : List Cl), Rise cs → finC (cs.foldl (stepC n f) (acc, false)) n f = acc ++ putC cs n f
  | [], acc, _ => by simp [finC, putC, delC, insC]
  | c :: r, acc, hr => by
    unfold Rise at hr
    rw [List.pairwise_cons] at hr
    rw [List.foldl_cons]
    by_cases hle : n ≤ c.1
    · have e : stepC n f (acc, false) c = (acc ++ [(n, f)] ++ (if c.1 ≠ n then [c] else []), true) := by
        unfold stepC
        by_cases h : c.1 = n <;> simp [h, hle]
      rw [e, fold_done]
      have hall : ∀ d ∈ delC (c :: r) n, n < d.1 := fun d hd => by
        obtain ⟨h1, h2⟩ := delC_mem.1 hd
        rcases List.mem_cons.1 h1 with rfl | h1
        · omega
        · have := hr.1 d h1; omega
      unfold finC putC
      rw [if_neg (by simp), insC_head (x := (n, f)) hall]
      unfold delC
      by_cases h : c.1 = n <;> simp [h]
    · have e : stepC n f (acc, false) c = (acc ++ [c], false) := by
        unfold stepC
        have h : c.1 ≠ n := by omega
        simp [h, hle]
      rw [e, fold_put n f r _ hr.2]
      unfold putC delC
      have h : c.1 ≠ n := by omega
      rw [List.filter_cons_of_pos (by simp [h])]
      have e2 : ∀ l : List Cl, insC (n, f) (c :: l) = c :: insC (n, f) l := fun l => by
        rw [insC, if_neg (show ¬ n < c.1 by omega)]
      rw [e2, List.append_assoc]
      rfl
theorem acc_put {n : Nat} {f : List UInt8} {cs : List Cl} (hr : Rise cs) : finC (accC n f false cs) n f = putC cs n f := by
  have := fold_put n f cs [] hr
  simpa [accC] using this
theorem acc_drop {n : Nat} {f : List UInt8} {cs : List Cl} : finC (accC n f true cs) n f = delC cs n := by
  have := fold_done n f cs []
  unfold accC finC
  rw [this]
  simp
theorem acc_length (n : Nat) (f : List UInt8) (d : Bool) : ∀ (cs : List Cl), (accC n f d cs).1.length ≤ cs.length + 1 ∧ ((accC n f d cs).2 = false → (accC n f d cs).1.length ≤ cs.length) := by
  have h : ∀ (cs acc : List Cl) (d : Bool), (cs.foldl (stepC n f) (acc, d)).1.length ≤ acc.length + cs.length + (if d = false then 1 else 0) ∧ ((cs.foldl (stepC n f) (acc, d)).2 = false → (cs.foldl (stepC n f) (acc, d)).1.length ≤ acc.length + cs.length) := by
    intro cs
    induction cs with
    | nil => intro acc d; simp
    | cons c r ih =>
      intro acc d
      rw [List.foldl_cons]
      cases d with
      | true =>
        have e : stepC n f (acc, true) c = (if c.1 ≠ n then acc ++ [c] else acc, true) := by
          unfold stepC
          by_cases h : c.1 = n <;> simp [h]
        rw [e, fold_done]
        have hd := List.length_filter_le (fun c : Cl => decide (c.1 ≠ n)) r
        have hd' : (delC r n).length ≤ r.length := hd
        refine ⟨?_, fun h => by cases h⟩
        by_cases h : c.1 = n <;> simp [h] <;> omega
      | false =>
        by_cases hle : n ≤ c.1
        · have e : stepC n f (acc, false) c = (acc ++ [(n, f)] ++ (if c.1 ≠ n then [c] else []), true) := by
            unfold stepC
            by_cases h : c.1 = n <;> simp [h, hle]
          rw [e, fold_done]
          have hd := List.length_filter_le (fun c : Cl => decide (c.1 ≠ n)) r
          have hd' : (delC r n).length ≤ r.length := hd
          refine ⟨?_, fun h => by cases h⟩
          by_cases h : c.1 = n <;> simp [h] <;> omega
        · have e : stepC n f (acc, false) c = (acc ++ [c], false) := by
            unfold stepC
            have h : c.1 ≠ n := by omega
            simp [h, hle]
          rw [e]
          have := ih (acc ++ [c]) false
          simp only [List.length_append, List.length_cons, List.length_nil, if_true] at this ⊢
          exact ⟨by omega, fun h => by have := this.2 h; omega⟩
  intro cs
  have := h cs [] d
  unfold accC
  simp only [List.length_nil, Nat.zero_add] at this
  refine ⟨?_, this.2⟩
  have h1 := this.1
  cases d <;> simp at h1 <;> omega

theorem setV_at {L : List Vol} (h : RiseV L) {nm : ByteArray} {i : Nat} {v : Vol} (hi : L[i]? = some v) (hv : v.name = nm) (cs : List Cl) : setV L nm cs = L.set i { v with cells := cs } := by
  unfold setV
  apply List.ext_getElem?
  intro j
  rw [List.getElem?_map, List.getElem?_set]
  by_cases e : i = j
  · subst e
    rw [hi, if_pos rfl, if_pos (List.getElem?_eq_some_iff.1 hi).1]
    simp [vkey, hv]
  · rw [if_neg e]
    cases hj : L[j]? with
    | none => rfl
    | some u =>
      simp only [Option.map_some]
      rw [if_neg]
      intro eu
      have hu : u.name = v.name := by rw [hv]; exact ba_ext eu
      unfold RiseV at h
      have hne : ∀ a b : Nat, a < b → ∀ x y, L[a]? = some x → L[b]? = some y → x.name ≠ y.name := fun a b hab x y hx hy e => by
        obtain ⟨ha, ea⟩ := List.getElem?_eq_some_iff.1 hx
        obtain ⟨hb, eb⟩ := List.getElem?_eq_some_iff.1 hy
        have := List.pairwise_iff_getElem.1 h a b ha hb hab
        rw [ea, eb, vkey, vkey, e, Go.WideAt.bytes_irrefl] at this
        cases this
      rcases Nat.lt_trichotomy i j with h1 | h1 | h1
      · exact hne i j h1 v u hi hj hu.symm
      · exact e h1
      · exact hne j i h1 u v hj hi hu

/-- What Set does: a fingerprint put, or dropped. -/
def setL (L : List Vol) (nm : ByteArray) (nu : Int) (put : Bool) (f : List UInt8) : List Vol × List UInt8 × Bool × Int := if put = true then putL L nm nu f else dropL L nm nu
theorem results_tct {P : Program} {fn : Func} {q p u v : Tmp} {ty : TypeId} (h : fn.results = #[.tmp q, .cell p ty, .tmp u, .tmp v]) (tmps : Array Value) (w : World) (g : Nat) (t : TypeId) (cs : Array Value) (fr : Nat × Nat) (d : TypeDesc)
    (hp : tmps.getD p undef = .pointer (some ⟨g, 0, none⟩)) (r x y : Value) (hr : tmps.getD q undef = r) (hx : tmps.getD u undef = x) (hy : tmps.getD v undef = y) (hg : w.heap[g]? = some (.cells cs t fr))
    (hu : P.underlying ty = some d) (hd : (match d with | .struct _ | .array _ _ => true | _ => false) = true) (hi : (P.info? ty).map (·.size) = some cs.size) :
    (results fn tmps).run P w = .ok (.tuple #[r, .agg cs, x, y]) w := by
  have e : (results fn tmps).run P w = ((asAddr (tmps.getD p undef)).run P w).andThen fun a w₁ => ((loadVar ty a).run P w₁).andThen fun v' w₂ => .ok (.tuple #[tmps.getD q undef, v', tmps.getD u undef, tmps.getD v undef]) w₂ := by
    simp only [results, h]
    simp [Sem.run_bind, Result.andThen]
  rw [e, hp, hr, hx, hy]
  simp only [asAddr, Sem.run_pure, Result.andThen_ok, run_loadVar_row w g t ty cs fr d hg hu hd hi]
theorem wp_store_row_to {P : Program} {op : Oper} {a : Act} {w : World} {K : Act → World → Prop} {Q : Exit → Act → World → Prop} (hd : op.dst = none) (ty : TypeId) (x y : Operand) (ho : op.op = .store ty x y)
    (g : Nat) (cells : Array Value) (hx : a.eval x = .pointer (some ⟨g, 0, none⟩)) (hy : a.eval y = .agg cells) (t : TypeId) (old : Array Value) (hg : w.heap[g]? = some (.cells old t (0, 0))) (hi : (P.info? ty).map (·.size) = some cells.size)
    (hold : old.size = cells.size) (h1 : cells.all (·.oneCell') = true) (h : K a (w.setRow g cells)) : op.wp P a w K Q :=
  wp_store_row ty x y ho g cells hx hy t old hg hi hold h1 (by rw [hd]; exact h)

/-- A volume's cells are told anew, in a row of the call's own. -/
theorem VRow.turn {w : World} {B : Nat} {G G' : Nat → Prop} {g c : Nat} {xs : List Vx} (h : VRow w B G (.slice (some ⟨g, 0, none⟩) xs.length c) xs) {i : Nat} {x x' : Vx} (hi : xs[i]? = some x) (h1 : x'.v.name = x.v.name) (h2 : x'.v.quota = x.v.quota) (h3 : x'.v.frozen = x.v.frozen)
    (hok : VxOk w (fun b => G' b ∧ b ≠ g) x') : VsAt (w.setCell ⟨g, i * 4 + 3, none⟩ (.slice x'.adr x'.v.cells.length x'.cap)) (fun b => G b ∨ B ≤ b ∨ G' b) (some ⟨g, 0, none⟩) (xs.set i x') := by
  have hlt := (List.getElem?_eq_some_iff.1 hi).1
  obtain ⟨A, c', e, _, _, hV⟩ := h.slice
  injection e with e1 e2 e3
  subst e1
  have hheap : ∀ k, k ≠ g → (w.setCell ⟨g, i * 4 + 3, none⟩ (.slice x'.adr x'.v.cells.length x'.cap)).heap[k]? = w.heap[k]? := fun k hk => Below.heap_setCell w _ _ k hk
  have hsz : (w.setCell ⟨g, i * 4 + 3, none⟩ (.slice x'.adr x'.v.cells.length x'.cap)).heap.size = w.heap.size := by simp [World.setCell]
  rcases h.2.2 with ⟨hv, hn⟩ | ⟨g', cap, cur, hv, hB, hg, hle, hcap, hcs, htk⟩
  · cases hv
  injection hv with hv1 hv2 hv3
  injection hv1 with hv1
  injection hv1 with hv1
  subst hv1
  have hb : (w.setCell ⟨g, i * 4 + 3, none⟩ (.slice x'.adr x'.v.cells.length x'.cap)).heap[g]? = some (.cells (cur.setIfInBounds (i * 4 + 3) (.slice x'.adr x'.v.cells.length x'.cap)) 71 (0, 0)) := by
    have := heap_setCell_same w g (i * 4 + 3) cur 71 (.slice x'.adr x'.v.cells.length x'.cap) hg
    exact this
  have hcell : ∀ j, (w.setCell ⟨g, i * 4 + 3, none⟩ (.slice x'.adr x'.v.cells.length x'.cap)).cell? ⟨g, j, none⟩ = if j = i * 4 + 3 then some (.slice x'.adr x'.v.cells.length x'.cap) else w.cell? ⟨g, j, none⟩ := fun j => by
    rw [cell_of_row _ g j _ 71 (0, 0) hb, cell_of_row w g j cur 71 (0, 0) hg]
    by_cases hj : j = i * 4 + 3
    · rw [if_pos hj, hj]
      simp only [Array.getElem?_setIfInBounds]
      rw [if_pos trivial, if_pos (by omega)]
    · rw [if_neg hj]
      simp only [Array.getElem?_setIfInBounds]
      rw [if_neg (fun e => hj e.symm)]
  have hold := hV.1 (by omega)
  obtain ⟨b, off, eb, _, hblt, hr⟩ := hold
  injection eb with eb
  injection eb with eb1 eb2
  subst eb1 eb2
  refine ⟨fun _ => ⟨g, 0, rfl, .inr (.inl hB), by rw [hsz]; exact hblt, fun j y hy t u hu => ?_⟩, fun y hy => ?_⟩
  · rw [List.getElem?_set] at hy
    have ht4 : t < 4 := by have := (List.getElem?_eq_some_iff.1 hu).1; rwa [volC_length] at this
    rw [Nat.zero_add, hcell]
    by_cases hij : i = j
    · subst hij
      rw [if_pos rfl, if_pos hlt] at hy
      injection hy with hy
      subst hy
      by_cases ht : t = 3
      · subst ht
        rw [if_pos rfl]
        exact hu
      · rw [if_neg (by omega)]
        have := hr i x hi t u (by
          rw [← hu]
          unfold volC
          rcases t with _ | _ | _ | t
          · simp [h1]
          · simp [h2]
          · simp [h3]
          · omega)
        rwa [Nat.zero_add] at this
    · rw [if_neg hij] at hy
      rw [if_neg (by omega)]
      have := hr j y hy t u hu
      rwa [Nat.zero_add] at this
  · rcases List.mem_or_eq_of_mem_set hy with hy | rfl
    · exact (h.1 y hy).keep (by rw [hsz]; exact Nat.le_refl _) (fun b hb _ => hheap b fun e => hb.2 (by rw [e]; rfl)) fun b _ hb => .inl hb.1
    · exact hok.keep (by rw [hsz]; exact Nat.le_refl _) (fun b hb _ => hheap b hb.2) fun b _ hb => .inr (.inr hb.1)

end Go.Proofs.YtcajhndhjlfmaaaGreat

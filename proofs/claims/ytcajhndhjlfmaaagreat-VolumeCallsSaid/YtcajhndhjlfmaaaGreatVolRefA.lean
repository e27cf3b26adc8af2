/-
  The document's side, the small functions: Named, quota, Add, Without.
-/
import Derived.Test.YtcajhndhjlfmaaaGreatVolFind
import Derived.Test.YtcajhndhjlfmaaaGreatVolCalls
import Derived.Deep.DeepCutAuto
import Derived.Deep.CutBlock
import Derived.IntWalk
namespace Go.Proofs.YtcajhndhjlfmaaaGreat
open Go.RowKit
set_option linter.unusedVariables false
set_option linter.unusedSimpArgs false

theorem rquota_any (n : Int) (w : World) (b : Bool) (hb : quotaB n = b) : Calls Tryz.prog 49 #[.int .i64 n] w fun e w' => e = .returned (.bool b) ∧ w = w' := by
  have Hb := Lib.hid hb
  by_cases h0 : 0 ≤ n
  · have hd : decide (n ≥ 0) = true := by simpa using h0
    clear hb
    go_enter Tryz.func49, Tryz.ntmps49
    go_wp2
    go_ret
    refine ⟨?_, rfl⟩
    rw [← Hb.out]
    unfold quotaB
    simp [h0]
  · have hd : decide (n ≥ 0) = false := by simpa using h0
    clear hb
    go_enter Tryz.func49, Tryz.ntmps49
    go_wp2
    go_ret
    refine ⟨?_, rfl⟩
    rw [← Hb.out]
    unfold quotaB
    rw [decide_eq_false (by omega)]
    rfl

set_option maxHeartbeats 1000000 in
theorem rnamed_any (s : ByteArray) (hs : s.size ≤ maxLen) (w : World) (b : Bool) (hb : namedB s.data.toList = b) : Calls Tryz.prog 48 #[.string s] w fun e w' => e = .returned (.bool b) ∧ w = w' := by
  unfold maxLen at hs
  have Hb := Lib.hid hb
  clear hb
  go_enter Tryz.func48, Tryz.ntmps48
  go_wp2
  go_loop [3] (fun i => ∃ k : Nat, k ≤ s.size ∧ i = .int .i64 k ∧ Hid (∀ (j : Nat) (hj : j < s.size), j < k → 33 ≤ s[j].toNat ∧ s[j].toNat ≤ 126)) (fun i => s.size - (Go.RowKit.intOf i).toNat)
  case atStart => exact ⟨0, Nat.zero_le _, rfl, fun j hj h => by omega⟩
  case round =>
    obtain ⟨k, hk, rfl, Hk⟩ := hrel
    by_cases hlt : k < s.size
    · by_cases hlo : s[k].toNat < 33
      · have hdl : decide ((s[k].toNat : Int) < 33) = true := by simp; omega
        have Hbad := Lib.hid (namedB_bad s k hlt (.inl hlo))
        go_wp2
        go_ret
        exact ⟨by rw [← Hb.out, Hbad.out]; rfl, rfl⟩
      · have hdl : decide ((s[k].toNat : Int) < 33) = false := by simp; omega
        by_cases hhi : 126 < s[k].toNat
        · have hdh : decide ((s[k].toNat : Int) > 126) = true := by simp; omega
          have Hbad := Lib.hid (namedB_bad s k hlt (.inr hhi))
          go_wp2
          go_ret
          exact ⟨by rw [← Hb.out, Hbad.out]; rfl, rfl⟩
        · have hdh : decide ((s[k].toNat : Int) > 126) = false := by simp; omega
          have Hk2 : Hid (∀ (j : Nat) (hj : j < s.size), j < k + 1 → 33 ≤ s[j].toNat ∧ s[j].toNat ≤ 126) := fun j hj h => by
            by_cases e : j = k
            · subst e; omega
            · exact Hk.out j hj (by omega)
          go_wp2
          go_round
          case rel => exact ⟨k + 1, by omega, by go_num, Hk2⟩
          case measure => simp [Go.RowKit.intOf]; omega
    · have hd3 : decide (k < s.size) = false := by simpa using hlt
      by_cases h1 : s.size < 1
      · have hd : decide ((s.size : Int) ≥ 1) = false := by simp; omega
        have Hbad := Lib.hid (namedB_short s (.inl h1))
        go_wp2
        go_ret
        exact ⟨by rw [← Hb.out, Hbad.out]; rfl, rfl⟩
      · have hd : decide ((s.size : Int) ≥ 1) = true := by simp; omega
        by_cases h2 : 20 < s.size
        · have hd2 : decide ((s.size : Int) ≤ 20) = false := by simp; omega
          have Hbad := Lib.hid (namedB_short s (.inr h2))
          go_wp2
          go_ret
          exact ⟨by rw [← Hb.out, Hbad.out]; rfl, rfl⟩
        · have hd2 : decide ((s.size : Int) ≤ 20) = true := by simp; omega
          have Hgood := Lib.hid (namedB_eq s (by omega) (by omega) fun j hj => Hk.out j hj (by omega))
          go_wp2
          go_ret
          exact ⟨by rw [← Hb.out, Hgood.out]; rfl, rfl⟩

/-! ### rows of volumes, cut and laid on -/
theorem VsAt.take {w : World} {G : Nat → Prop} {A : Option Addr} {xs : List Vx} (h : VsAt w G A xs) (k : Nat) : VsAt w G A (xs.take k) := by
  refine ⟨fun hp => ?_, fun x hx => h.2 x (List.mem_of_mem_take hx)⟩
  obtain ⟨b, off, e, hg, hlt, hr⟩ := h.1 (by have := List.length_take_le' k xs; omega)
  refine ⟨b, off, e, hg, hlt, fun i x hx => ?_⟩
  have hik : i < k := by have := (List.getElem?_eq_some_iff.1 hx).1; rw [List.length_take] at this; omega
  rw [List.getElem?_take_of_lt hik] at hx
  exact hr i x hx
theorem VsAt.drop {w : World} {G : Nat → Prop} {b off : Nat} {xs : List Vx} (h : VsAt w G (some ⟨b, off, none⟩) xs) (k : Nat) : VsAt w G (some ⟨b, off + k * 4, none⟩) (xs.drop k) := by
  refine ⟨fun hp => ?_, fun x hx => h.2 x (List.mem_of_mem_drop hx)⟩
  rw [List.length_drop] at hp
  obtain ⟨b', off', e, hg, hlt, hr⟩ := h.1 (by omega)
  injection e with e
  injection e with e1 e2
  subst e1 e2
  refine ⟨b, off + k * 4, rfl, hg, hlt, fun i x hx => ?_⟩
  rw [List.getElem?_drop] at hx
  have := hr (k + i) x hx
  rwa [Nat.add_mul, ← Nat.add_assoc] at this
/-- The cells of volumes one behind the other, where they lie. -/
theorem VsAt.flat {w : World} {G : Nat → Prop} {b off : Nat} {xs : List Vx} (h : VsAt w G (some ⟨b, off, none⟩) xs) : ∀ j u, (volsC xs)[j]? = some u → w.cell? ((⟨b, off, none⟩ : Addr).add j) = some u := by
  intro j u hj
  have hadd : (⟨b, off, none⟩ : Addr).add j = ⟨b, off + j, none⟩ := by unfold Addr.add; split <;> simp_all
  rw [hadd]
  have hl : (volsC xs).length = xs.length * 4 := by
    clear h hj
    induction xs with
    | nil => rfl
    | cons y ys ih =>
      show (volC y ++ volsC ys).length = _
      rw [List.length_append, ih, volC_length, List.length_cons]
      omega
  have hj' : j < xs.length * 4 := by rw [← hl]; exact (List.getElem?_eq_some_iff.1 hj).1
  obtain ⟨b', off', e, hg, hlt, hr⟩ := h.1 (by omega)
  injection e with e
  injection e with e1 e2
  subst e1 e2
  have hi : j / 4 < xs.length := by omega
  have hx := List.getElem?_eq_getElem hi
  have hm : j % 4 < (volC xs[j / 4]).length := by rw [volC_length]; omega
  have hv := flat_at (k := 4) (f := volC) (fun x _ => volC_length x) hx (j % 4) _ (List.getElem?_eq_getElem hm)
  have e4 : j / 4 * 4 + j % 4 = j := by omega
  rw [e4] at hv
  have huv : u = (volC xs[j / 4])[j % 4] := by
    have : (volsC xs)[j]? = some (volC xs[j / 4])[j % 4] := hv
    rw [hj] at this
    exact (Option.some.inj this)
  have := hr (j / 4) _ hx (j % 4) _ (List.getElem?_eq_getElem hm)
  rw [Nat.add_assoc, e4] at this
  rw [huv]
  exact this
theorem VRow.empty (w : World) (B : Nat) (G : Nat → Prop) (hB : B ≤ w.heap.size) : VRow (w.alloc (.cells #[] 71)) B G (.slice (some ⟨w.heap.size, 0, none⟩) 0 0) [] :=
  ⟨by simp, rfl, .inr ⟨w.heap.size, 0, #[], rfl, hB, heap_alloc_new w _, Nat.le_refl _, by unfold maxLen; omega, rfl, rfl⟩⟩
/-- An append of a slice of volumes, nil or not. -/
theorem run_append_vls {w : World} {B : Nat} {G : Nat → Prop} {v : Value} {xs : List Vx} (h : VRow w B G v xs) (hB : B ≤ w.heap.size) (ty : TypeId) (A : Option Addr) (m c : Nat) (ys : List Vx) (hm' : ys.length = m) (hys : VsAt w G A ys) (hG : ∀ b, G b → b < B) (hm : xs.length + m ≤ 1000000) :
    ∃ v' w', (Builtin.append_ #[27, 27] ty #[v, .slice A m c]).run Tryz.prog w = .ok v' w' ∧ VRow w' B G v' (xs ++ ys) ∧ w.grownBy w' v.ownBlock := by
  have hys' : ∀ x ∈ ys, VxOk w (fun b => G b ∧ v.ownBlock ≠ some b) x := fun x hx => (hys.2 x hx).keep (Nat.le_refl _) (fun _ _ _ => rfl) fun b _ hb => ⟨hb, fun e => by have := (h.lt b e).1; have := hG b hb; omega⟩
  cases hA : A with
  | some a =>
    obtain ⟨b, off, spot⟩ := a
    by_cases hp : 0 < ys.length
    · obtain ⟨b', off', e, _⟩ := hys.1 hp
      rw [hA] at e
      injection e with e
      rw [e]
      exact run_append_vl h hB ty ⟨b', off', none⟩ m c ys hm' hys' (by rw [hA, e] at hys; exact hys.flat) hm
    · have : ys = [] := List.eq_nil_of_length_eq_zero (by omega)
      subst this
      exact run_append_vl h hB ty ⟨b, off, spot⟩ m c [] hm' hys' (fun j u hj => by simp [volsC] at hj) hm
  | none =>
    have : ys = [] := by
      rcases Nat.eq_zero_or_pos ys.length with h0 | h0
      · exact List.eq_nil_of_length_eq_zero h0
      · obtain ⟨b, off, e, _⟩ := hys.1 h0; rw [hA] at e; cases e
    subst this
    subst hm'
    obtain ⟨i0, hi, hz0, hz1, hz2⟩ := info_partsV vlAll
    exact ⟨v, w, run_append_nothing w B 27 ty 71 i0 4 Tryz.underlying27 hi v _ _ h.2 c, by simpa using h, ⟨rfl, rfl, rfl, Nat.le_refl _, fun _ _ _ => rfl⟩⟩
theorem wp_append_vls {o : Oper} {a : Act} {w : World} {K : Act → World → Prop} {Q : Exit → Act → World → Prop} (dd : Option Tmp) (hdd : o.dst = dd) (s x : Operand) (ho : o.op = .call { callee := .builtin .append, args := #[s, x], argTypes := #[27, 27] })
    {B : Nat} {G : Nat → Prop} {v : Value} {xs : List Vx} (h : VRow w B G v xs) (hB : B ≤ w.heap.size) (hs : a.eval s = v) (A : Option Addr) (m c : Nat) (hx : a.eval x = .slice A m c) (ys : List Vx) (hm' : ys.length = m) (hys : VsAt w G A ys) (hG : ∀ b, G b → b < B) (hm : xs.length + m ≤ 1000000)
    (hK : ∀ v' w', VRow w' B G v' (xs ++ ys) → w.grownBy w' v.ownBlock → K (a.put dd v') w') : Oper.wp Tryz.prog o a w K Q := by
  subst hdd
  obtain ⟨v', w', hr, h2, h3⟩ := run_append_vls h hB o.type A m c ys hm' hys hG hm
  unfold Oper.wp execOp
  simp only [ho, resolve, invoke, builtin, Sem.run_bind, Sem.run_pure, Result.andThen_ok, List.map_toArray, List.map_cons, List.map_nil, hs, hx, hr]
  exact hK v' w' h2 h3
theorem wpList_append_vls {ops : Array Oper} {rest : List Oper} {o : Oper} {a : Act} {w : World} {Q : Exit → Act → World → Prop} (hgd : o.guard = none) (s x : Operand) (ho : o.op = .call { callee := .builtin .append, args := #[s, x], argTypes := #[27, 27] })
    {B : Nat} {G : Nat → Prop} {v : Value} {xs : List Vx} (h : VRow w B G v xs) (hB : B ≤ w.heap.size) (hs : a.eval s = v) (A : Option Addr) (m c : Nat) (hx : a.eval x = .slice A m c) (ys : List Vx) (hm' : ys.length = m) (hys : VsAt w G A ys) (hG : ∀ b, G b → b < B) (hm : xs.length + m ≤ 1000000)
    (hK : ∀ v' w', VRow w' B G v' (xs ++ ys) → w.grownBy w' v.ownBlock → wpList Tryz.prog ops Q rest (a.put o.dst v') w') : wpList Tryz.prog ops Q (o :: rest) a w :=
  wpList_plain hgd fun K hK' => wp_append_vls o.dst rfl s x ho h hB hs A m c hx ys hm' hys hG hm fun v' w' h1 h2 => hK' _ _ (hK v' w' h1 h2)

/-- An append of a slice of cells, nil or not. -/
theorem run_append_cls {w : World} {B : Nat} {G : Nat → Prop} {v : Value} {xs : List Cl} (h : CRow w B v xs) (hB : B ≤ w.heap.size) (ty : TypeId) (A : Option Addr) (m c : Nat) (ys : List Cl) (hm' : ys.length = m) (hys : CsAt w G A ys) (hm : xs.length + m ≤ 2000000) :
    ∃ v' w', (Builtin.append_ #[69, 69] ty #[v, .slice A m c]).run Tryz.prog w = .ok v' w' ∧ CRow w' B v' (xs ++ ys) ∧ w.grownBy w' v.ownBlock := by
  obtain ⟨i0, hi, hz0, hz1, hz2⟩ := info_partsV clAll
  subst hm'
  rcases A with _ | ad
  · have hl0 : ys = [] := by
      rcases Nat.eq_zero_or_pos ys.length with h0 | h0
      · exact List.eq_nil_of_length_eq_zero h0
      · obtain ⟨_, _, e, _⟩ := hys h0; cases e
    subst hl0
    exact ⟨v, w, run_append_nothing w B 69 ty 73 i0 33 Tryz.underlying69 hi v _ _ h.2 c, by simpa using h, ⟨rfl, rfl, rfl, Nat.le_refl _, fun _ _ _ => rfl⟩⟩
  · have hk : ∀ y ∈ ys, y.2.length = 32 := fun y hy => by
      obtain ⟨j, hj, e⟩ := List.mem_iff_getElem.1 hy
      obtain ⟨b, off, _, _, _, hr⟩ := hys (by omega)
      exact (hr j y (by rw [List.getElem?_eq_getElem hj, e])).1
    have hl33 : (cellsC ys).length = ys.length * 33 := by
      clear hys hm
      induction ys with
      | nil => rfl
      | cons y ys ih =>
        show (cellC y ++ cellsC ys).length = _
        rw [List.length_append, ih (fun z hz => hk z (List.mem_cons_of_mem _ hz)), cellC_length (hk y List.mem_cons_self), List.length_cons]
        omega
    have hone : ∀ u ∈ cellsC ys, u.oneCell' = true := fun u hu => by
      obtain ⟨y, _, hu⟩ := List.mem_flatMap.1 hu
      exact cellC_one y u hu
    have hcells : ∀ j u, (cellsC ys)[j]? = some u → w.cell? (ad.add j) = some u := fun j u hj => by
      have hjl := (List.getElem?_eq_some_iff.1 hj).1
      obtain ⟨b, off, e, _, _, hr⟩ := hys (by omega)
      obtain rfl : ad = ⟨b, off, none⟩ := Option.some.inj e
      have hq : j / 33 < ys.length := by omega
      obtain ⟨y, hy⟩ : ∃ y, ys[j / 33]? = some y := ⟨_, List.getElem?_eq_getElem hq⟩
      obtain ⟨_, hr2⟩ := hr _ y hy
      have hm : j % 33 < (cellC y).length := by rw [cellC_length (hk y (List.mem_of_getElem? hy))]; omega
      have h2 := flat_at (k := 33) (f := cellC) (fun x hx => cellC_length (hk x hx)) hy (j % 33) _ (List.getElem?_eq_getElem hm)
      rw [show j / 33 * 33 + j % 33 = j by omega] at h2
      have h2' : (cellsC ys)[j]? = _ := h2
      rw [hj] at h2'
      have h2' := Option.some.inj h2'
      have h3 := hr2 (j % 33) _ (List.getElem?_eq_getElem hm)
      rw [← h2', show off + j / 33 * 33 + j % 33 = off + j by omega] at h3
      have hadd : (⟨b, off, none⟩ : Addr).add j = ⟨b, off + j, none⟩ := by unfold Addr.add; split <;> simp_all
      rw [hadd]; exact h3
    obtain ⟨v', w', h1, h2, h3, _, _⟩ := run_append_own_at (P := Tryz.prog) w B 69 ty 73 i0 (.agg clZ.toArray) 33 40 Tryz.underlying69 hi hz0 hz1 hz2 rfl (by decide) v xs.length (cellsC xs) h.2 ad ys.length c (cellsC ys) hl33 hcells hone (by unfold maxLen; omega) (by omega) hB
    refine ⟨v', w', h1, ⟨fun y hy => ?_, ?_⟩, h3⟩
    · rcases List.mem_append.1 hy with hy | hy
      · exact h.1 y hy
      · exact hk y hy
    · rw [cellsC_append, List.length_append]
      exact h2
theorem wpList_append_cls {ops : Array Oper} {rest : List Oper} {o : Oper} {a : Act} {w : World} {Q : Exit → Act → World → Prop} (hgd : o.guard = none) (s x : Operand) (ho : o.op = .call { callee := .builtin .append, args := #[s, x], argTypes := #[69, 69] })
    {B : Nat} {G : Nat → Prop} {v : Value} {xs : List Cl} (h : CRow w B v xs) (hB : B ≤ w.heap.size) (hs : a.eval s = v) (A : Option Addr) (m c : Nat) (hx : a.eval x = .slice A m c) (ys : List Cl) (hm' : ys.length = m) (hys : CsAt w G A ys) (hm : xs.length + m ≤ 2000000)
    (hK : ∀ v' w', CRow w' B v' (xs ++ ys) → w.grownBy w' v.ownBlock → wpList Tryz.prog ops Q rest (a.put o.dst v') w') : wpList Tryz.prog ops Q (o :: rest) a w := by
  refine wpList_plain hgd fun K hK' => ?_
  obtain ⟨v', w', hr, h2, h3⟩ := run_append_cls h hB o.type A m c ys hm' hys hm
  unfold Oper.wp execOp
  simp only [ho, resolve, invoke, builtin, Sem.run_bind, Sem.run_pure, Result.andThen_ok, List.map_toArray, List.map_cons, List.map_nil, hs, hx, hr]
  exact hK' _ _ (hK v' w' h2 h3)
theorem CRow.empty (w : World) (B : Nat) (hB : B ≤ w.heap.size) : CRow (w.alloc (.cells #[] 73)) B (.slice (some ⟨w.heap.size, 0, none⟩) 0 0) [] :=
  ⟨by simp, rfl, .inr ⟨w.heap.size, 0, #[], rfl, hB, heap_alloc_new w _, Nat.le_refl _, by unfold maxLen; omega, rfl, rfl⟩⟩

/-! ### the document's volumes -/
/-- A slice of volumes, nil or not, in blocks of G. -/
def VSl (w : World) (G : Nat → Prop) (A : Option Addr) (n c : Nat) (L : List Vol) : Prop :=
  ∃ xs, xs.map (·.v) = L ∧ xs.length = n ∧ n ≤ c ∧ c ≤ maxLen ∧ VsAt w G A xs ∧ (A = none ∧ c = 0 ∨ ∃ b off, A = some ⟨b, off, none⟩)
theorem VSl.below {w w' : World} {G : Nat → Prop} {A : Option Addr} {n c : Nat} {L : List Vol} (h : VSl w G A n c L) (hb : Below w.heap.size w w') : VSl w' G A n c L := by
  obtain ⟨xs, h1, h2, h3, h4, h5, h6⟩ := h
  exact ⟨xs, h1, h2, h3, h4, h5.below hb, h6⟩
theorem VSl.only {R : Nat → Prop} {w w' : World} {G : Nat → Prop} {A : Option Addr} {n c : Nat} {L : List Vol} (h : VSl w G A n c L) (hO : Only R w w') (hR : ∀ b, G b → ¬ R b) : VSl w' G A n c L := by
  obtain ⟨xs, h1, h2, h3, h4, h5, h6⟩ := h
  exact ⟨xs, h1, h2, h3, h4, h5.only hO hR, h6⟩
/-- The slice's blocks are those below the heap's end. -/
theorem VSl.tight {w : World} {G : Nat → Prop} {A : Option Addr} {n c : Nat} {L : List Vol} (h : VSl w G A n c L) : VSl w (fun b => G b ∧ b < w.heap.size) A n c L := by
  obtain ⟨xs, h1, h2, h3, h4, h5, h6⟩ := h
  exact ⟨xs, h1, h2, h3, h4, h5.keep (Nat.le_refl _) (fun _ _ _ => rfl) fun b hlt hg => ⟨hg, hlt⟩, h6⟩
theorem VSl.more {w : World} {G G' : Nat → Prop} {A : Option Addr} {n c : Nat} {L : List Vol} (h : VSl w G A n c L) (hG : ∀ b, b < w.heap.size → G b → G' b) : VSl w G' A n c L := by
  obtain ⟨xs, h1, h2, h3, h4, h5, h6⟩ := h
  exact ⟨xs, h1, h2, h3, h4, h5.keep (Nat.le_refl _) (fun _ _ _ => rfl) hG, h6⟩
theorem VRow.vsl {w : World} {B : Nat} {G : Nat → Prop} {v : Value} {xs : List Vx} (h : VRow w B G v xs) : ∃ A c, v = .slice A xs.length c ∧ VSl w (fun b => G b ∨ B ≤ b) A xs.length c (xs.map (·.v)) := by
  obtain ⟨A, c, e, h1, h2, h3⟩ := h.slice
  refine ⟨A, c, e, xs, rfl, rfl, h1, h2, h3, ?_⟩
  rcases h.2.2 with ⟨hv, hn⟩ | ⟨g, cap, cur, hv, _⟩
  · rw [hv] at e; injection e with e1 e2 e3; exact .inl ⟨e1.symm, e3.symm⟩
  · rw [hv] at e; injection e with e1 e2 e3; exact .inr ⟨g, 0, e1.symm⟩

/-- How many names of the row come ahead of x's. -/
def aheadOf (L : List Vol) (x : Vol) : Nat := (L.takeWhile fun v => bytesBefore (vkey v) (vkey x)).length
theorem insV_cut {x : Vol} : ∀ {L : List Vol}, (∀ v ∈ L, vkey v ≠ vkey x) → insV x L = L.take (aheadOf L x) ++ (x :: L.drop (aheadOf L x))
  | [], _ => rfl
  | y :: r, hn => by
    have hy := hn y List.mem_cons_self
    have ih := insV_cut (L := r) fun v hv => hn v (List.mem_cons_of_mem _ hv)
    unfold insV aheadOf
    rw [List.takeWhile_cons]
    cases hb : bytesBefore (vkey y) (vkey x) with
    | true =>
      have hx : bytesBefore (vkey x) (vkey y) = false := by
        cases hx : bytesBefore (vkey x) (vkey y) with
        | false => rfl
        | true => have := Go.WideShapes.bytes_trans _ _ _ hb hx; rw [Go.WideAt.bytes_irrefl] at this; cases this
      rw [hx, if_neg (by simp), if_pos rfl]
      simp only [List.length_cons, List.take_succ_cons, List.drop_succ_cons, List.cons_append]
      rw [ih]
      rfl
    | false =>
      have hx : bytesBefore (vkey x) (vkey y) = true := by
        rcases Go.WideAt.bytes_total _ _ hy with h | h
        · rw [h] at hb; cases hb
        · exact h
      rw [hx, if_pos rfl, if_neg (by simp)]
      rfl
theorem aheadOf_le (L : List Vol) (x : Vol) : aheadOf L x ≤ L.length := by unfold aheadOf; exact List.IsPrefix.length_le (List.takeWhile_prefix _)
theorem aheadOf_is {L : List Vol} {x : Vol} {k : Nat} (hk : k ≤ L.length) (h : ∀ (j : Nat) (v : Vol), j < k → L[j]? = some v → bytesBefore (vkey v) (vkey x) = true) (h2 : ∀ v, L[k]? = some v → bytesBefore (vkey v) (vkey x) = false) : aheadOf L x = k := by
  induction L generalizing k with
  | nil => simp at hk; subst hk; rfl
  | cons y r ih =>
    unfold aheadOf
    rw [List.takeWhile_cons]
    cases k with
    | zero => rw [h2 y rfl, if_neg (by simp)]; rfl
    | succ k =>
      rw [h 0 y (by omega) rfl, if_pos rfl, List.length_cons]
      congr 1
      exact ih (k := k) (by simpa using hk) (fun j v hj hv => h (j + 1) v (by omega) hv) (fun v hv => h2 v hv)

end Go.Proofs.YtcajhndhjlfmaaaGreat

/-
  What holds in the region of ShaTags in which two digests are taken, whatever its order. No walk.
-/
import Derived.Test.YtggefcelcjhgeaaTagged
import Derived.Test.YtggefcelcjhgeaaGen
import Derived.Test.YtggefcelcjhgeaaAnyInv
namespace Go.Proofs.Ytggefcelcjhgeaa
open Go.RowKit
set_option linter.unusedVariables false

def upd (s : Nat → Value) (i : Nat) (v : Value) : Nat → Value := fun j => if j = i then v else s j
theorem upd_same (s : Nat → Value) (i : Nat) (v : Value) : upd s i v i = v := by simp [upd]
theorem upd_ne (s : Nat → Value) {i j : Nat} (v : Value) (h : j ≠ i) : upd s i v j = s j := by simp [upd, h]

structure I7 (val : Nat → Value) (rs1 rs2 : List (List UInt8)) (XL YL : List Value) (T : TypeId) (w3 : World) (D : Nat → Prop) (s : Nat → Value) (w : World) : Prop where
  bel : Below w3.heap.size w3 w
  val : ∀ j, j < 14 → j ≠ 3 → j ≠ 12 → D j → s j = val j
  row3 : D 3 → ¬ D 4 → ∃ g, s 3 = .slice (some ⟨g, 0, none⟩) 2 2 ∧ RowsAt w w.heap.size (some ⟨g, 0, none⟩) rs1
  row12 : D 12 → ¬ D 13 → ∃ g, s 12 = .slice (some ⟨g, 0, none⟩) 2 2 ∧ RowsAt w w.heap.size (some ⟨g, 0, none⟩) rs2
  new14 : D 14 → ∃ g cs, s 14 = .pointer (some ⟨g, 0, none⟩) ∧ w3.heap.size ≤ g ∧ cs.length = 32 ∧ Arr w g T cs ∧ (D 16 → cs = XL)
  new15 : D 15 → ∃ g cs, s 15 = .pointer (some ⟨g, 0, none⟩) ∧ w3.heap.size ≤ g ∧ cs.length = 32 ∧ Arr w g T cs ∧ (D 17 → cs = YL)
  apart : D 14 → D 15 → s 14 ≠ s 15
  d16 : D 16 → D 14 ∧ D 15
  d17 : D 17 → D 14 ∧ D 15

section
variable {val : Nat → Value} {rs1 rs2 : List (List UInt8)} {XL YL : List Value} {T : TypeId} {w3 : World} {D : Nat → Prop} {s : Nat → Value} {w w' : World}

theorem rows_up {A : Option Addr} {rs : List (List UInt8)} (h : RowsAt w w.heap.size A rs) (hb : Below w.heap.size w w') : RowsAt w' w'.heap.size A rs := (h.below hb (Nat.le_refl _)).more hb.size

theorem I7.ext {D' : Nat → Prop} (h : I7 val rs1 rs2 XL YL T w3 D s w) (hd : ∀ i, D i ↔ D' i) : I7 val rs1 rs2 XL YL T w3 D' s w := by
  have : D = D' := funext fun i => propext (hd i)
  subst this; exact h

theorem I7.begin (hb : Below w3.heap.size w3 w) : I7 val rs1 rs2 XL YL T w3 (fun _ => False) s w :=
  ⟨hb, fun _ _ _ _ h => h.elim, fun h => h.elim, fun h => h.elim, fun h => h.elim, fun h => h.elim, fun h => h.elim, fun h => h.elim, fun h => h.elim⟩

theorem I7.put (h : I7 val rs1 rs2 XL YL T w3 D s w) (i : Nat) (hi : i < 14) (h3 : i ≠ 3) (h12 : i ≠ 12) (hb : Below w.heap.size w w') : I7 val rs1 rs2 XL YL T w3 (fun j => D j ∨ j = i) (upd s i (val i)) w' := by
  refine ⟨h.bel.trans (hb.mono h.bel.size), fun j hj hj3 hj12 hd => ?_, fun hd hn => ?_, fun hd hn => ?_, fun hd => ?_, fun hd => ?_, fun hd hd' => ?_, fun hd => (h.d16 (hd.resolve_right (by omega))).imp .inl .inl, fun hd => (h.d17 (hd.resolve_right (by omega))).imp .inl .inl⟩
  · by_cases e : j = i
    · subst e; rw [upd_same]
    · rw [upd_ne _ _ e]; exact h.val j hj hj3 hj12 (hd.resolve_right e)
  · obtain ⟨g, e, hr⟩ := h.row3 (hd.resolve_right (by omega)) (fun hh => hn (.inl hh))
    exact ⟨g, by rw [upd_ne _ _ (by omega)]; exact e, rows_up hr hb⟩
  · obtain ⟨g, e, hr⟩ := h.row12 (hd.resolve_right (by omega)) (fun hh => hn (.inl hh))
    exact ⟨g, by rw [upd_ne _ _ (by omega)]; exact e, rows_up hr hb⟩
  · obtain ⟨g, cs, e, hg, hl, ha, hx⟩ := h.new14 (hd.resolve_right (by omega))
    exact ⟨g, cs, by rw [upd_ne _ _ (by omega)]; exact e, hg, hl, ha.up hb, fun hh => hx (hh.resolve_right (by omega))⟩
  · obtain ⟨g, cs, e, hg, hl, ha, hx⟩ := h.new15 (hd.resolve_right (by omega))
    exact ⟨g, cs, by rw [upd_ne _ _ (by omega)]; exact e, hg, hl, ha.up hb, fun hh => hx (hh.resolve_right (by omega))⟩
  · rw [upd_ne _ _ (by omega), upd_ne _ _ (by omega)]
    exact h.apart (hd.resolve_right (by omega)) (hd'.resolve_right (by omega))

theorem I7.rows (h : I7 val rs1 rs2 XL YL T w3 D s w) (i : Nat) (hi : i = 3 ∨ i = 12) (hD : ¬ D i) (hb : Below w.heap.size w w') (g : Nat) (hr3 : i = 3 → RowsAt w' w'.heap.size (some ⟨g, 0, none⟩) rs1) (hr12 : i = 12 → RowsAt w' w'.heap.size (some ⟨g, 0, none⟩) rs2) :
    I7 val rs1 rs2 XL YL T w3 (fun j => D j ∨ j = i) (upd s i (.slice (some ⟨g, 0, none⟩) 2 2)) w' := by
  refine ⟨h.bel.trans (hb.mono h.bel.size), fun j hj hj3 hj12 hd => ?_, fun hd hn => ?_, fun hd hn => ?_, fun hd => ?_, fun hd => ?_, fun hd hd' => ?_, fun hd => (h.d16 (hd.resolve_right (by omega))).imp .inl .inl, fun hd => (h.d17 (hd.resolve_right (by omega))).imp .inl .inl⟩
  · have e : j ≠ i := by omega
    rw [upd_ne _ _ e]; exact h.val j hj hj3 hj12 (hd.resolve_right e)
  · by_cases e : i = 3
    · subst e; exact ⟨g, upd_same _ _ _, hr3 rfl⟩
    · obtain ⟨g', e', hr⟩ := h.row3 (hd.resolve_right (by omega)) (fun hh => hn (.inl hh))
      exact ⟨g', by rw [upd_ne _ _ (by omega)]; exact e', rows_up hr hb⟩
  · by_cases e : i = 12
    · subst e; exact ⟨g, upd_same _ _ _, hr12 rfl⟩
    · obtain ⟨g', e', hr⟩ := h.row12 (hd.resolve_right (by omega)) (fun hh => hn (.inl hh))
      exact ⟨g', by rw [upd_ne _ _ (by omega)]; exact e', rows_up hr hb⟩
  · obtain ⟨g, cs, e, hg, hl, ha, hx⟩ := h.new14 (hd.resolve_right (by omega))
    exact ⟨g, cs, by rw [upd_ne _ _ (by omega)]; exact e, hg, hl, ha.up hb, fun hh => hx (hh.resolve_right (by omega))⟩
  · obtain ⟨g, cs, e, hg, hl, ha, hx⟩ := h.new15 (hd.resolve_right (by omega))
    exact ⟨g, cs, by rw [upd_ne _ _ (by omega)]; exact e, hg, hl, ha.up hb, fun hh => hx (hh.resolve_right (by omega))⟩
  · rw [upd_ne _ _ (by omega), upd_ne _ _ (by omega)]
    exact h.apart (hd.resolve_right (by omega)) (hd'.resolve_right (by omega))

theorem I7.new (h : I7 val rs1 rs2 XL YL T w3 D s w) (i : Nat) (hi : i = 14 ∨ i = 15) (hD : ¬ D i) (cs : List Value) (hl : cs.length = 32) :
    I7 val rs1 rs2 XL YL T w3 (fun j => D j ∨ j = i) (upd s i (.pointer (some ⟨w.heap.size, 0, none⟩))) (w.alloc (.cells cs.toArray T)) := by
  have hb : Below w.heap.size w (w.alloc (.cells cs.toArray T)) := (Below.refl _ w).alloc (Nat.le_refl _) _
  have hn := Arr.new w T cs
  have h16 : ¬ D 16 := fun h2 => by have := h.d16 h2; rcases hi with rfl | rfl; exact hD this.1; exact hD this.2
  have h17 : ¬ D 17 := fun h2 => by have := h.d17 h2; rcases hi with rfl | rfl; exact hD this.1; exact hD this.2
  refine ⟨h.bel.trans (hb.mono h.bel.size), fun j hj hj3 hj12 hd => ?_, fun hd hn => ?_, fun hd hn => ?_, fun hd => ?_, fun hd => ?_, fun hd hd' => ?_, fun hd => (h.d16 (hd.resolve_right (by omega))).imp .inl .inl, fun hd => (h.d17 (hd.resolve_right (by omega))).imp .inl .inl⟩
  · rw [upd_ne _ _ (by omega)]; exact h.val j hj hj3 hj12 (hd.resolve_right (by omega))
  · obtain ⟨g', e', hr⟩ := h.row3 (hd.resolve_right (by omega)) (fun hh => hn (.inl hh))
    exact ⟨g', by rw [upd_ne _ _ (by omega)]; exact e', rows_up hr hb⟩
  · obtain ⟨g', e', hr⟩ := h.row12 (hd.resolve_right (by omega)) (fun hh => hn (.inl hh))
    exact ⟨g', by rw [upd_ne _ _ (by omega)]; exact e', rows_up hr hb⟩
  · by_cases e : i = 14
    · subst e; exact ⟨_, cs, upd_same _ _ _, h.bel.size, hl, hn, fun hh => absurd (hh.resolve_right (by omega)) h16⟩
    · obtain ⟨g, cs', e', hg, hl', ha, hx⟩ := h.new14 (hd.resolve_right (by omega))
      exact ⟨g, cs', by rw [upd_ne _ _ (by omega)]; exact e', hg, hl', ha.up hb, fun hh => hx (hh.resolve_right (by omega))⟩
  · by_cases e : i = 15
    · subst e; exact ⟨_, cs, upd_same _ _ _, h.bel.size, hl, hn, fun hh => absurd (hh.resolve_right (by omega)) h17⟩
    · obtain ⟨g, cs', e', hg, hl', ha, hx⟩ := h.new15 (hd.resolve_right (by omega))
      exact ⟨g, cs', by rw [upd_ne _ _ (by omega)]; exact e', hg, hl', ha.up hb, fun hh => hx (hh.resolve_right (by omega))⟩
  · rcases hi with rfl | rfl
    · obtain ⟨g, cs', e', _, _, ha, _⟩ := h.new15 (hd'.resolve_right (by omega))
      rw [upd_same, upd_ne _ _ (by omega), e']
      intro e; injection e with e; injection e with e; injection e with e; have := ha.lt; omega
    · obtain ⟨g, cs', e', _, _, ha, _⟩ := h.new14 (hd.resolve_right (by omega))
      rw [upd_same, upd_ne _ _ (by omega), e']
      intro e; injection e with e; injection e with e; injection e with e; have := ha.lt; omega

/-- A digest goes into its variable, both being taken. -/
theorem I7.store (h : I7 val rs1 rs2 XL YL T w3 D s w) (i : Nat) (hi : i = 16 ∨ i = 17) (h4 : D 4) (h13 : D 13) (h14 : D 14) (h15 : D 15) (VL : List Value) (hV : VL.length = 32) (hx : i = 16 → VL = XL) (hy : i = 17 → VL = YL) (g : Nat)
    (hg : s (i - 2) = .pointer (some ⟨g, 0, none⟩)) : I7 val rs1 rs2 XL YL T w3 (fun j => D j ∨ j = i) s (w.setCells g 0 VL) ∧ w3.heap.size ≤ g ∧ ∃ cs, cs.length = 32 ∧ Arr w g T cs := by
  obtain ⟨g1, cs1, e1, hg1, hl1, ha1, hx1⟩ := h.new14 h14
  obtain ⟨g2, cs2, e2, hg2, hl2, ha2, hx2⟩ := h.new15 h15
  have hne : g1 ≠ g2 := fun e => h.apart h14 h15 (by rw [e1, e2, e])
  have key : ∀ k cs, Arr w k T cs → cs.length = 32 → w3.heap.size ≤ k → Arr (w.setCells k 0 VL) k T VL ∧ Only (fun j => j = k) w (w.setCells k 0 VL) := fun k cs ha hl hk => by
    have h1 := Arr.setCells VL 0 cs w ha (by omega)
    exact ⟨by simpa using h1, Only.setCells (R := fun j => j = k) rfl VL 0 _ (Only.refl _ w)⟩
  rcases hi with rfl | rfl
  · have eg : g = g1 := by
      have := hg.symm.trans e1
      injection this with e; injection e with e; injection e with e
    subst eg
    obtain ⟨k1, k2⟩ := key g cs1 ha1 hl1 hg1
    refine ⟨⟨h.bel.trans (k2.below h.bel.size (by rintro j rfl; exact hg1)), fun j hj hj3 hj12 hd => h.val j hj hj3 hj12 (hd.resolve_right (by omega)), fun _ hn => absurd (.inl h4) hn, fun _ hn => absurd (.inl h13) hn,
      fun _ => ⟨g, VL, e1, hg1, hV, k1, fun _ => hx rfl⟩, fun _ => ⟨g2, cs2, e2, hg2, hl2, ha2.only k2 (show ¬ g2 = g by omega), fun hh => hx2 (hh.resolve_right (by omega))⟩, fun _ _ => h.apart h14 h15, fun _ => ⟨.inl h14, .inl h15⟩, fun _ => ⟨.inl h14, .inl h15⟩⟩, hg1, cs1, hl1, ha1⟩
  · have eg : g = g2 := by
      have := hg.symm.trans e2
      injection this with e; injection e with e; injection e with e
    subst eg
    obtain ⟨k1, k2⟩ := key g cs2 ha2 hl2 hg2
    refine ⟨⟨h.bel.trans (k2.below h.bel.size (by rintro j rfl; exact hg2)), fun j hj hj3 hj12 hd => h.val j hj hj3 hj12 (hd.resolve_right (by omega)), fun _ hn => absurd (.inl h4) hn, fun _ hn => absurd (.inl h13) hn,
      fun _ => ⟨g1, cs1, e1, hg1, hl1, ha1.only k2 (show ¬ g1 = g by omega), fun hh => hx1 (hh.resolve_right (by omega))⟩, fun _ => ⟨g, VL, e2, hg2, hV, k1, fun _ => hy rfl⟩, fun _ _ => h.apart h14 h15, fun _ => ⟨.inl h14, .inl h15⟩, fun _ => ⟨.inl h14, .inl h15⟩⟩, hg2, cs2, hl2, ha2⟩
end

theorem Arr.there {w : World} {g : Nat} {T : TypeId} {cs : List Value} (h : Arr w g T cs) {n : Nat} (hn : cs.length = n) : w.there g 0 n := fun j hj => by
  rw [h.cell, h.frozen, Nat.zero_add, List.getElem?_eq_getElem (by omega)]
  exact ⟨rfl, rfl⟩

end Go.Proofs.Ytggefcelcjhgeaa

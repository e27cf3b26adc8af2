/-
  Which sectors are taken: truths, a row of them. No walk.
-/
import Derived.Test.YtejmojldfffbnacArr
import Derived.IntWalk
namespace Go.Proofs.Ytejmojldfffbnac
open Go.RowKit
set_option linter.unusedVariables false

/-- n of them from a place on are so. -/
def setF (a : Nat) (b : Bool) : Nat → List Bool → List Bool
  | 0, L => L
  | n + 1, L => (setF a b n L).set (a + n) b

theorem setF_length (a : Nat) (b : Bool) (n : Nat) (L : List Bool) : (setF a b n L).length = L.length := by
  induction n with
  | zero => rfl
  | succ n ih => unfold setF; rw [List.length_set, ih]

theorem setF_get {a n j : Nat} {b d : Bool} {L : List Bool} (h : j < L.length) : (setF a b n L).getD j d = if a ≤ j ∧ j < a + n then b else L.getD j d := by
  induction n with
  | zero => rw [if_neg (by omega)]; rfl
  | succ n ih =>
    unfold setF
    by_cases hj : j = a + n
    · subst hj
      rw [if_pos (by omega)]
      have hl : a + n < (setF a b n L).length := by rw [setF_length]; exact h
      simp [List.getD, hl]
    · have e : ((setF a b n L).set (a + n) b).getD j d = (setF a b n L).getD j d := by
        simp only [List.getD, List.getElem?_set_ne (show a + n ≠ j by omega)]
      rw [e, ih]
      by_cases h1 : a ≤ j ∧ j < a + n
      · rw [if_pos h1, if_pos (by omega)]
      · rw [if_neg h1, if_neg (by omega)]

/-- How many are free. -/
def freeF : List Bool → Nat
  | [] => 0
  | x :: L => (if x = true then 0 else 1) + freeF L

theorem freeF_le (L : List Bool) : freeF L ≤ L.length := by
  induction L with
  | nil => simp [freeF]
  | cons x L ih => unfold freeF; simp only [List.length_cons]; split <;> omega

theorem freeF_set_true {L : List Bool} {k : Nat} (hk : k < L.length) (h : L.getD k true = false) : freeF (L.set k true) + 1 = freeF L := by
  induction L generalizing k with
  | nil => simp at hk
  | cons x L ih =>
    cases k with
    | zero =>
      have hx : x = false := by simpa using h
      subst hx
      simp [freeF]; omega
    | succ k =>
      have := ih (k := k) (by simpa using hk) (by simpa using h)
      simp only [List.set_cons_succ, freeF]
      omega

theorem freeF_set_false {L : List Bool} {k : Nat} (hk : k < L.length) (h : L.getD k false = true) : freeF (L.set k false) = freeF L + 1 := by
  induction L generalizing k with
  | nil => simp at hk
  | cons x L ih =>
    cases k with
    | zero =>
      have hx : x = true := by simpa using h
      subst hx
      simp [freeF]; omega
    | succ k =>
      have := ih (k := k) (by simpa using hk) (by simpa using h)
      simp only [List.set_cons_succ, freeF]
      omega

theorem set_idle {L : List Bool} {k : Nat} {b d : Bool} (hk : k < L.length) (h : L.getD k d = b) : L.set k b = L := by
  apply List.ext_getElem?
  intro i
  by_cases hi : k = i
  · subst hi
    rw [List.getElem?_set_self hk, List.getElem?_eq_getElem hk]
    simp [List.getD, hk] at h
    rw [h]
  · rw [List.getElem?_set_ne hi]

theorem getD_any {L : List Bool} {k : Nat} (d d' : Bool) (hk : k < L.length) : L.getD k d = L.getD k d' := by simp [List.getD, hk]

theorem freeF_setF_step {L : List Bool} {k : Nat} {b : Bool} (hk : k < L.length) (h : L.getD k b = !b) : (freeF (L.set k b) : Int) = freeF L + (if b = true then -1 else 1) := by
  cases b with
  | true => have := freeF_set_true hk h; simp; omega
  | false => have := freeF_set_false hk h; simp; omega

theorem freeF_replicate (n : Nat) (b : Bool) : freeF (List.replicate n b) = if b = true then 0 else n := by
  induction n with
  | zero => simp [freeF]
  | succ n ih => rw [List.replicate_succ, freeF, ih]; cases b <;> simp; omega

theorem freeF_append (a b : List Bool) : freeF (a ++ b) = freeF a + freeF b := by
  induction a with
  | nil => simp [freeF]
  | cons x a ih => simp only [List.cons_append, freeF, ih]; omega

/-- Are n free from a on? -/
def okF (L : List Bool) (n a : Nat) : Bool := (List.range n).all fun i => !(L.getD (a + i) true)

theorem okF_iff {L : List Bool} {n a : Nat} : okF L n a = true ↔ ∀ i, i < n → L.getD (a + i) true = false := by simp [okF]
theorem okF_not {L : List Bool} {n a i : Nat} (hi : i < n) (h : L.getD (a + i) true = true) : okF L n a = false := by
  rw [Bool.eq_false_iff]
  intro e
  rw [okF_iff.1 e i hi] at h
  cases h
theorem getD_out {L : List Bool} {j : Nat} (h : L.length ≤ j) : L.getD j true = true := by simp [List.getD, h]
theorem okF_fits {L : List Bool} {n a : Nat} (hn : 1 ≤ n) (h : okF L n a = true) : a + n ≤ L.length := by
  rcases Nat.lt_or_ge (a + (n - 1)) L.length with h1 | h1
  · omega
  · rw [okF_not (i := n - 1) (by omega) (getD_out h1)] at h; cases h

/-- The least place of n free ones, if there is one. -/
def roomF (L : List Bool) (n : Nat) : Option Nat := (List.range L.length).find? (okF L n)

theorem find_range {N a : Nat} {p : Nat → Bool} (ha : a < N) (h : p a = true) (hl : ∀ b, b < a → p b = false) : (List.range N).find? p = some a := by
  rw [List.find?_range_eq_some]
  exact ⟨h, by simpa using ha, fun j hj => by simp [hl j hj]⟩

theorem roomF_some {L : List Bool} {n a : Nat} (hn : 1 ≤ n) (h : okF L n a = true) (hl : ∀ b, b < a → okF L n b = false) : roomF L n = some a :=
  find_range (by have := okF_fits hn h; omega) h hl
theorem roomF_none {L : List Bool} {n : Nat} (h : ∀ a, okF L n a = false) : roomF L n = none := by
  unfold roomF
  rw [List.find?_eq_none]
  intro x _
  simp [h x]
theorem roomF_is {L : List Bool} {n a : Nat} (h : roomF L n = some a) : okF L n a = true ∧ ∀ b, b < a → okF L n b = false := by
  unfold roomF at h
  rw [List.find?_range_eq_some] at h
  exact ⟨h.1, fun b hb => by have := h.2.2 b hb; simpa using this⟩
theorem roomF_isNone {L : List Bool} {n : Nat} (hn : 1 ≤ n) (h : roomF L n = none) (a : Nat) : okF L n a = false := by
  unfold roomF at h
  rw [List.find?_eq_none] at h
  rcases Nat.lt_or_ge a L.length with h1 | h1
  · have := h a (by simpa using h1); simpa using this
  · exact okF_not (i := 0) (by omega) (getD_out (by omega))

theorem boolCells_length (L : List Bool) : (boolCells L).length = L.length := by simp [boolCells]
theorem boolCells_replicate (n : Nat) (b : Bool) : boolCells (List.replicate n b) = List.replicate n (.bool b) := by simp [boolCells]
theorem boolCells_append (a b : List Bool) : boolCells (a ++ b) = boolCells a ++ boolCells b := by simp [boolCells]

/-- A space in memory: block p is the struct, block g its truths, with room behind them. -/
structure Sp (TS TB : TypeId) (w : World) (p g : Nat) (L : List Bool) (f m c : Nat) (rest : List Value) : Prop where
  ne : p ≠ g
  hp : Arr w p TS [.slice (some ⟨g, 0, none⟩) L.length c, .int .i64 (f : Nat), .int .i64 (m : Nat)]
  hg : Arr w g TB (boolCells L ++ rest)
  hc : L.length ≤ c
  hm : c ≤ maxLen
  hm2 : m ≤ L.length

section
variable {TS TB : TypeId} {w w' : World} {p g : Nat} {L : List Bool} {f m c : Nat} {rest : List Value}
theorem Sp.c0 (h : Sp TS TB w p g L f m c rest) : w.cell? ⟨p, 0, none⟩ = some (.slice (some ⟨g, 0, none⟩) L.length c) := h.hp.cell 0
theorem Sp.c1 (h : Sp TS TB w p g L f m c rest) : w.cell? ⟨p, 1, none⟩ = some (.int .i64 (f : Nat)) := h.hp.cell 1
theorem Sp.c2 (h : Sp TS TB w p g L f m c rest) : w.cell? ⟨p, 2, none⟩ = some (.int .i64 (m : Nat)) := h.hp.cell 2
theorem Sp.f0 (h : Sp TS TB w p g L f m c rest) (i : Nat) : w.frozen? ⟨p, i, none⟩ = false := h.hp.frozen i
theorem Sp.fg (h : Sp TS TB w p g L f m c rest) (i : Nat) : w.frozen? ⟨g, i, none⟩ = false := h.hg.frozen i
theorem Sp.at_ (h : Sp TS TB w p g L f m c rest) {k : Nat} (hk : k < L.length) (d : Bool) : w.cell? ⟨g, k, none⟩ = some (.bool (L.getD k d)) := by
  rw [h.hg.cell, List.getElem?_append_left (by rw [boolCells_length]; exact hk), boolCells_get hk, getD_any false d hk]
theorem Sp.drewN (h : Sp TS TB w p g L f m c rest) (n : Nat) : Sp TS TB (w.drewN n) p g L f m c rest := ⟨h.ne, h.hp, h.hg, h.hc, h.hm, h.hm2⟩
theorem Sp.only {R : Nat → Prop} (h : Sp TS TB w p g L f m c rest) (ho : Only R w w') (h1 : ¬ R p) (h2 : ¬ R g) : Sp TS TB w' p g L f m c rest := ⟨h.ne, h.hp.only ho h1, h.hg.only ho h2, h.hc, h.hm, h.hm2⟩
theorem Sp.below {B : Nat} (h : Sp TS TB w p g L f m c rest) (ho : Below B w w') (h1 : p < B) (h2 : g < B) : Sp TS TB w' p g L f m c rest := ⟨h.ne, h.hp.below ho h1, h.hg.below ho h2, h.hc, h.hm, h.hm2⟩
theorem Sp.up (h : Sp TS TB w p g L f m c rest) (ho : Below w.heap.size w w') : Sp TS TB w' p g L f m c rest := h.below ho h.hp.lt h.hg.lt
theorem Sp.setFree (h : Sp TS TB w p g L f m c rest) (f' : Nat) : Sp TS TB (w.setCell ⟨p, 1, none⟩ (.int .i64 (f' : Nat))) p g L f' m c rest :=
  ⟨h.ne, h.hp.set 1 _, h.hg.setOther (fun e => h.ne e.symm) _, h.hc, h.hm, h.hm2⟩
theorem Sp.setLeast (h : Sp TS TB w p g L f m c rest) (m' : Nat) (hm' : m' ≤ L.length) : Sp TS TB (w.setCell ⟨p, 2, none⟩ (.int .i64 (m' : Nat))) p g L f m' c rest :=
  ⟨h.ne, h.hp.set 2 _, h.hg.setOther (fun e => h.ne e.symm) _, h.hc, h.hm, hm'⟩
theorem Sp.setBit (h : Sp TS TB w p g L f m c rest) {k : Nat} (hk : k < L.length) (b : Bool) : Sp TS TB (w.setCell ⟨g, k, none⟩ (.bool b)) p g (L.set k b) f m c rest := by
  refine ⟨h.ne, ?_, ?_, by rw [List.length_set]; exact h.hc, h.hm, by rw [List.length_set]; exact h.hm2⟩
  · rw [List.length_set]; exact h.hp.setOther h.ne _
  · have h1 := h.hg.set k (.bool b)
    rw [List.set_append_left _ _ (by rw [boolCells_length]; exact hk), boolCells_set] at h1
    exact h1
end

/-- No sector below m is free. -/
def Full (L : List Bool) (m : Nat) : Prop := ∀ j, j < m → L.getD j true = true

theorem Full.less {L : List Bool} {m m' : Nat} (h : Full L m) (hm : m' ≤ m) : Full L m' := fun j hj => h j (by omega)
theorem Full.succ {L : List Bool} {m : Nat} (h : Full L m) (hm : L.getD m true = true) : Full L (m + 1) := fun j hj => by
  by_cases e : j = m
  · subst e; exact hm
  · exact h j (by omega)
theorem Full.setF {L : List Bool} {m a n : Nat} {b : Bool} (h : Full L m) (hl : m ≤ L.length) : Full (setF a b n L) (min m a) := fun j hj => by
  rw [setF_get (by omega), if_neg (by omega)]
  exact h j (by omega)

end Go.Proofs.Ytejmojldfffbnac

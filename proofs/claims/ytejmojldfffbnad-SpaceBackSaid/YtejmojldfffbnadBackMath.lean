/-
  Extents that are taken, and released again. No walk.
-/
import Derived.Test.YtejmojldfffbnadSpaceSpeaks
namespace Go.Proofs.Ytejmojldfffbnad
open Go.RowKit
set_option linter.unusedVariables false

def apartE (x y : Nat × Nat) : Prop := x.1 + x.2 ≤ y.1 ∨ y.1 + y.2 ≤ x.1
def inE (j : Nat) (x : Nat × Nat) : Prop := x.1 ≤ j ∧ j < x.1 + x.2

/-- What is taken are the first ones and the extents, which have nothing in common. -/
structure Held (s f : Nat) (L : List Bool) (E : List (Nat × Nat)) : Prop where
  len : L.length = s
  fs : f ≤ s
  bit : ∀ j, j < s → (L.getD j true = true ↔ (j < f ∨ ∃ x ∈ E, inE j x))
  fit : ∀ x ∈ E, f ≤ x.1 ∧ x.1 + x.2 ≤ s ∧ 1 ≤ x.2
  apart : E.Pairwise apartE

theorem Held.start {s f : Nat} (h : f ≤ s) : Held s f (firstF s f) [] :=
  ⟨firstF_length s f, h, fun j hj => by rw [firstF_get true hj]; simp, by simp, .nil⟩

theorem Held.last {s f : Nat} {L : List Bool} (h : Held s f L []) : L = firstF s f := by
  apply List.ext_getElem?
  intro j
  by_cases hj : j < s
  · have h1 := h.bit j hj
    have h2 := firstF_get (n := s) (k := f) true hj
    rw [List.getElem?_eq_getElem (by rw [h.len]; exact hj), List.getElem?_eq_getElem (by rw [firstF_length]; exact hj)]
    have e1 : L.getD j true = L[j]'(by rw [h.len]; exact hj) := by simp [List.getD, h.len, hj]
    have e2 : (firstF s f).getD j true = (firstF s f)[j]'(by rw [firstF_length]; exact hj) := by simp [List.getD, firstF_length, hj]
    rw [← e1, ← e2, h2]
    congr 1
    rw [Bool.eq_iff_iff, h1]
    simp
  · rw [List.getElem?_eq_none (by rw [h.len]; omega), List.getElem?_eq_none (by rw [firstF_length]; omega)]

/-- What was found free has nothing in common with what is held. -/
theorem Held.away {s f n a : Nat} {L : List Bool} {E : List (Nat × Nat)} (h : Held s f L E) (hn : 1 ≤ n) (hR : roomF L n = some a) : f ≤ a ∧ a + n ≤ s ∧ ∀ x ∈ E, apartE x (a, n) := by
  have hok := okF_iff.1 (roomF_is hR).1
  have hfit := okF_fits hn (roomF_is hR).1
  rw [h.len] at hfit
  have hfree : ∀ j, a ≤ j → j < a + n → ¬ (j < f ∨ ∃ x ∈ E, inE j x) := fun j h1 h2 e => by
    have h3 := (h.bit j (by omega)).2 e
    have h4 := hok (j - a) (by omega)
    rw [show a + (j - a) = j by omega] at h4
    rw [h3] at h4
    cases h4
  refine ⟨?_, hfit, fun x hx => ?_⟩
  · rcases Nat.lt_or_ge a f with h1 | h1
    · exact absurd (Or.inl h1) (hfree a (Nat.le_refl _) (by omega))
    · exact h1
  · obtain ⟨x1, x2⟩ := x
    have hx2 := (h.fit _ hx).2.2
    show x1 + x2 ≤ a ∨ a + n ≤ x1
    rcases Nat.lt_or_ge a (x1 + x2) with h1 | h1
    · rcases Nat.lt_or_ge x1 (a + n) with h2 | h2
      · exfalso
        refine hfree (max a x1) (by omega) (by simp only at hx2; omega) (Or.inr ⟨_, hx, ?_⟩)
        show x1 ≤ max a x1 ∧ max a x1 < x1 + x2
        simp only at hx2
        omega
      · exact .inr h2
    · exact .inl h1

theorem Held.take {s f n a : Nat} {L : List Bool} {E : List (Nat × Nat)} (h : Held s f L E) (hn : 1 ≤ n) (hR : roomF L n = some a) : Held s f (setF a true n L) (E ++ [(a, n)]) := by
  obtain ⟨h1, h2, h3⟩ := h.away hn hR
  refine ⟨by rw [setF_length, h.len], h.fs, fun j hj => ?_, fun x hx => ?_, ?_⟩
  · rw [setF_get (by rw [h.len]; exact hj)]
    by_cases hc : a ≤ j ∧ j < a + n
    · rw [if_pos hc]
      simp only [List.mem_append, List.mem_singleton, true_iff]
      exact .inr ⟨(a, n), .inr rfl, hc⟩
    · rw [if_neg hc, h.bit j hj]
      constructor
      · rintro (h4 | ⟨x, hx, hi⟩)
        · exact .inl h4
        · exact .inr ⟨x, List.mem_append_left _ hx, hi⟩
      · rintro (h4 | ⟨x, hx, hi⟩)
        · exact .inl h4
        · rcases List.mem_append.1 hx with hx | hx
          · exact .inr ⟨x, hx, hi⟩
          · rw [List.mem_singleton] at hx
            subst hx
            exact absurd hi hc
  · rcases List.mem_append.1 hx with hx | hx
    · exact h.fit x hx
    · rw [List.mem_singleton] at hx
      subst hx
      exact ⟨h1, h2, hn⟩
  · rw [List.pairwise_append]
    refine ⟨h.apart, List.pairwise_singleton _ _, fun x hx y hy => ?_⟩
    rw [List.mem_singleton] at hy
    subst hy
    exact h3 x hx

/-- One extent is released: the others are held. -/
theorem Held.drop {s f : Nat} {L : List Bool} {E E' : List (Nat × Nat)} {x : Nat × Nat} (h : Held s f L E) (hx : x ∈ E) (hsub : E'.Sublist E) (hE : ∀ y ∈ E, y = x ∨ y ∈ E') (hap : ∀ y ∈ E', apartE x y) : Held s f (setF x.1 false x.2 L) E' := by
  have hxf := h.fit x hx
  refine ⟨by rw [setF_length, h.len], h.fs, fun j hj => ?_, fun y hy => h.fit y (hsub.subset hy), h.apart.sublist hsub⟩
  rw [setF_get (by rw [h.len]; exact hj)]
  by_cases hc : x.1 ≤ j ∧ j < x.1 + x.2
  · rw [if_pos hc]
    constructor
    · intro e; cases e
    · rintro (h4 | ⟨y, hy, h5, h6⟩)
      · omega
      · have := hap y hy
        unfold apartE at this
        omega
  · rw [if_neg hc, h.bit j hj]
    constructor
    · rintro (h4 | ⟨y, hy, hi⟩)
      · exact .inl h4
      · rcases hE y hy with e | e
        · subst e; exact absurd hi hc
        · exact .inr ⟨y, e, hi⟩
    · rintro (h4 | ⟨y, hy, hi⟩)
      · exact .inl h4
      · exact .inr ⟨y, hsub.subset hy, hi⟩

theorem apartE_symm {x y : Nat × Nat} (h : apartE x y) : apartE y x := by unfold apartE at *; omega

theorem Held.erase {s f i : Nat} {L : List Bool} {E : List (Nat × Nat)} (h : Held s f L E) (hi : i < E.length) : Held s f (setF (E[i]).1 false (E[i]).2 L) (E.take i ++ E.drop (i + 1)) := by
  have hEe : E.take i ++ E[i] :: E.drop (i + 1) = E := by rw [List.getElem_cons_drop hi, List.take_append_drop]
  have hp := h.apart
  rw [← hEe, List.pairwise_append] at hp
  obtain ⟨_, h2, h3⟩ := hp
  rw [List.pairwise_cons] at h2
  refine h.drop (List.getElem_mem hi) ?_ (fun y hy => ?_) (fun y hy => ?_)
  · have hs : (E.take i ++ E.drop (i + 1)).Sublist (E.take i ++ E[i] :: E.drop (i + 1)) := List.Sublist.append (List.Sublist.refl _) (List.sublist_cons_self _ _)
    rw [hEe] at hs
    exact hs
  · rw [← hEe] at hy
    rcases List.mem_append.1 hy with hy | hy
    · exact .inr (List.mem_append_left _ hy)
    · rcases List.mem_cons.1 hy with hy | hy
      · exact .inl hy
      · exact .inr (List.mem_append_right _ hy)
  · rcases List.mem_append.1 hy with hy | hy
    · exact apartE_symm (h3 y hy _ (List.mem_cons_self))
    · exact h2.1 y hy

theorem Held.behind {s f i : Nat} {L : List Bool} {E : List (Nat × Nat)} (hi : i < E.length) (h : Held s f L (E.drop i)) : Held s f (setF (E[i]).1 false (E[i]).2 L) (E.drop (i + 1)) := by
  have e : E.drop i = E[i] :: E.drop (i + 1) := List.drop_eq_getElem_cons hi
  have hi0 : 0 < (E.drop i).length := by rw [List.length_drop]; omega
  have h1 := h.erase hi0
  have e0 : (E.drop i)[0]'hi0 = E[i] := by simp
  rw [e0] at h1
  have e1 : (E.drop i).take 0 ++ (E.drop i).drop (0 + 1) = E.drop (i + 1) := by simp [List.drop_drop]
  rw [e1] at h1
  exact h1

/-- Extents, as cells. -/
def extC (E : List (Nat × Nat)) : List Value := E.flatMap fun x => [.int .i64 (x.1 : Nat), .int .i64 (x.2 : Nat)]
theorem extC_length (E : List (Nat × Nat)) : (extC E).length = E.length * 2 := by
  induction E with
  | nil => rfl
  | cons x E ih => unfold extC at *; simp only [List.flatMap_cons, List.length_append, List.length_cons, List.length_nil]; rw [ih]; omega
theorem extC_append (a b : List (Nat × Nat)) : extC (a ++ b) = extC a ++ extC b := by unfold extC; rw [List.flatMap_append]
theorem extC_get {E : List (Nat × Nat)} {i : Nat} (hi : i < E.length) : (extC E)[i * 2]? = some (.int .i64 ((E[i]).1 : Nat)) ∧ (extC E)[i * 2 + 1]? = some (.int .i64 ((E[i]).2 : Nat)) := by
  have e : E = E.take i ++ E[i] :: E.drop (i + 1) := by rw [List.getElem_cons_drop hi, List.take_append_drop]
  have hl : (extC (E.take i)).length = i * 2 := by rw [extC_length, List.length_take]; omega
  have e2 : extC E = extC (E.take i) ++ (.int .i64 ((E[i]).1 : Nat) :: .int .i64 ((E[i]).2 : Nat) :: extC (E.drop (i + 1))) := by
    conv => lhs; rw [e, extC_append]
    rfl
  rw [e2]
  constructor
  · rw [List.getElem?_append_right (by omega), hl, Nat.sub_self]; rfl
  · rw [List.getElem?_append_right (by omega), hl, show i * 2 + 1 - i * 2 = 1 by omega]; rfl
theorem extC_one (E : List (Nat × Nat)) : ∀ v ∈ extC E, v.oneCell' = true := by
  intro v hv
  simp only [extC, List.mem_flatMap] at hv
  obtain ⟨x, _, hx⟩ := hv
  simp at hx
  rcases hx with rfl | rfl <;> rfl
theorem extC_take (E : List (Nat × Nat)) (i : Nat) : extC (E.take i) = (extC E).take (i * 2) := by
  rcases Nat.lt_or_ge i E.length with h | h
  · have hl : (extC (E.take i)).length = i * 2 := by rw [extC_length, List.length_take]; omega
    have e : extC E = extC (E.take i) ++ extC (E.drop i) := by rw [← extC_append, List.take_append_drop]
    rw [e, ← hl, List.take_left]
  · rw [List.take_of_length_le h, List.take_of_length_le (by rw [extC_length]; omega)]
theorem extC_drop (E : List (Nat × Nat)) (i : Nat) : extC (E.drop i) = (extC E).drop (i * 2) := by
  rcases Nat.lt_or_ge i E.length with h | h
  · have hl : (extC (E.take i)).length = i * 2 := by rw [extC_length, List.length_take]; omega
    have e : extC E = extC (E.take i) ++ extC (E.drop i) := by rw [← extC_append, List.take_append_drop]
    rw [e, ← hl, List.drop_left]
  · rw [List.drop_of_length_le h, List.drop_of_length_le (by rw [extC_length]; omega)]; rfl

/-- The row of extents of the call's own. -/
def Exts (w : World) (B : Nat) (T : TypeId) (v : Value) (E : List (Nat × Nat)) : Prop := w.ownsRow B T 2 v E.length (extC E)

theorem Exts.only {w w' : World} {B : Nat} {T : TypeId} {v : Value} {E : List (Nat × Nat)} {R : Nat → Prop} (h : Exts w B T v E) (ho : Only R w w') (hR : ∀ k, B ≤ k → ¬ R k) : Exts w' B T v E := by
  refine ⟨h.1, ?_⟩
  rcases h.2 with hn | ⟨g, cap, cur, rfl, h1, hg, rest⟩
  · exact .inl hn
  · exact .inr ⟨g, cap, cur, rfl, h1, (ho.block g (Array.getElem?_eq_some_iff.1 hg).1 (hR g h1)).trans hg, rest⟩

/-- What the row is in memory, where it isn't empty. -/
theorem Exts.row {w : World} {B : Nat} {T : TypeId} {v : Value} {E : List (Nat × Nat)} (h : Exts w B T v E) (hp : 0 < E.length) :
    ∃ g cap, ∃ cur : List Value, v = .slice (some ⟨g, 0, none⟩) E.length cap ∧ B ≤ g ∧ Arr w g T cur ∧ E.length ≤ cap ∧ cap ≤ maxLen ∧ cur.length = cap * 2 ∧ cur.take (E.length * 2) = extC E := by
  rcases h.2 with ⟨_, hn⟩ | ⟨g, cap, cur, rfl, h1, hg, h2, h3, h4, h5⟩
  · omega
  · exact ⟨g, cap, cur.toList, rfl, h1, hg, h2, h3, by simpa using h4, by simpa using h5⟩
theorem Exts.some {w : World} {B : Nat} {T : TypeId} {v : Value} {E : List (Nat × Nat)} (h : Exts w B T v E) : ∃ A cap, v = .slice A E.length cap ∧ E.length ≤ cap ∧ cap ≤ maxLen := by
  rcases h.2 with ⟨rfl, hn⟩ | ⟨g, cap, cur, rfl, h1, hg, h2, h3, h4, h5⟩
  · exact ⟨none, 0, by rw [hn], by omega, by unfold maxLen; omega⟩
  · exact ⟨_, cap, rfl, h2, h3⟩
theorem Exts.of_row {w : World} {B : Nat} {T : TypeId} {E : List (Nat × Nat)} {g cap n : Nat} {cur : List Value} (hB : B ≤ g) (hg : Arr w g T cur) (hn : E.length = n) (h1 : n ≤ cap) (h2 : cap ≤ maxLen) (h3 : cur.length = cap * 2) (h4 : cur.take (n * 2) = extC E) : Exts w B T (.slice (Option.some ⟨g, 0, none⟩) n cap) E := by
  subst hn
  exact ⟨extC_length E, .inr ⟨g, cap, cur.toArray, rfl, hB, hg, h1, h2, by simpa using h3, by simpa using h4⟩⟩
theorem ext_cells {w : World} {T : TypeId} {E : List (Nat × Nat)} {g : Nat} {cur : List Value} (hg : Arr w g T cur) (h4 : cur.take (E.length * 2) = extC E) {i : Nat} (hi : i < E.length) :
    w.cell? ⟨g, i * 2, none⟩ = Option.some (.int .i64 ((E[i]).1 : Nat)) ∧ w.cell? ⟨g, i * 2 + 1, none⟩ = Option.some (.int .i64 ((E[i]).2 : Nat)) := by
  have h := extC_get hi
  rw [← h4] at h
  rw [hg.cell, hg.cell]
  rw [List.getElem?_take_of_lt (by omega), List.getElem?_take_of_lt (by omega)] at h
  exact h

theorem Arr.setMid {g : Nat} {T : TypeId} : ∀ (vs : List Value) (off : Nat) (cs : List Value) (w : World), Arr w g T cs → off + vs.length ≤ cs.length → Arr (w.setCells g off vs) g T (cs.take off ++ (vs ++ cs.drop (off + vs.length)))
  | [], off, cs, w, h, hl => by
    show Arr w g T _
    simpa using h
  | v :: r, off, cs, w, h, hl => by
    have h1 := Arr.setMid r (off + 1) (cs.set off v) (w.setCell ⟨g, off, none⟩ v) (h.set off v) (by simp at hl ⊢; omega)
    have hlt : off < cs.length := by simp at hl; omega
    have e : (cs.set off v).take (off + 1) ++ (r ++ (cs.set off v).drop (off + 1 + r.length)) = cs.take off ++ (v :: r ++ cs.drop (off + (v :: r).length)) := by
      rw [List.take_succ_eq_append_getElem (by simpa using hlt), List.take_set_of_le (Nat.le_refl _), List.drop_set_of_lt (by omega)]
      simp
      congr 1
      omega
    rw [e] at h1
    exact h1
theorem Only.setMid {R : Nat → Prop} {a : World} {g : Nat} (hg : R g) : ∀ (vs : List Value) (off : Nat) (b : World), Only R a b → Only R a (b.setCells g off vs)
  | [], _, _, h => h
  | v :: r, off, b, h => Only.setMid hg r (off + 1) _ (h.setCell (p := ⟨g, off, none⟩) (.inl hg) v)

theorem Exts.cut {w : World} {B : Nat} {T : TypeId} {E : List (Nat × Nat)} {g cap n t r : Nat} {cur : List Value} (hB : B ≤ g) (hg : Arr w g T cur) (hn : E.length = n) (hr : t + 1 = r) (hrn : r ≤ n) (hnc : n ≤ cap) (hm : cap ≤ maxLen) (hl : cur.length = cap * 2) (ht : cur.take (E.length * 2) = extC E) :
    Exts (w.setCells g (0 + t * 2) (extC (E.drop r))) B T (.slice (Option.some ⟨g, 0, none⟩) (t + (n - r)) cap) (E.take t ++ E.drop r) := by
  subst hn
  have hd : (extC (E.drop r)).length = (E.length - r) * 2 := by rw [extC_length, List.length_drop]
  have h1 := Arr.setMid (extC (E.drop r)) (0 + t * 2) cur w hg (by rw [hd]; omega)
  have e1 : cur.take (0 + t * 2) = extC (E.take t) := by
    rw [extC_take, ← ht, List.take_take]
    congr 1
    omega
  refine Exts.of_row hB h1 (by rw [List.length_append, List.length_take, List.length_drop]; omega) (by omega) hm ?_ ?_
  · rw [List.length_append, List.length_append, List.length_take, List.length_drop, hd]; omega
  · rw [e1, extC_append, ← List.append_assoc]
    have hl2 : (extC (E.take t) ++ extC (E.drop r)).length = (t + (E.length - r)) * 2 := by rw [List.length_append, hd, extC_length, List.length_take]; omega
    rw [← hl2, List.take_left]

end Go.Proofs.Ytejmojldfffbnad

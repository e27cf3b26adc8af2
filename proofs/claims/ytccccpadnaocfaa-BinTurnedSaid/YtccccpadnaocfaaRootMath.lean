/-
  Roots of rows and proofs, on lists. No walk.
-/
import Derived.Test.YtccccpadnaocfaaJoined
import Derived.Test.YtccccpadnaocfaaFirst
namespace Go.Proofs.Ytccccpadnaocfaa
open Go.RowKit
set_option linter.unusedVariables false

def leafF (r : List UInt8) : List UInt8 := shaF (tagF 0 [r])
def noneF : List UInt8 := shaF (tagF 2 [])
theorem leafF_length (r : List UInt8) : (leafF r).length = 32 := shaF_length _

/-- The root of rows. -/
def rootF (rs : List (List UInt8)) : List UInt8 :=
  if h0 : rs.length = 0 then noneF
  else if h1 : rs.length = 1 then leafF (rs.getD 0 [])
  else joinF (rootF (rs.take (splitF rs.length))) (rootF (rs.drop (splitF rs.length)))
termination_by rs.length
decreasing_by
  · have := splitF_facts (n := rs.length) (by omega); rw [List.length_take]; omega
  · have := splitF_facts (n := rs.length) (by omega); rw [List.length_drop]; omega

theorem rootF_zero {rs : List (List UInt8)} (h : rs.length = 0) : rootF rs = noneF := by rw [rootF, dif_pos h]
theorem rootF_one {rs : List (List UInt8)} (h : rs.length = 1) : rootF rs = leafF (rs.getD 0 []) := by rw [rootF, dif_neg (by omega), dif_pos h]
theorem rootF_two {rs : List (List UInt8)} (h : 2 ≤ rs.length) : rootF rs = joinF (rootF (rs.take (splitF rs.length))) (rootF (rs.drop (splitF rs.length))) := by
  rw [rootF, dif_neg (by omega), dif_neg (by omega)]
theorem rootF_length (rs : List (List UInt8)) : (rootF rs).length = 32 := by
  rw [rootF]
  split
  · exact shaF_length _
  · split
    · exact shaF_length _
    · exact shaF_length _

/-- How many digests the proof has. -/
def plenF (n a : Nat) : Nat :=
  if h : n ≤ 1 then 0 else if a < splitF n then plenF (splitF n) a + 1 else plenF (n - splitF n) (a - splitF n) + 1
termination_by n
decreasing_by
  · have := splitF_facts (n := n) (by omega); omega
  · have := splitF_facts (n := n) (by omega); omega
theorem plenF_one {n a : Nat} (h : n ≤ 1) : plenF n a = 0 := by rw [plenF, dif_pos h]
theorem plenF_lo {n a : Nat} (h : 2 ≤ n) (ha : a < splitF n) : plenF n a = plenF (splitF n) a + 1 := by rw [plenF, dif_neg (by omega), if_pos ha]
theorem plenF_hi {n a : Nat} (h : 2 ≤ n) (ha : splitF n ≤ a) : plenF n a = plenF (n - splitF n) (a - splitF n) + 1 := by rw [plenF, dif_neg (by omega), if_neg (by omega)]
theorem plenF_lt : ∀ (n a : Nat), 1 ≤ n → plenF n a < n := by
  intro n
  induction n using Nat.strongRecOn with
  | ind n ih =>
    intro a h1
    by_cases hn : n ≤ 1
    · rw [plenF_one hn]; omega
    · have hs := splitF_facts (n := n) (by omega)
      by_cases ha : a < splitF n
      · rw [plenF_lo (by omega) ha]; have := ih (splitF n) (by omega) a (by omega); omega
      · rw [plenF_hi (by omega) (by omega)]; have := ih (n - splitF n) (by omega) (a - splitF n) (by omega); omega

/-- The root that a proof leads to, and whether it has its length. -/
def leadF (n a : Nat) (row : List UInt8) (ds : List (List UInt8)) : List UInt8 × Bool :=
  if h : n ≤ 1 then (leafF row, decide (ds.length = 0))
  else if ds.length = 0 then (zeros, false)
  else if a < splitF n then (joinF (leadF (splitF n) a row (ds.take (ds.length - 1))).1 (ds.getD (ds.length - 1) []), (leadF (splitF n) a row (ds.take (ds.length - 1))).2)
  else (joinF (ds.getD (ds.length - 1) []) (leadF (n - splitF n) (a - splitF n) row (ds.take (ds.length - 1))).1, (leadF (n - splitF n) (a - splitF n) row (ds.take (ds.length - 1))).2)
termination_by n
decreasing_by
  all_goals (have := splitF_facts (n := n) (by omega); omega)
theorem leadF_one {n a : Nat} {row : List UInt8} {ds : List (List UInt8)} (h : n ≤ 1) : leadF n a row ds = (leafF row, decide (ds.length = 0)) := by rw [leadF, dif_pos h]
theorem leadF_nil {n a : Nat} {row : List UInt8} {ds : List (List UInt8)} (h : 2 ≤ n) (hd : ds.length = 0) : leadF n a row ds = (zeros, false) := by rw [leadF, dif_neg (by omega), if_pos hd]
theorem leadF_lo {n a : Nat} {row : List UInt8} {ds : List (List UInt8)} (h : 2 ≤ n) (hd : 0 < ds.length) (ha : a < splitF n) :
    leadF n a row ds = (joinF (leadF (splitF n) a row (ds.take (ds.length - 1))).1 (ds.getD (ds.length - 1) []), (leadF (splitF n) a row (ds.take (ds.length - 1))).2) := by
  rw [leadF, dif_neg (by omega), if_neg (by omega), if_pos ha]
theorem leadF_hi {n a : Nat} {row : List UInt8} {ds : List (List UInt8)} (h : 2 ≤ n) (hd : 0 < ds.length) (ha : splitF n ≤ a) :
    leadF n a row ds = (joinF (ds.getD (ds.length - 1) []) (leadF (n - splitF n) (a - splitF n) row (ds.take (ds.length - 1))).1, (leadF (n - splitF n) (a - splitF n) row (ds.take (ds.length - 1))).2) := by
  rw [leadF, dif_neg (by omega), if_neg (by omega), if_neg (by omega)]
theorem leadF_length (n a : Nat) (row : List UInt8) (ds : List (List UInt8)) : (leadF n a row ds).1.length = 32 := by
  rw [leadF]
  split
  · exact shaF_length _
  · split
    · rfl
    · split
      · exact joinF_length _ _
      · exact joinF_length _ _
theorem leadF_ok : ∀ (n a : Nat) (row : List UInt8) (ds : List (List UInt8)), (leadF n a row ds).2 = decide (ds.length = plenF n a) := by
  intro n
  induction n using Nat.strongRecOn with
  | ind n ih =>
    intro a row ds
    by_cases hn : n ≤ 1
    · rw [leadF_one hn, plenF_one hn]
    · have hs := splitF_facts (n := n) (by omega)
      by_cases hd : ds.length = 0
      · rw [leadF_nil (by omega) hd]
        by_cases ha : a < splitF n
        · rw [plenF_lo (by omega) ha, hd]; simp
        · rw [plenF_hi (by omega) (by omega), hd]; simp
      · by_cases ha : a < splitF n
        · rw [leadF_lo (by omega) (by omega) ha, plenF_lo (by omega) ha, ih (splitF n) (by omega), List.length_take]
          simp only [decide_eq_decide]
          omega
        · rw [leadF_hi (by omega) (by omega) (by omega), plenF_hi (by omega) (by omega), ih (n - splitF n) (by omega), List.length_take]
          simp only [decide_eq_decide]
          omega

/-- The proof of a row. -/
def proveF (rs : List (List UInt8)) (a : Nat) : List (List UInt8) :=
  if h : rs.length ≤ 1 then []
  else if a < splitF rs.length then proveF (rs.take (splitF rs.length)) a ++ [rootF (rs.drop (splitF rs.length))]
  else proveF (rs.drop (splitF rs.length)) (a - splitF rs.length) ++ [rootF (rs.take (splitF rs.length))]
termination_by rs.length
decreasing_by
  · have := splitF_facts (n := rs.length) (by omega); rw [List.length_take]; omega
  · have := splitF_facts (n := rs.length) (by omega); rw [List.length_drop]; omega
theorem proveF_one {rs : List (List UInt8)} {a : Nat} (h : rs.length ≤ 1) : proveF rs a = [] := by rw [proveF, dif_pos h]
theorem proveF_lo {rs : List (List UInt8)} {a : Nat} (h : 2 ≤ rs.length) (ha : a < splitF rs.length) : proveF rs a = proveF (rs.take (splitF rs.length)) a ++ [rootF (rs.drop (splitF rs.length))] := by
  rw [proveF, dif_neg (by omega), if_pos ha]
theorem proveF_hi {rs : List (List UInt8)} {a : Nat} (h : 2 ≤ rs.length) (ha : splitF rs.length ≤ a) : proveF rs a = proveF (rs.drop (splitF rs.length)) (a - splitF rs.length) ++ [rootF (rs.take (splitF rs.length))] := by
  rw [proveF, dif_neg (by omega), if_neg (by omega)]
theorem proveF_length : ∀ (N : Nat) (rs : List (List UInt8)) (a : Nat), rs.length = N → (proveF rs a).length = plenF N a := by
  intro N
  induction N using Nat.strongRecOn with
  | ind N ih =>
    intro rs a hN
    by_cases hn : N ≤ 1
    · rw [proveF_one (by omega), plenF_one hn]; rfl
    · have hs := splitF_facts (n := N) (by omega)
      by_cases ha : a < splitF N
      · rw [proveF_lo (by omega) (by rw [hN]; exact ha), plenF_lo (by omega) ha, List.length_append, ih (splitF N) (by omega) _ _ (by rw [List.length_take, hN]; omega)]; rfl
      · rw [proveF_hi (by omega) (by rw [hN]; omega), plenF_hi (by omega) (by omega), List.length_append, hN, ih (N - splitF N) (by omega) _ _ (by rw [List.length_drop, hN])]; rfl

theorem snoc_last {α : Type} (l : List α) (x d : α) : (l ++ [x]).getD ((l ++ [x]).length - 1) d = x ∧ (l ++ [x]).take ((l ++ [x]).length - 1) = l := by
  constructor
  · simp [List.getD]
  · simp

/-- Each row is shown at its place. -/
theorem prove_leads : ∀ (N : Nat) (rs : List (List UInt8)) (a : Nat), rs.length = N → a < N → leadF N a (rs.getD a []) (proveF rs a) = (rootF rs, true) := by
  intro N
  induction N using Nat.strongRecOn with
  | ind N ih =>
    intro rs a hN haN
    by_cases hn : N ≤ 1
    · rw [leadF_one hn, proveF_one (by omega), rootF_one (by omega)]
      obtain rfl : a = 0 := by omega
      rfl
    · have hs := splitF_facts (n := N) (by omega)
      by_cases ha : a < splitF N
      · have hl : (rs.take (splitF N)).length = splitF N := by rw [List.length_take, hN]; omega
        have hp := proveF_lo (rs := rs) (a := a) (by omega) (by rw [hN]; exact ha)
        rw [hN] at hp
        obtain ⟨s1, s2⟩ := snoc_last (proveF (rs.take (splitF N)) a) (rootF (rs.drop (splitF N))) []
        rw [← hp] at s1 s2
        have hg : (rs.take (splitF N)).getD a [] = rs.getD a [] := by simp [List.getD, ha]
        rw [leadF_lo (by omega) (by rw [hp]; simp) ha, s1, s2, ← hg, ih (splitF N) (by omega) _ a hl ha, rootF_two (rs := rs) (by omega), hN]
      · have hl : (rs.drop (splitF N)).length = N - splitF N := by rw [List.length_drop, hN]
        have hp := proveF_hi (rs := rs) (a := a) (by omega) (by rw [hN]; omega)
        rw [hN] at hp
        obtain ⟨s1, s2⟩ := snoc_last (proveF (rs.drop (splitF N)) (a - splitF N)) (rootF (rs.take (splitF N))) []
        rw [← hp] at s1 s2
        have hg : (rs.drop (splitF N)).getD (a - splitF N) [] = rs.getD a [] := by
          simp only [List.getD, List.getElem?_drop]
          rw [show splitF N + (a - splitF N) = a by omega]
        rw [leadF_hi (by omega) (by rw [hp]; simp) (by omega), s1, s2, ← hg, ih (N - splitF N) (by omega) _ (a - splitF N) hl (by omega), rootF_two (rs := rs) (by omega), hN]

/-- An array, put into a block of its own. -/
theorem put_arr {w : World} {g : Nat} {T : TypeId} {Z JL : List Value} (h : Arr w g T Z) (hl : Z.length = JL.length) :
    w.there g 0 JL.length ∧ Arr (w.setCells g 0 JL) g T JL ∧ Only (fun k => k = g) w (w.setCells g 0 JL) := by
  refine ⟨fun j hj => ?_, ?_, Only.setCells (R := fun k => k = g) rfl JL 0 _ (Only.refl _ w)⟩
  · rw [h.cell, h.frozen, Nat.zero_add, List.getElem?_eq_getElem (by omega)]
    exact ⟨rfl, rfl⟩
  · have h1 := Arr.setCells JL 0 _ w h (by omega)
    simpa using h1

/-- Rows, cut. -/
theorem RowsAt.take {w : World} {B : Nat} {A : Option Addr} {rs : List (List UInt8)} (h : RowsAt w B A rs) (k : Nat) : RowsAt w B A (rs.take k) := fun hn => by
  rw [List.length_take] at hn
  obtain ⟨blk, off, e, hb, hr⟩ := h (by omega)
  refine ⟨blk, off, e, hb, fun i hi => ?_⟩
  rw [List.length_take] at hi
  have hg : (rs.take k).getD i [] = rs.getD i [] := by simp [List.getD, show i < k by omega]
  rw [hg]
  exact hr i (by omega)
theorem RowsAt.drop {w : World} {B blk off : Nat} {rs : List (List UInt8)} (h : RowsAt w B (some ⟨blk, off, none⟩) rs) {k : Nat} (hk : k < rs.length) : RowsAt w B (some ⟨blk, off + k, none⟩) (rs.drop k) := fun hn => by
  obtain ⟨blk', off', e, hb, hr⟩ := h (by omega)
  injection e with e
  injection e with e1 e2
  subst e1 e2
  refine ⟨blk, off + k, rfl, hb, fun i hi => ?_⟩
  rw [List.length_drop] at hi
  have hg : (rs.drop k).getD i [] = rs.getD (k + i) [] := by simp [List.getD]
  rw [hg, Nat.add_assoc]
  exact hr (k + i) (by omega)

end Go.Proofs.Ytccccpadnaocfaa

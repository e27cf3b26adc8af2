/-
  A trie's own nodes with one more behind, or without the first or the last one, show nothing. No program.
-/
import Derived.Test.YtblgmnjegkfoaaaGreatLPHonestMath
namespace Go.Proofs.YtblgmnjegkfoaaaGreat
open Go.RowKit
set_option linter.unusedVariables false
set_option linter.unusedSimpArgs false

theorem chkF_end (root key : List UInt8) (t : Nat) (ht : 0 < t) : chkF root key [] t = none := by
  unfold chkF
  rw [if_neg (fun h => by omega)]
/-- One more node behind. -/
theorem chk_more (key more : List UInt8) : ∀ (f : Nat) (l : List It) (t : Nat), l ≠ [] → Good l → (∀ x ∈ l, x.2.length ≤ 1000) → (∀ i, i < t → agreeF l i = true) → t ≤ 64 → 65 - t ≤ f → chkF (nodeD l t) key (proveF key f l t ++ [more]) t = none
  | 0, _, t, _, _, _, _, ht, hf => by omega
  | f + 1, l, t, hl, hg, hv, hag, ht, hf => by
    have hlp : 0 < l.length := List.length_pos_iff.2 hl
    unfold proveF
    rw [if_neg hl]
    rw [List.cons_append]
    unfold chkF
    have hD : shaF (tagF 4 [nodeF 65 l t]) = nodeD l t := rfl
    rcases Nat.lt_or_ge l.length 2 with h | h2
    · match l, hlp, h, hv with
      | [x], _, _, hv =>
        have hok := nodeF_okLeaf x t ht (hv x (by simp))
        simp only
        rw [if_neg (by rintro (q | q); · rw [hok] at q; cases q
                       · exact q hD), ndR_leaf x t ht (hv x (by simp)) 64]
        simp only [if_true]
        have hrest : (if [x].length = 1 ∨ restF ([x].headD ([], [])).1 t (sharedF [x] t) ≠ restF key t (sharedF [x] t) then [] else proveF key f (subF [x] (sharedF [x] t) (nibF key (sharedF [x] t))) (sharedF [x] t + 1)) = [] := if_pos (.inl rfl)
        rw [hrest]
        by_cases e : restF x.1 t 64 = restF key t (t + (restF x.1 t 64).length)
        · rw [if_pos e]; simp
        · rw [if_neg e]; simp
    · have hs := hg.split h2 ht hag
      have hge := sharedF_ge l t
      have hok := nodeF_okBranch l t ht h2 hs
      simp only
      rw [if_neg (by rintro (q | q); · rw [hok] at q; cases q
                     · exact q hD), ndR_branch l t 64 ht h2]
      simp only [Bool.false_eq_true, if_false]
      rw [restF_length, show t + (sharedF l t - t) = sharedF l t by omega]
      obtain ⟨sh, hsh⟩ : ∃ sh, sharedF l t = sh := ⟨_, rfl⟩
      have hshag : ∀ i, i < sh → agreeF l i = true := by rw [← hsh]; exact shared_agree hag
      rw [hsh] at hs hge ⊢
      by_cases e : restF (l.headD ([], [])).1 t sh = restF key t sh
      · rw [if_pos e]
        have hbit : bitM (maskF l sh 16) (nibF key sh) = !(decide (subF l sh (nibF key sh) = [])) := maskF_bit l sh 16 _ (nibF_lt _ _)
        have hrest : (if l.length = 1 ∨ restF (l.headD ([], [])).1 t sh ≠ restF key t sh then [] else proveF key f (subF l sh (nibF key sh)) (sh + 1)) = proveF key f (subF l sh (nibF key sh)) (sh + 1) := if_neg (fun q => q.elim (fun q => by omega) (fun q => q e))
        rw [hrest]
        by_cases hsub : subF l sh (nibF key sh) = []
        · rw [hbit, hsub, proveF_none]
          simp
        · rw [hbit]
          simp only [hsub, decide_false, Bool.not_false, if_true]
          have hnode : kidD (maskF l sh 16) (sufB 64 l sh 0, false) (nibF key sh) = nodeD (subF l sh (nibF key sh)) (sh + 1) := by
            rw [kidD_suf 64 l sh _ (nibF_lt _ _) hsub]
            unfold nodeD
            rw [nodeF_fuel 64 65 _ (sh + 1) (hg.part sh _) (part_agree hshag) (by omega) (List.length_pos_iff.2 hsub) (by omega) (by omega)]
          rw [hnode]
          exact chk_more key more f _ (sh + 1) hsub (hg.part sh _) (fun z hz => hv z (mem_subF.1 hz).1) (part_agree hshag) (by omega) (by omega)
      · have hrest : (if l.length = 1 ∨ restF (l.headD ([], [])).1 t sh ≠ restF key t sh then [] else proveF key f (subF l sh (nibF key sh)) (sh + 1)) = [] := if_pos (.inr e)
        rw [if_neg e, hrest]
        simp
/-- Without the last node. -/
theorem chk_less (key : List UInt8) : ∀ (f : Nat) (l : List It) (t : Nat), l ≠ [] → Good l → (∀ x ∈ l, x.2.length ≤ 1000) → (∀ i, i < t → agreeF l i = true) → t ≤ 64 → 65 - t ≤ f → 0 < t ∨ 2 ≤ (proveF key f l t).length → chkF (nodeD l t) key (proveF key f l t).dropLast t = none
  | 0, _, t, _, _, _, _, ht, hf, _ => by omega
  | f + 1, l, t, hl, hg, hv, hag, ht, hf, h0 => by
    have hlp : 0 < l.length := List.length_pos_iff.2 hl
    have hP : proveF key (f + 1) l t = nodeF 65 l t :: (if l.length = 1 ∨ restF (l.headD ([], [])).1 t (sharedF l t) ≠ restF key t (sharedF l t) then [] else proveF key f (subF l (sharedF l t) (nibF key (sharedF l t))) (sharedF l t + 1)) := by
      conv => lhs; unfold proveF
      rw [if_neg hl]
    obtain ⟨R, hR⟩ : ∃ R, (if l.length = 1 ∨ restF (l.headD ([], [])).1 t (sharedF l t) ≠ restF key t (sharedF l t) then [] else proveF key f (subF l (sharedF l t) (nibF key (sharedF l t))) (sharedF l t + 1)) = R := ⟨_, rfl⟩
    rw [hP, hR] at h0 ⊢
    by_cases hRn : R = []
    · subst hRn
      have ht0 : 0 < t := h0.elim id (fun h => by simp at h)
      exact chkF_end _ _ _ ht0
    · have hD : shaF (tagF 4 [nodeF 65 l t]) = nodeD l t := rfl
      rw [List.dropLast_cons_of_ne_nil hRn]
      have hc : ¬ (l.length = 1 ∨ restF (l.headD ([], [])).1 t (sharedF l t) ≠ restF key t (sharedF l t)) := fun h => by
        rw [if_pos h] at hR
        exact hRn hR.symm
      rw [if_neg hc] at hR
      have h2 : 2 ≤ l.length := by
        have : l.length ≠ 1 := fun h => hc (.inl h)
        omega
      have e : restF (l.headD ([], [])).1 t (sharedF l t) = restF key t (sharedF l t) := by
        by_cases q : restF (l.headD ([], [])).1 t (sharedF l t) = restF key t (sharedF l t)
        · exact q
        · exact absurd (.inr q) hc
      have hs := hg.split h2 ht hag
      have hge := sharedF_ge l t
      have hok := nodeF_okBranch l t ht h2 hs
      unfold chkF
      simp only
      rw [if_neg (by rintro (q | q); · rw [hok] at q; cases q
                     · exact q hD), ndR_branch l t 64 ht h2]
      simp only [Bool.false_eq_true, if_false]
      rw [restF_length, show t + (sharedF l t - t) = sharedF l t by omega]
      obtain ⟨sh, hsh⟩ : ∃ sh, sharedF l t = sh := ⟨_, rfl⟩
      have hshag : ∀ i, i < sh → agreeF l i = true := by rw [← hsh]; exact shared_agree hag
      rw [hsh] at hs hge e hR ⊢
      rw [if_pos e]
      have hbit : bitM (maskF l sh 16) (nibF key sh) = !(decide (subF l sh (nibF key sh) = [])) := maskF_bit l sh 16 _ (nibF_lt _ _)
      by_cases hsub : subF l sh (nibF key sh) = []
      · rw [hsub, proveF_none] at hR
        exact absurd hR.symm hRn
      · rw [hbit]
        simp only [hsub, decide_false, Bool.not_false, if_true]
        have hnode : kidD (maskF l sh 16) (sufB 64 l sh 0, false) (nibF key sh) = nodeD (subF l sh (nibF key sh)) (sh + 1) := by
          rw [kidD_suf 64 l sh _ (nibF_lt _ _) hsub]
          unfold nodeD
          rw [nodeF_fuel 64 65 _ (sh + 1) (hg.part sh _) (part_agree hshag) (by omega) (List.length_pos_iff.2 hsub) (by omega) (by omega)]
        rw [hnode, ← hR]
        exact chk_less key f _ (sh + 1) hsub (hg.part sh _) (fun z hz => hv z (mem_subF.1 hz).1) (part_agree hshag) (by omega) (by omega) (.inl (by omega))
theorem root_nodeH {L : List It} (h : L ≠ []) : rootF L = nodeD L 0 := by unfold rootF; rw [if_neg h]
/-- The law's three answers. -/
theorem apart_more (key more : List UInt8) (l : List It) (hg : Good l) (hv : ∀ x ∈ l, x.2.length ≤ 1000) (h : chkF (rootF l) key (proveF key 65 l 0 ++ [more]) 0 ≠ none) : proveF key 65 l 0 = [] ∧ shaF (tagF 4 [more]) = rootF l := by
  by_cases hl : l = []
  · subst hl
    rw [proveF_none] at h ⊢
    refine ⟨rfl, ?_⟩
    by_cases e : shaF (tagF 4 [more]) = rootF []
    · exact e
    · exfalso
      refine h ?_
      show chkF _ key [more] 0 = none
      unfold chkF
      simp only
      rw [if_pos (.inr e)]
  · rw [root_nodeH hl] at h
    exact absurd (chk_more key more 65 l 0 hl hg hv (fun i hi => by omega) (by omega) (by omega)) h
theorem apart_last (key : List UInt8) (l : List It) (hg : Good l) (hv : ∀ x ∈ l, x.2.length ≤ 1000) (hl : proveF key 65 l 0 ≠ []) (hr : rootF l ≠ shaF (tagF 5 [])) : chkF (rootF l) key (proveF key 65 l 0).dropLast 0 = none := by
  have hln : l ≠ [] := fun e => hl (by rw [e, proveF_none])
  rcases Nat.lt_or_ge (proveF key 65 l 0).length 2 with h | h
  · have h1 : (proveF key 65 l 0).dropLast = [] := by
      refine List.eq_nil_of_length_eq_zero ?_
      rw [List.length_dropLast]; omega
    rw [h1]
    unfold chkF
    rw [if_neg (fun q => hr q.2)]
  · rw [root_nodeH hln]
    exact chk_less key 65 l 0 hln hg hv (fun i hi => by omega) (by omega) (by omega) (.inr h)
theorem apart_first (key : List UInt8) (l : List It) (hl : proveF key 65 l 0 ≠ []) (hr : rootF l ≠ shaF (tagF 5 [])) (hn : ∀ b, (proveF key 65 l 0)[1]? = some b → shaF (tagF 4 [b]) ≠ rootF l) : chkF (rootF l) key (proveF key 65 l 0).tail 0 = none := by
  match hP : proveF key 65 l 0, hl with
  | [a], _ =>
    show chkF _ key [] 0 = none
    unfold chkF
    rw [if_neg (fun q => hr q.2)]
  | a :: b :: r, _ =>
    show chkF _ key (b :: r) 0 = none
    have := hn b (by rw [hP]; rfl)
    unfold chkF
    simp only
    rw [if_pos (.inr this)]

end Go.Proofs.YtblgmnjegkfoaaaGreat

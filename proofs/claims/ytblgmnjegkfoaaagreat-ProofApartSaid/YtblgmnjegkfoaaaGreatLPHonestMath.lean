/-
  A trie's own nodes on the way to a key show what the trie tells. No program.
-/
import Derived.Test.YtblgmnjegkfoaaaGreatLPBoundMath
namespace Go.Proofs.YtblgmnjegkfoaaaGreat
open Go.RowKit
set_option linter.unusedVariables false
set_option linter.unusedSimpArgs false

theorem nodeF_okLeaf (x : It) (t : Nat) (ht : t ≤ 64) (hv : x.2.length ≤ 1000) : (ndR (64 - t) 9223372036854775807 (nodeF 65 [x] t)).ok (64 - t) = true := by
  rw [ndR_leaf x t ht hv 64]
  unfold NdR.ok NdR.fits
  simp only [if_true]
  rw [restF_length, nibs_rest]
  simp [doneF]
theorem nodeF_okBranch (l : List It) (t : Nat) (ht : t ≤ 64) (h2 : 2 ≤ l.length) (hs : sharedF l t < 64) : (ndR (64 - t) 9223372036854775807 (nodeF 65 l t)).ok (64 - t) = true := by
  have hge := sharedF_ge l t
  rw [ndR_branch l t 64 ht h2]
  unfold NdR.ok NdR.fits
  simp only [Bool.false_eq_true, if_false]
  rw [restF_length, nibs_rest, decide_eq_true (show sharedF l t - t < 64 - t by omega), decide_eq_true (pop_parts (sharedF_end hs))]
  simp [doneF]
theorem chk_accept (key : List UInt8) : ∀ (f : Nat) (l : List It) (t : Nat), l ≠ [] → Good l → (∀ x ∈ l, x.2.length ≤ 1000) → (∀ i, i < t → agreeF l i = true) → t ≤ 64 → 65 - t ≤ f → ∃ res, chkF (nodeD l t) key (proveF key f l t) t = some res
  | 0, _, t, _, _, _, _, ht, hf => by omega
  | f + 1, l, t, hl, hg, hv, hag, ht, hf => by
    have hlp : 0 < l.length := List.length_pos_iff.2 hl
    unfold proveF
    rw [if_neg hl]
    unfold chkF
    have hD : shaF (tagF 4 [nodeF 65 l t]) = nodeD l t := rfl
    rcases Nat.lt_or_ge l.length 2 with h | h2
    · match l, hlp, h, hv with
      | [x], _, _, hv =>
        have hok := nodeF_okLeaf x t ht (hv x (by simp))
        simp only
        rw [if_neg (by rintro (q | q); · rw [hok] at q; cases q
                       · exact q hD), ndR_leaf x t ht (hv x (by simp)) 64]
        simp only [if_true]
        rw [if_pos (show [x].length = 1 ∨ _ from .inl rfl)]
        by_cases e : restF x.1 t 64 = restF key t (t + (restF x.1 t 64).length)
        · rw [if_pos e]; simp
        · rw [if_neg e]; simp
    · have hs := hg.split h2 ht hag
      have hge := sharedF_ge l t
      have hok := nodeF_okBranch l t ht h2 hs
      simp only
      rw [if_neg (by rintro (q | q); · rw [hok] at q; cases q
                     · exact q hD), ndR_branch l t 64 ht h2]
      simp only [Bool.false_eq_true, if_false]
      rw [restF_length, show t + (sharedF l t - t) = sharedF l t by omega]
      obtain ⟨sh, hsh⟩ : ∃ sh, sharedF l t = sh := ⟨_, rfl⟩
      have hshag : ∀ i, i < sh → agreeF l i = true := by rw [← hsh]; exact shared_agree hag
      rw [hsh] at hs hge ⊢
      by_cases e : restF (l.headD ([], [])).1 t sh = restF key t sh
      · rw [if_pos e]
        have hbit : bitM (maskF l sh 16) (nibF key sh) = !(decide (subF l sh (nibF key sh) = [])) := maskF_bit l sh 16 _ (nibF_lt _ _)
        have hrest : (if l.length = 1 ∨ restF (l.headD ([], [])).1 t sh ≠ restF key t sh then [] else proveF key f (subF l sh (nibF key sh)) (sh + 1)) = proveF key f (subF l sh (nibF key sh)) (sh + 1) := if_neg (fun q => q.elim (fun q => by omega) (fun q => q e))
        rw [hrest]
        by_cases hsub : subF l sh (nibF key sh) = []
        · rw [hbit, hsub, proveF_none]
          simp
        · rw [hbit]
          simp only [hsub, decide_false, Bool.not_false, if_true]
          have hnode : kidD (maskF l sh 16) (sufB 64 l sh 0, false) (nibF key sh) = nodeD (subF l sh (nibF key sh)) (sh + 1) := by
            rw [kidD_suf 64 l sh _ (nibF_lt _ _) hsub]
            unfold nodeD
            rw [nodeF_fuel 64 65 _ (sh + 1) (hg.part sh _) (part_agree hshag) (by omega) (List.length_pos_iff.2 hsub) (by omega) (by omega)]
          rw [hnode]
          exact chk_accept key f _ (sh + 1) hsub (hg.part sh _) (fun z hz => hv z (mem_subF.1 hz).1) (part_agree hshag) (by omega) (by omega)
      · have hrest : (if l.length = 1 ∨ restF (l.headD ([], [])).1 t sh ≠ restF key t sh then [] else proveF key f (subF l sh (nibF key sh)) (sh + 1)) = [] := if_pos (.inr e)
        rw [if_neg e, hrest]
        simp
/-- What nodes of a trie's own show. -/
theorem honest_all (key : List UInt8) (hk : key.length = 32) (l : List It) (hg : Good l) (hv : ∀ x ∈ l, x.2.length ≤ 1000) : chkF (rootF l) key (proveF key 65 l 0) 0 = some (findF l key) := by
  by_cases hl : l = []
  · subst hl
    rw [proveF_none]
    unfold chkF rootF
    simp [findF]
  · have hr : rootF l = nodeD l 0 := by unfold rootF; rw [if_neg hl]
    rw [hr]
    obtain ⟨res, hres⟩ := chk_accept key 65 l 0 hl hg hv (fun i hi => by omega) (by omega) (by omega)
    rw [hres]
    have hp0 : proveF key 65 l 0 ≠ [] := by unfold proveF; rw [if_neg hl]; simp
    rcases bound_way key hk _ l 0 65 res hl hg hv (fun i hi => by omega) (fun x _ i hi => by omega) (by omega) (by omega) (.inl hp0) hres with h | ⟨i, a, b, _, h1, h2, h3, _⟩
    · rw [h]
    · rw [h1] at h2
      injection h2 with h2
      exact absurd h2 h3
theorem proveF_many (key : List UInt8) : ∀ (f : Nat) (l : List It) (t : Nat), (proveF key f l t).length ≤ f
  | 0, _, _ => by simp [proveF]
  | f + 1, l, t => by
    unfold proveF
    by_cases h : l = []
    · rw [if_pos h]; simp
    · rw [if_neg h, List.length_cons]
      split
      · simp
      · have := proveF_many key f (subF l (sharedF l t) (nibF key (sharedF l t))) (sharedF l t + 1)
        omega

end Go.Proofs.YtblgmnjegkfoaaaGreat

/-
  What nodes show of a key, held against a trie's: the value, or two rows of one digest. No program.
-/
import Derived.Test.YtblgmnjegkfoaaaGreatLProofMath
import Derived.Test.YtblgmnjegkfoaaaGreatLNdMath
import Derived.Test.YtblgmnjegkfoaaaGreatK14
import Derived.Test.YtblgmnjegkfoaaaGreatLProofTakes
namespace Go.Proofs.YtblgmnjegkfoaaaGreat
open Go.RowKit
set_option linter.unusedVariables false
set_option linter.unusedSimpArgs false

theorem popM_mono (m : Nat) {a b : Nat} (h : a ≤ b) : popM m a ≤ popM m b := by
  induction b with
  | zero => have : a = 0 := by omega
            subst this; exact Nat.le_refl _
  | succ b ih =>
    by_cases e : a = b + 1
    · subst e; exact Nat.le_refl _
    · rw [popM_succI]; have := ih (by omega); omega
theorem popM_two (m : Nat) {a b : Nat} (hab : a < b) (hb : b < 16) (h1 : bitM m a = true) (h2 : bitM m b = true) : 1 < popM m 16 := by
  have e1 : 1 ≤ popM m (a + 1) := by rw [popM_succI, h1]; simp
  have e2 := popM_mono m (show a + 1 ≤ b by omega)
  have e3 : popM m (b + 1) = popM m b + 1 := by rw [popM_succI, h2]; simp
  have e4 := popM_mono m (show b + 1 ≤ 16 by omega)
  omega
/-- Of keys that part there are two nibbles. -/
theorem pop_parts {l : List It} {s : Nat} (h : agreeF l s = false) : 1 < popM (maskF l s 16) 16 := by
  have hne : ∃ x ∈ l, ∃ y ∈ l, nibF x.1 s ≠ nibF y.1 s := by
    by_cases hq : ∃ x ∈ l, ∃ y ∈ l, nibF x.1 s ≠ nibF y.1 s
    · exact hq
    · exfalso
      have : agreeF l s = true := agreeF_iff.2 fun x hx y hy => by
        by_cases e : nibF x.1 s = nibF y.1 s
        · exact e
        · exact absurd ⟨x, hx, y, hy, e⟩ hq
      rw [this] at h
      cases h
  obtain ⟨x, hx, y, hy, hxy⟩ := hne
  have bit : ∀ z ∈ l, bitM (maskF l s 16) (nibF z.1 s) = true := fun z hz => by
    rw [maskF_bit l s 16 _ (nibF_lt _ _)]
    have : subF l s (nibF z.1 s) ≠ [] := List.ne_nil_of_mem (mem_subF.2 ⟨hz, rfl⟩)
    simp [this]
  rcases Nat.lt_or_gt_of_ne hxy with h1 | h1
  · exact popM_two _ h1 (nibF_lt _ _) (bit x hx) (bit y hy)
  · exact popM_two _ h1 (nibF_lt _ _) (bit y hy) (bit x hx)

/-- Where nodes show something else than a trie tells, they differ from its own, and the first that differ have one digest. -/
theorem bound_way (key : List UInt8) (hk : key.length = 32) : ∀ (rs : List (List UInt8)) (l : List It) (t f : Nat) (res : Option (List UInt8)), l ≠ [] → Good l → (∀ x ∈ l, x.2.length ≤ 1000) → (∀ i, i < t → agreeF l i = true) → (∀ x ∈ l, ∀ i, i < t → nibF x.1 i = nibF key i) → t ≤ 64 → 65 - t ≤ f → (rs ≠ [] ∨ 0 < t) →
    chkF (nodeD l t) key rs t = some res → res = findF l key ∨ Differs (proveF key f l t) rs := by
  intro rs
  induction rs with
  | nil =>
    intro l t f res hl0 hgood hval hag hkey ht hf h0 hc
    exfalso
    unfold chkF at hc
    rw [if_neg (by rintro ⟨h, _⟩; rcases h0 with h0 | h0; exact h0 rfl; omega)] at hc
    cases hc
  | cons b r ih =>
    intro l t f res hl0 hgood hval hag hkey ht hf h0 hc
    obtain ⟨f, rfl⟩ : ∃ f', f = f' + 1 := ⟨f - 1, by omega⟩
    have hlp : 0 < l.length := List.length_pos_iff.2 hl0
    unfold chkF at hc
    have hcase : ¬ ((ndR (64 - t) 9223372036854775807 b).ok (64 - t) = false ∨ shaF (tagF 4 [b]) ≠ nodeD l t) := fun h => by
      rw [if_pos h] at hc; cases hc
    rw [if_neg hcase] at hc
    have hD : shaF (tagF 4 [b]) = nodeD l t := by
      by_cases e : shaF (tagF 4 [b]) = nodeD l t
      · exact e
      · exact absurd (.inr e) hcase
    have hprove : proveF key (f + 1) l t = nodeF 65 l t :: (if l.length = 1 ∨ restF (l.headD ([], [])).1 t (sharedF l t) ≠ restF key t (sharedF l t) then [] else proveF key f (subF l (sharedF l t) (nibF key (sharedF l t))) (sharedF l t + 1)) := by
      conv => lhs; unfold proveF
      rw [if_neg hl0]
    by_cases hb : nodeF 65 l t = b
    · subst hb
      rcases Nat.lt_or_ge l.length 2 with h | h2
      · left
        match l, hlp, h, hc, hval, hkey, hgood with
        | [x], _, _, hc, hval, hkey, hgood =>
          rw [ndR_leaf x t ht (hval x (by simp)) 64] at hc
          simp only [if_true] at hc
          rw [restF_length, show t + (64 - t) = 64 by omega] at hc
          have hx32 := hgood.k32 x (by simp)
          by_cases e : restF x.1 t 64 = restF key t 64
          · rw [if_pos e] at hc
            split at hc
            · injection hc with hc
              have hxk : x.1 = key := by
                refine nib_ext hx32 hk fun i hi => ?_
                by_cases hit : i < t
                · exact hkey x (by simp) i hit
                · have h1 := restF_get x.1 (t := t) (u := i) (v := 64) (by omega) hi
                  have h2 := restF_get key (t := t) (u := i) (v := 64) (by omega) hi
                  rw [← h1, ← h2, e]
              rw [← hc]
              unfold findF
              simp [hxk]
            · cases hc
          · rw [if_neg e] at hc
            split at hc
            · injection hc with hc
              rw [← hc, findF_none]
              intro z hz e2
              rw [List.mem_singleton] at hz
              subst hz
              exact e (by rw [e2])
            · cases hc
      · obtain ⟨sh, hsh⟩ : ∃ sh, sharedF l t = sh := ⟨_, rfl⟩
        have hs64 : sh < 64 := by rw [← hsh]; exact hgood.split h2 ht hag
        have hts : t ≤ sh := by rw [← hsh]; exact sharedF_ge l t
        have hshag : ∀ i, i < sh → agreeF l i = true := by rw [← hsh]; exact shared_agree hag
        rw [ndR_branch l t 64 ht h2, hsh] at hc
        simp only [Bool.false_eq_true, if_false] at hc
        rw [restF_length, show t + (sh - t) = sh by omega] at hc
        rw [hsh] at hprove
        obtain ⟨x0, r0, hlx⟩ : ∃ x0 r0, l = x0 :: r0 := by
          cases l with
          | nil => exact absurd rfl hl0
          | cons x0 r0 => exact ⟨x0, r0, rfl⟩
        have hhead : (l.headD ([], [])).1 = x0.1 := by rw [hlx]; rfl
        have hx0l : x0 ∈ l := by rw [hlx]; simp
        rw [hhead] at hc hprove
        by_cases e : restF x0.1 t sh = restF key t sh
        · rw [if_pos e] at hc
          have hbit : bitM (maskF l sh 16) (nibF key sh) = !(decide (subF l sh (nibF key sh) = [])) := maskF_bit l sh 16 _ (nibF_lt _ _)
          by_cases hsub : subF l sh (nibF key sh) = []
          · rw [hbit, hsub] at hc
            simp only [decide_true, Bool.not_true, Bool.false_eq_true, if_false] at hc
            split at hc
            · injection hc with hc
              left
              rw [← hc, findF_none]
              intro z hz e2
              have : z ∈ subF l sh (nibF key sh) := mem_subF.2 ⟨hz, by rw [e2]⟩
              rw [hsub] at this
              cases this
            · cases hc
          · rw [hbit] at hc
            simp only [hsub, decide_false, Bool.not_false, if_true] at hc
            have hnode : kidD (maskF l sh 16) (sufB 64 l sh 0, false) (nibF key sh) = nodeD (subF l sh (nibF key sh)) (sh + 1) := by
              rw [kidD_suf 64 l sh _ (nibF_lt _ _) hsub]
              unfold nodeD
              rw [nodeF_fuel 64 65 _ (sh + 1) (hgood.part sh _) (part_agree hshag) (by omega) (List.length_pos_iff.2 hsub) (by omega) (by omega)]
            rw [hnode] at hc
            have hkey2 : ∀ z ∈ subF l sh (nibF key sh), ∀ i, i < sh + 1 → nibF z.1 i = nibF key i := by
              intro z hz i hi
              obtain ⟨hz1, hz2⟩ := mem_subF.1 hz
              by_cases h1 : i = sh
              · rw [h1, hz2]
              · by_cases h3 : i < t
                · exact hkey z hz1 i h3
                · have h4 := agreeF_iff.1 (hshag i (by omega)) z hz1 x0 hx0l
                  have h5 := restF_get x0.1 (t := t) (u := i) (v := sh) (by omega) (by omega)
                  have h6 := restF_get key (t := t) (u := i) (v := sh) (by omega) (by omega)
                  rw [h4, ← h5, ← h6, e]
            have hrec := ih (subF l sh (nibF key sh)) (sh + 1) f res hsub (hgood.part sh _) (fun z hz => hval z (mem_subF.1 hz).1) (part_agree hshag) hkey2 (by omega) (by omega) (.inr (by omega)) hc
            rcases hrec with hrec | hrec
            · left; rw [hrec, findF_sub]
            · right
              rw [hprove, if_neg (by rintro (h | h); omega; exact h e)]
              exact hrec.cons _
        · rw [if_neg e] at hc
          split at hc
          · injection hc with hc
            left
            rw [← hc, findF_none]
            intro z hz e2
            refine e ?_
            rw [← e2]
            exact restF_congr fun i h1 h3 => agreeF_iff.1 (hshag i h3) x0 hx0l z hz
          · cases hc
    · right
      rw [hprove]
      exact ⟨0, nodeF 65 l t, b, rfl, rfl, rfl, hb, by rw [hD]; rfl⟩

end Go.Proofs.YtblgmnjegkfoaaaGreat

/-
  Nodes with one row of bytes are of items alike. No program.
-/
import Derived.Test.YtjbiegbdnppncaaGreatLTrieSeen
import Derived.Test.YtjbiegbdnppncaaGreatLNdMath
namespace Go.Proofs.YtjbiegbdnppncaaGreat
open Go.RowKit
set_option linter.unusedVariables false
set_option linter.unusedSimpArgs false

/-- Two nodes whose bytes are one. -/
theorem node_same {l m : List It} {t : Nat} (ht : t ≤ 64) (hl : l ≠ []) (hm : m ≠ []) (gl : Good l) (gm : Good m) (vl : ∀ x ∈ l, x.2.length ≤ 1000) (vm : ∀ x ∈ m, x.2.length ≤ 1000) (al : ∀ i, i < t → agreeF l i = true) (am : ∀ i, i < t → agreeF m i = true) (h : nodeF 65 l t = nodeF 65 m t) :
    (∃ x y, l = [x] ∧ m = [y] ∧ restF x.1 t 64 = restF y.1 t 64 ∧ x.2 = y.2) ∨
      (2 ≤ l.length ∧ 2 ≤ m.length ∧ sharedF l t = sharedF m t ∧ restF (l.headD ([], [])).1 t (sharedF l t) = restF (m.headD ([], [])).1 t (sharedF l t) ∧ ∀ n, n < 16 → (subF l (sharedF l t) n = [] ↔ subF m (sharedF l t) n = []) ∧ (subF l (sharedF l t) n ≠ [] → nodeD (subF l (sharedF l t) n) (sharedF l t + 1) = nodeD (subF m (sharedF l t) n) (sharedF l t + 1))) := by
  have hp := congrArg (ndR (64 - t) 9223372036854775807) h
  have hlp := List.length_pos_iff.2 hl
  have hmp := List.length_pos_iff.2 hm
  rcases Nat.lt_or_ge l.length 2 with l1 | l2
  · obtain ⟨x, rfl⟩ := List.length_eq_one_iff.1 (show l.length = 1 by omega)
    rw [ndR_leaf x t ht (vl x (by simp)) 64] at hp
    rcases Nat.lt_or_ge m.length 2 with m1 | m2
    · obtain ⟨y, rfl⟩ := List.length_eq_one_iff.1 (show m.length = 1 by omega)
      rw [ndR_leaf y t ht (vm y (by simp)) 64] at hp
      injection hp with _ h1 h2
      exact .inl ⟨x, y, rfl, rfl, h1, h2⟩
    · rw [ndR_branch m t 64 ht m2] at hp
      injection hp with h1
      cases h1
  · rw [ndR_branch l t 64 ht l2] at hp
    rcases Nat.lt_or_ge m.length 2 with m1 | m2
    · obtain ⟨y, rfl⟩ := List.length_eq_one_iff.1 (show m.length = 1 by omega)
      rw [ndR_leaf y t ht (vm y (by simp)) 64] at hp
      injection hp with h1
      cases h1
    · rw [ndR_branch m t 64 ht m2] at hp
      injection hp with _ h1 _ h2 h3
      have hsl := sharedF_ge l t
      have hsm := sharedF_ge m t
      have hs : sharedF l t = sharedF m t := by
        have := congrArg List.length h1
        rw [restF_length, restF_length] at this
        omega
      have hs64 := gl.split l2 ht al
      rw [← hs] at h1 h2 h3
      refine .inr ⟨l2, m2, hs, h1, fun n hn => ?_⟩
      have b1 := maskF_bit l (sharedF l t) 16 n hn
      have b2 := maskF_bit m (sharedF l t) 16 n hn
      rw [h2, b2] at b1
      have hiff : subF l (sharedF l t) n = [] ↔ subF m (sharedF l t) n = [] := by
        by_cases e1 : subF l (sharedF l t) n = [] <;> by_cases e2 : subF m (sharedF l t) n = [] <;> simp [e1, e2] at b1 ⊢
      refine ⟨hiff, fun e => ?_⟩
      have e2 : subF m (sharedF l t) n ≠ [] := fun q => e (hiff.2 q)
      have k1 := kidD_suf 64 l (sharedF l t) n hn e
      have k2 := kidD_suf 64 m (sharedF l t) n hn e2
      rw [h2, h3, k2] at k1
      have hla : ∀ i, i < sharedF l t → agreeF l i = true := shared_agree al
      have hma : ∀ i, i < sharedF l t → agreeF m i = true := by rw [hs]; exact shared_agree am
      unfold nodeD
      rw [nodeF_fuel 65 64 _ _ (gl.part _ _) (part_agree hla) (by omega) (List.length_pos_iff.2 e) (by omega) (by omega), nodeF_fuel 65 64 _ _ (gm.part _ _) (part_agree hma) (by omega) (List.length_pos_iff.2 e2) (by omega) (by omega)]
      exact k1.symm

/-- Of tries under one digest the first nodes on a way that differ have one digest. -/
theorem way_first (key : List UInt8) : ∀ (f : Nat) (l m : List It) (t : Nat), l ≠ [] → m ≠ [] → Good l → Good m → (∀ x ∈ l, x.2.length ≤ 1000) → (∀ x ∈ m, x.2.length ≤ 1000) → (∀ i, i < t → agreeF l i = true) → (∀ i, i < t → agreeF m i = true) → t ≤ 64 → nodeD l t = nodeD m t →
    ∀ (k : Nat) (a b : List UInt8), (proveF key f l t).take k = (proveF key f m t).take k → (proveF key f l t)[k]? = some a → (proveF key f m t)[k]? = some b → shaF (tagF 4 [a]) = shaF (tagF 4 [b])
  | 0, _, _, _, _, _, _, _, _, _, _, _, _, _ => fun k a b _ ha => by simp [proveF] at ha
  | f + 1, l, m, t, hl, hm, gl, gm, vl, vm, al, am, ht, hD => fun k a b hk ha hb => by
    unfold proveF at hk ha hb
    rw [if_neg hl] at hk ha
    rw [if_neg hm] at hk hb
    cases k with
    | zero =>
      simp only [List.getElem?_cons_zero, Option.some.injEq] at ha hb
      subst ha hb
      exact hD
    | succ k =>
      rw [List.take_succ_cons, List.take_succ_cons] at hk
      rw [List.getElem?_cons_succ] at ha hb
      injection hk with h0 hk
      rcases node_same ht hl hm gl gm vl vm al am h0 with ⟨x, y, rfl, rfl, _, _⟩ | ⟨l2, m2, hs, hr, hkids⟩
      · rw [if_pos (.inl rfl)] at ha
        simp at ha
      · split at ha
        · simp at ha
        · split at hb
          · simp at hb
          · rename_i hc1 hc2
            rw [if_neg hc1, if_neg hc2] at hk
            rw [← hs] at hb hk
            have hs64 := gl.split l2 ht al
            have hn := nibF_lt key (sharedF l t)
            obtain ⟨hiff, hkid⟩ := hkids _ hn
            have e1 : subF l (sharedF l t) (nibF key (sharedF l t)) ≠ [] := fun e => by rw [e, proveF_none] at ha; simp at ha
            have hla : ∀ i, i < sharedF l t → agreeF l i = true := shared_agree al
            have hma : ∀ i, i < sharedF l t → agreeF m i = true := by rw [hs]; exact shared_agree am
            exact way_first key f _ _ _ e1 (fun e => e1 (hiff.2 e)) (gl.part _ _) (gm.part _ _) (fun z hz => vl z (mem_subF.1 hz).1) (fun z hz => vm z (mem_subF.1 hz).1) (part_agree hla) (part_agree hma) (by omega) (hkid e1) k a b hk ha hb

theorem proveF_at (key : List UInt8) (f : Nat) (l : List It) (t : Nat) (hl : l ≠ []) : proveF key (f + 1) l t = nodeF 65 l t :: (if l.length = 1 ∨ restF (l.headD ([], [])).1 t (sharedF l t) ≠ restF key t (sharedF l t) then [] else proveF key f (subF l (sharedF l t) (nibF key (sharedF l t))) (sharedF l t + 1)) := by
  conv => lhs; unfold proveF
  rw [if_neg hl]
theorem head_rest {l : List It} {t e : Nat} (hag : ∀ i, i < e → agreeF l i = true) {x : It} (hx : x ∈ l) : restF (l.headD ([], [])).1 t e = restF x.1 t e := by
  cases l with
  | nil => cases hx
  | cons y l => exact restF_congr fun i _ h => agreeF_iff.1 (hag i h) y (by simp) x hx
/-- Rows whose ways tell the same nodes, for all of their keys, are one. -/
theorem way_all : ∀ (f : Nat) (l m : List It) (t : Nat), l ≠ [] → m ≠ [] → Rise l → Rise m → (∀ x ∈ l, x.1.length = 32) → (∀ x ∈ m, x.1.length = 32) → (∀ x ∈ l, x.2.length ≤ 1000) → (∀ x ∈ m, x.2.length ≤ 1000) → (∀ i, i < t → agreeF l i = true) → (∀ i, i < t → agreeF m i = true) → (∀ x ∈ l, ∀ y ∈ m, ∀ i, i < t → nibF x.1 i = nibF y.1 i) → t ≤ 64 → 65 - t ≤ f →
    (∀ x, x ∈ l ∨ x ∈ m → ∀ (k : Nat) (a b : List UInt8), (proveF x.1 f l t)[k]? = some a → (proveF x.1 f m t)[k]? = some b → a = b) → l = m
  | 0, _, _, _, _, _, _, _, _, _, _, _, _, _, _, _, hf, _ => by omega
  | f + 1, l, m, t, hl, hm, rl, rm, l32, m32, vl, vm, al, am, hxy, ht, hf, hall => by
    obtain ⟨x0, hx0⟩ := List.exists_mem_of_ne_nil l hl
    obtain ⟨y0, hy0⟩ := List.exists_mem_of_ne_nil m hm
    have h0 : nodeF 65 l t = nodeF 65 m t := hall x0 (.inl hx0) 0 _ _ (by rw [proveF_at _ _ _ _ hl]; rfl) (by rw [proveF_at _ _ _ _ hm]; rfl)
    rcases node_same ht hl hm (rl.good l32) (rm.good m32) vl vm al am h0 with ⟨x, y, rfl, rfl, hr, hv⟩ | ⟨l2, m2, hs, hr, hkids⟩
    · have hk : x.1 = y.1 := nib_ext (l32 x (by simp)) (m32 y (by simp)) fun i hi => by
        by_cases h : i < t
        · exact hxy x (by simp) y (by simp) i h
        · have h1 := restF_getT x.1 (t := t) (u := i) (v := 64) (by omega) hi
          have h2 := restF_getT y.1 (t := t) (u := i) (v := 64) (by omega) hi
          rw [← h1, ← h2, hr]
      rw [show x = y from Prod.ext hk hv]
    · obtain ⟨sh, hsh⟩ : ∃ sh, sharedF l t = sh := ⟨_, rfl⟩
      have hs64 : sh < 64 := by rw [← hsh]; exact (rl.good l32).split l2 ht al
      have hts : t ≤ sh := by rw [← hsh]; exact sharedF_ge l t
      have hla : ∀ i, i < sh → agreeF l i = true := by rw [← hsh]; exact shared_agree al
      have hma : ∀ i, i < sh → agreeF m i = true := by rw [← hsh, hs]; exact shared_agree am
      rw [hsh] at hr hkids hs
      have hxy2 : ∀ x ∈ l, ∀ y ∈ m, ∀ i, i < sh → nibF x.1 i = nibF y.1 i := fun x hx y hy i hi => by
        by_cases h : i < t
        · exact hxy x hx y hy i h
        · have h1 := restF_getT x.1 (t := t) (u := i) (v := sh) (by omega) hi
          have h2 := restF_getT y.1 (t := t) (u := i) (v := sh) (by omega) hi
          rw [← h1, ← h2, ← head_rest hla hx, ← head_rest hma hy, hr]
      have hpart : ∀ n, n < 16 → subF l sh n = subF m sh n := fun n hn => by
        obtain ⟨hiff, _⟩ := hkids n hn
        by_cases e : subF l sh n = []
        · rw [e, hiff.1 e]
        · refine way_all f _ _ (sh + 1) e (fun q => e (hiff.2 q)) (rl.sub sh n) (rm.sub sh n) (sub_32 l32 sh n) (sub_32 m32 sh n) (fun z hz => vl z (mem_subF.1 hz).1) (fun z hz => vm z (mem_subF.1 hz).1) (part_agree hla) (part_agree hma) (fun x hx y hy i hi => ?_) (by omega) (by omega) (fun x hx k a b ha hb => ?_)
          · obtain ⟨x1, x2⟩ := mem_subF.1 hx
            obtain ⟨y1, y2⟩ := mem_subF.1 hy
            by_cases h : i = sh
            · rw [h, x2, y2]
            · exact hxy2 x x1 y y1 i (by omega)
          · have hxn : nibF x.1 sh = n := by rcases hx with h | h <;> exact (mem_subF.1 h).2
            have hxm : x ∈ l ∨ x ∈ m := hx.imp (fun h => (mem_subF.1 h).1) fun h => (mem_subF.1 h).1
            have hrx : restF (l.headD ([], [])).1 t sh = restF x.1 t sh := by
              rcases hxm with h | h
              · exact head_rest hla h
              · rw [hr]; exact head_rest hma h
            refine hall x hxm (k + 1) a b ?_ ?_
            · rw [proveF_at _ _ _ _ hl, List.getElem?_cons_succ, hsh, if_neg (by rintro (h | h); omega; exact h hrx), hxn]
              exact ha
            · rw [proveF_at _ _ _ _ hm, List.getElem?_cons_succ, ← hs, if_neg (by rintro (h | h); omega; exact h (by rw [← hr]; exact hrx)), hxn]
              exact hb
      rw [← parts_all rl l32 hs64 hla, ← parts_all rm m32 hs64 hma]
      have e : ∀ n ∈ List.range 16, subF l sh n = subF m sh n := fun n hn => hpart n (List.mem_range.1 hn)
      rw [List.flatMap_def, List.flatMap_def, List.map_congr_left e]

end Go.Proofs.YtjbiegbdnppncaaGreat

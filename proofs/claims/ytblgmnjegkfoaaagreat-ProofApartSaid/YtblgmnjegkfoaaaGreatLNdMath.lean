/-
  A node's bytes, taken apart, are what it was made of. No program.
-/
import Derived.Test.YtblgmnjegkfoaaaGreatLProofMath
import Derived.Test.YtblgmnjegkfoaaaGreatK14
import Derived.Test.YtblgmnjegkfoaaaGreatLPackMath
namespace Go.Proofs.YtblgmnjegkfoaaaGreat
open Go.RowKit
set_option linter.unusedVariables false
set_option linter.unusedSimpArgs false

theorem numF_backI (most v : Nat) (r : List UInt8) (h : v ≤ most) (hv : v < 18446744073709551616) : numF most (Lib.uvarint v ++ r) = (v, r, false) := by
  unfold numF
  rw [lead_uv v r hv]
  have := Lib.uvarint_pos v
  rw [if_neg (by simp only; omega)]
  simp
theorem numS_back (most v : Nat) (r : List UInt8) (h : v ≤ most) (hv : v < 18446744073709551616) : numS most (Lib.uvarint v ++ r, false) = (v, r, false) := by
  unfold numS
  simp only
  rw [numF_backI most v r h hv]
  rfl
theorem bytS_back (most : Nat) (b r : List UInt8) (h : b.length ≤ most) (hv : most < 18446744073709551616) : bytS most (bytB b ++ r, false) = (b, r, false) := by
  unfold bytS bytesF bytB
  rw [if_neg (by omega), Int.toNat_natCast, List.append_assoc]
  simp only
  rw [numF_backI most b.length (b ++ r) h (by omega)]
  simp only
  have : cutF b.length (b ++ r) = (b, r, false) := by
    unfold cutF
    rw [if_neg (by simp)]
    simp
  rw [this]
  rfl
theorem uv_one : Lib.uvarint 1 = [1] := by rw [Lib.uvarint_small (by omega)]; rfl
theorem uv_zero : Lib.uvarint 0 = [0] := by rw [Lib.uvarint_small (by omega)]; rfl
theorem nibs_rest (k : List UInt8) (t u : Nat) : nibsB (restF k t u) = true := by
  unfold nibsB restF
  rw [List.all_eq_true]
  intro x hx
  obtain ⟨i, _, rfl⟩ := List.mem_map.1 hx
  have := nibF_lt k (t + i)
  simp [Nat.toUInt8, UInt8.toNat_ofNat']
  omega

/-- A leaf's bytes, taken apart. -/
theorem ndR_leaf (x : It) (t : Nat) (ht : t ≤ 64) (hv : x.2.length ≤ 1000) (f : Nat) :
    ndR (64 - t) 9223372036854775807 (nodeF (f + 1) [x] t) = ⟨true, restF x.1 t 64, x.2, 0, ([], false), ([], false)⟩ := by
  have e : nodeF (f + 1) [x] t = Lib.uvarint 0 ++ (bytB (restF x.1 t 64) ++ (bytB x.2 ++ [])) := by rw [nodeF_one, uv_zero]; simp
  have h1 := numS_back 1 0 (bytB (restF x.1 t 64) ++ (bytB x.2 ++ [])) (by omega) (by omega)
  have h2 := bytS_back (64 - t) (restF x.1 t 64) (bytB x.2 ++ []) (by rw [restF_length]; exact Nat.le_refl _) (by omega)
  have h3 : bytS 9223372036854775807 (bytB x.2 ++ [], false) = (x.2, [], false) := bytS_back 9223372036854775807 x.2 [] (by omega) (by omega)
  unfold ndR
  rw [e, h1]
  simp only [if_true]
  rw [h2]
  simp only
  rw [h3]
theorem kidS_succI (m : Nat) (s : St) (n : Nat) : kidS m s (n + 1) = if bitM m n then cutS (kidS m s n) else kidS m s n := rfl
theorem popM_succI (m n : Nat) : popM m (n + 1) = popM m n + if bitM m n then 1 else 0 := rfl
/-- The bits of the nibbles that there are. -/
theorem maskF_bit (l : List It) (s : Nat) : ∀ (m n : Nat), n < m → bitM (maskF l s m) n = !(decide (subF l s n = [])) := by
  intro m
  induction m with
  | zero => intro n h; omega
  | succ m ih =>
    intro n h
    have hlt := maskF_lt l s m
    by_cases e : n = m
    · subst e
      unfold bitM
      rw [maskF_succ]
      by_cases hs : subF l s n = []
      · rw [if_pos hs, Nat.add_zero, Nat.div_eq_of_lt hlt]; simp [hs]
      · rw [if_neg hs, Nat.add_div_right _ (Nat.pos_of_ne_zero (by have := Nat.two_pow_pos n; omega)), Nat.div_eq_of_lt hlt]; simp [hs]
    · rw [← ih n (by omega)]
      unfold bitM
      rw [maskF_succ]
      split
      · rfl
      · have e2 : 2 ^ m = 2 ^ n * (2 * 2 ^ (m - n - 1)) := by
          rw [← Nat.pow_succ', ← Nat.pow_add]
          congr 1
          omega
        rw [e2, Nat.add_mul_div_left _ _ (Nat.two_pow_pos n)]
        congr 2
        omega
/-- The digests from a nibble on. -/
def sufB (f : Nat) (l : List It) (s n : Nat) : List UInt8 := (List.range' n (16 - n)).flatMap fun m => if subF l s m = [] then [] else shaF (tagF 4 [nodeF f (subF l s m) (s + 1)])
theorem sufB_zero (f : Nat) (l : List It) (s : Nat) : sufB f l s 0 = kidsB f l s 16 := by
  unfold sufB kidsB
  rw [List.range_eq_range']
theorem sufB_succ (f : Nat) (l : List It) (s n : Nat) (h : n < 16) : sufB f l s n = (if subF l s n = [] then [] else shaF (tagF 4 [nodeF f (subF l s n) (s + 1)])) ++ sufB f l s (n + 1) := by
  unfold sufB
  rw [show 16 - n = (16 - (n + 1)) + 1 by omega, List.range'_succ, List.flatMap_cons]
theorem sufB_end (f : Nat) (l : List It) (s : Nat) : sufB f l s 16 = [] := by simp [sufB]
theorem cutS_dig (d r : List UInt8) (hd : d.length = 32) : cutS (d ++ r, false) = (r, false) ∧ digF (d ++ r) = d := by
  have hl : ¬ ((d ++ r).length < 32) := by rw [List.length_append]; omega
  have e1 : (d ++ r).take 32 = d := by rw [← hd, List.take_left]
  have e2 : (d ++ r).drop 32 = r := by rw [← hd, List.drop_left]
  constructor
  · unfold cutS cutF
    simp only
    rw [if_neg hl, e2]
    rfl
  · unfold digF
    rw [if_neg hl, e1]
theorem kidS_suf (f : Nat) (l : List It) (s : Nat) : ∀ n, n ≤ 16 → kidS (maskF l s 16) (sufB f l s 0, false) n = (sufB f l s n, false)
  | 0, _ => rfl
  | n + 1, h => by
    rw [kidS_succI, kidS_suf f l s n (by omega), maskF_bit l s 16 n (by omega)]
    have hs := sufB_succ f l s n (by omega)
    by_cases e : subF l s n = []
    · rw [if_pos e, List.nil_append] at hs
      rw [hs]; simp [e]
    · rw [if_neg e] at hs
      rw [hs]
      simp only [e, decide_false, Bool.not_false, if_true]
      exact (cutS_dig _ _ (shaF_length _)).1
theorem kidD_suf (f : Nat) (l : List It) (s n : Nat) (h : n < 16) (e : subF l s n ≠ []) : kidD (maskF l s 16) (sufB f l s 0, false) n = shaF (tagF 4 [nodeF f (subF l s n) (s + 1)]) := by
  unfold kidD
  rw [kidS_suf f l s n (by omega)]
  have hs := sufB_succ f l s n h
  rw [if_neg e] at hs
  simp only
  rw [hs]
  exact (cutS_dig _ _ (shaF_length _)).2
/-- A branch's bytes, taken apart. -/
theorem ndR_branch (l : List It) (t f : Nat) (ht : t ≤ 64) (h2 : 2 ≤ l.length) :
    ndR (64 - t) 9223372036854775807 (nodeF (f + 1) l t) = ⟨false, restF (l.headD ([], [])).1 t (sharedF l t), [], maskF l (sharedF l t) 16, (sufB f l (sharedF l t) 0, false), ([], false)⟩ := by
  have hsh := sharedF_le l ht
  have hge := sharedF_ge l t
  have e : nodeF (f + 1) l t = Lib.uvarint 1 ++ (bytB (restF (l.headD ([], [])).1 t (sharedF l t)) ++ (Lib.uvarint (maskF l (sharedF l t) 16) ++ sufB f l (sharedF l t) 0)) := by
    rw [nodeF_two f l t h2, uv_one, sufB_zero]; simp
  have hm := maskF_lt l (sharedF l t) 16
  have h1 := numS_back 1 1 (bytB (restF (l.headD ([], [])).1 t (sharedF l t)) ++ (Lib.uvarint (maskF l (sharedF l t) 16) ++ sufB f l (sharedF l t) 0)) (by omega) (by omega)
  have h2' := bytS_back (64 - t) (restF (l.headD ([], [])).1 t (sharedF l t)) (Lib.uvarint (maskF l (sharedF l t) 16) ++ sufB f l (sharedF l t) 0) (by rw [restF_length]; omega) (by omega)
  have h3 := numS_back 65535 (maskF l (sharedF l t) 16) (sufB f l (sharedF l t) 0) (by omega) (by omega)
  unfold ndR
  rw [e, h1]
  simp only
  rw [if_neg (by omega), h2']
  simp only
  rw [h3]
  simp only
  rw [kidS_suf f l _ 16 (Nat.le_refl _), sufB_end]

end Go.Proofs.YtblgmnjegkfoaaaGreat

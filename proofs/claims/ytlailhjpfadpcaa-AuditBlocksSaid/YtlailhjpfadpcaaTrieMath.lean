/-
  Tries, as lists of items: nibbles, the longest beginning, parts, nodes as bytes. No program.
-/
import Derived.Test.YtlailhjpfadpcaaTagged
import Derived.Test.YtlailhjpfadpcaaSame
namespace Go.Proofs.Ytlailhjpfadpcaa
open Go.RowKit
set_option linter.unusedVariables false
set_option linter.unusedSimpArgs false

/-- A key's nibble at a place. -/
def nibF (k : List UInt8) (i : Nat) : Nat := if i % 2 = 0 then (k.getD (i / 2) 0).toNat / 16 else (k.getD (i / 2) 0).toNat % 16
theorem nibF_lt (k : List UInt8) (i : Nat) : nibF k i < 16 := by
  unfold nibF
  have := (k.getD (i / 2) 0).toNat_lt
  split <;> omega
/-- Keys whose nibbles are one are one. -/
theorem nib_ext {a b : List UInt8} (ha : a.length = 32) (hb : b.length = 32) (h : ∀ i, i < 64 → nibF a i = nibF b i) : a = b := by
  refine List.ext_getElem (by omega) fun j h1 h2 => ?_
  have e0 := h (2 * j) (by omega)
  have e1 := h (2 * j + 1) (by omega)
  unfold nibF at e0 e1
  rw [if_pos (by omega), if_pos (by omega), show 2 * j / 2 = j by omega] at e0
  rw [if_neg (by omega), if_neg (by omega), show (2 * j + 1) / 2 = j by omega] at e1
  simp only [List.getD, List.getElem?_eq_getElem h1, List.getElem?_eq_getElem h2, Option.getD_some] at e0 e1
  have : a[j].toNat = b[j].toNat := by omega
  exact UInt8.toNat_inj.1 this

abbrev It := List UInt8 × List UInt8

/-- Do all keys of items have the nibble of the first one at a place? -/
def agreeF (l : List It) (t : Nat) : Bool := l.all fun x => nibF x.1 t == nibF (l.headD ([], [])).1 t
/-- Up to which place all keys have the same nibbles, n places at most. -/
def sharedN (l : List It) : Nat → Nat → Nat
  | 0, t => t
  | n + 1, t => if agreeF l t then sharedN l n (t + 1) else t
def sharedF (l : List It) (t : Nat) : Nat := sharedN l (64 - t) t
theorem sharedN_ge (l : List It) (n t : Nat) : t ≤ sharedN l n t := by
  induction n generalizing t with
  | zero => exact Nat.le_refl _
  | succ n ih =>
    unfold sharedN
    split
    · exact Nat.le_trans (Nat.le_succ t) (ih (t + 1))
    · exact Nat.le_refl _
theorem sharedN_le (l : List It) (n t : Nat) : sharedN l n t ≤ t + n := by
  induction n generalizing t with
  | zero => exact Nat.le_refl _
  | succ n ih =>
    unfold sharedN
    split
    · have := ih (t + 1); omega
    · omega
theorem sharedN_in (l : List It) (n t i : Nat) (h1 : t ≤ i) (h2 : i < sharedN l n t) : agreeF l i = true := by
  induction n generalizing t with
  | zero => unfold sharedN at h2; omega
  | succ n ih =>
    unfold sharedN at h2
    split at h2
    · rename_i ha
      by_cases e : i = t
      · rw [e]; exact ha
      · exact ih (t + 1) (by omega) h2
    · omega
theorem sharedN_end (l : List It) (n t : Nat) (h : sharedN l n t < t + n) : agreeF l (sharedN l n t) = false := by
  induction n generalizing t with
  | zero => unfold sharedN at h; omega
  | succ n ih =>
    unfold sharedN at h ⊢
    split at h
    · rename_i ha
      rw [if_pos ha]
      exact ih (t + 1) (by omega)
    · rename_i ha
      rw [if_neg ha]
      simpa using ha
theorem sharedF_ge (l : List It) (t : Nat) : t ≤ sharedF l t := sharedN_ge l _ t
theorem sharedF_le (l : List It) {t : Nat} (h : t ≤ 64) : sharedF l t ≤ 64 := by
  have := sharedN_le l (64 - t) t
  unfold sharedF; omega
theorem sharedF_in {l : List It} {t i : Nat} (h1 : t ≤ i) (h2 : i < sharedF l t) : agreeF l i = true := sharedN_in l _ t i h1 h2
theorem sharedF_end {l : List It} {t : Nat} (h : sharedF l t < 64) : agreeF l (sharedF l t) = false := by
  by_cases ht : t ≤ 64
  · exact sharedN_end l (64 - t) t (by unfold sharedF at h; omega)
  · have := sharedF_ge l t; omega
/-- The place is told by what it is. -/
theorem sharedF_is {l : List It} {t e : Nat} (h1 : t ≤ e) (he : e ≤ 64) (hin : ∀ i, t ≤ i → i < e → agreeF l i = true) (hend : e < 64 → agreeF l e = false) : sharedF l t = e := by
  by_cases hlt : sharedF l t < e
  · have h := sharedF_end (l := l) (t := t) (by omega)
    rw [hin _ (sharedF_ge l t) hlt] at h
    cases h
  · by_cases hgt : e < sharedF l t
    · have h := sharedF_in h1 hgt
      rw [hend (by have := sharedF_le l (t := t) (by omega); omega)] at h
      cases h
    · omega
theorem agreeF_iff {l : List It} {t : Nat} : agreeF l t = true ↔ ∀ x ∈ l, ∀ y ∈ l, nibF x.1 t = nibF y.1 t := by
  unfold agreeF
  cases l with
  | nil => simp
  | cons z l =>
    simp only [List.headD_cons, List.all_eq_true, beq_iff_eq]
    constructor
    · intro h x hx y hy; rw [h x hx, h y hy]
    · intro h x hx; exact h x hx z List.mem_cons_self
/-- Of keys with the same nibbles ahead the place doesn't hang on where one begins. -/
theorem sharedF_from {l : List It} {t u : Nat} (hu : t ≤ u) (hu2 : u ≤ 64) (h : ∀ i, t ≤ i → i < u → agreeF l i = true) : sharedF l t = sharedF l u := by
  refine sharedF_is (Nat.le_trans hu (sharedF_ge l u)) (sharedF_le l hu2) (fun i h1 h2 => ?_) (fun he => sharedF_end he)
  by_cases hi : i < u
  · exact h i h1 hi
  · exact sharedF_in (by omega) h2

/-- The items with a nibble at a place. -/
def subF (l : List It) (t n : Nat) : List It := l.filter fun x => nibF x.1 t == n
theorem mem_subF {l : List It} {t n : Nat} {x : It} : x ∈ subF l t n ↔ x ∈ l ∧ nibF x.1 t = n := by simp [subF]
/-- Nibbles from one place to another one. -/
def restF (k : List UInt8) (t u : Nat) : List UInt8 := (List.range (u - t)).map fun i => (nibF k (t + i)).toUInt8
theorem restF_length (k : List UInt8) (t u : Nat) : (restF k t u).length = u - t := by simp [restF]
theorem restF_snoc (k : List UInt8) {t u : Nat} (h : t ≤ u) : restF k t (u + 1) = restF k t u ++ [(nibF k u).toUInt8] := by
  unfold restF
  rw [show u + 1 - t = (u - t) + 1 by omega, List.range_succ, List.map_append]
  simp [show t + (u - t) = u by omega]
theorem restF_congr {a b : List UInt8} {t u : Nat} (h : ∀ i, t ≤ i → i < u → nibF a i = nibF b i) : restF a t u = restF b t u := by
  unfold restF
  refine List.map_congr_left fun i hi => ?_
  have := List.mem_range.1 hi
  rw [h (t + i) (by omega) (by omega)]
/-- Bytes, and how many there are. -/
def bytB (b : List UInt8) : List UInt8 := Lib.uvarint b.length ++ b
/-- The bits of the nibbles that come next, and the digests, of the first n. -/
def maskF (l : List It) (t : Nat) : Nat → Nat
  | 0 => 0
  | n + 1 => maskF l t n + if subF l t n = [] then 0 else 2 ^ n
/-- A node as bytes. -/
def nodeF : Nat → List It → Nat → List UInt8
  | 0, _, _ => []
  | f + 1, l, t =>
    match l with
    | [x] => [0] ++ bytB (restF x.1 t 64) ++ bytB x.2
    | l => [1] ++ bytB (restF (l.headD ([], [])).1 t (sharedF l t)) ++ Lib.uvarint (maskF l (sharedF l t) 16) ++
        (List.range 16).flatMap fun n => if subF l (sharedF l t) n = [] then [] else shaF (tagF 4 [nodeF f (subF l (sharedF l t) n) (sharedF l t + 1)])
/-- A node's digest. -/
def nodeD (l : List It) (t : Nat) : List UInt8 := shaF (tagF 4 [nodeF 65 l t])
def rootF (l : List It) : List UInt8 := if l = [] then shaF (tagF 5 []) else nodeD l 0

/-- Keys of 32 bytes, no two of them one. -/
structure Good (l : List It) : Prop where
  k32 : ∀ x ∈ l, x.1.length = 32
  uniq : l.Pairwise fun x y => x.1 ≠ y.1
theorem Good.part {l : List It} (h : Good l) (t n : Nat) : Good (subF l t n) := ⟨fun x hx => h.k32 x (mem_subF.1 hx).1, h.uniq.filter _⟩
/-- Two items part before the 64th place. -/
theorem Good.split {l : List It} (h : Good l) (h2 : 2 ≤ l.length) {t : Nat} (ht : t ≤ 64) (hp : ∀ i, i < t → agreeF l i = true) : sharedF l t < 64 := by
  rcases Nat.lt_or_ge (sharedF l t) 64 with h64 | h64
  · exact h64
  · exfalso
    match l, h2, h, hp, h64 with
    | x :: y :: r, _, h, hp, h64 =>
      have hge := sharedF_ge (x :: y :: r) t
      have hxy : x.1 ≠ y.1 := (List.pairwise_cons.1 h.uniq).1 y List.mem_cons_self
      refine hxy (nib_ext (h.k32 x List.mem_cons_self) (h.k32 y (by simp)) fun i hi => ?_)
      have ha : agreeF (x :: y :: r) i = true := by
        by_cases hit : i < t
        · exact hp i hit
        · exact sharedF_in (l := x :: y :: r) (t := t) (by omega) (by omega)
      exact agreeF_iff.1 ha x List.mem_cons_self y (by simp)

end Go.Proofs.Ytlailhjpfadpcaa

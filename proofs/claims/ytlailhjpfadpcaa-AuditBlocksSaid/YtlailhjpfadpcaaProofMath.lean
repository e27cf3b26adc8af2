/-
  What nodes show of a key under a root, as lists: a node's bytes taken apart, and the way. No program.
-/
import Derived.Test.YtlailhjpfadpcaaInCalls
import Derived.Test.YtlailhjpfadpcaaPackMath
import Derived.Test.YtlailhjpfadpcaaFrom
import Derived.Test.YtlailhjpfadpcaaDigF
import Derived.Test.YtlailhjpfadpcaaTrieMath
namespace Go.Proofs.Ytlailhjpfadpcaa
open Go.RowKit
set_option linter.unusedVariables false
set_option linter.unusedSimpArgs false

/-- What is left of an In, and whether it has gone wrong. -/
abbrev St := List UInt8 × Bool
def numS (most : Nat) (s : St) : Nat × St := ((numF most s.1).1, (numF most s.1).2.1, s.2 || (numF most s.1).2.2)
def bytS (most : Int) (s : St) : List UInt8 × St := ((bytesF most s.1).1, (bytesF most s.1).2.1, s.2 || (bytesF most s.1).2.2)
def cutS (s : St) : St := ((cutF 32 s.1).2.1, s.2 || (cutF 32 s.1).2.2)
def bitM (m n : Nat) : Bool := decide (m / 2 ^ n % 2 = 1)
def kidS (m : Nat) (s : St) : Nat → St
  | 0 => s
  | n + 1 => if bitM m n then cutS (kidS m s n) else kidS m s n
def kidD (m : Nat) (s : St) (n : Nat) : List UInt8 := digF (kidS m s n).1
def popM (m : Nat) : Nat → Nat
  | 0 => 0
  | n + 1 => popM m n + if bitM m n then 1 else 0
theorem kidD_length (m : Nat) (s : St) (n : Nat) : (kidD m s n).length = 32 := digF_length _
theorem popM_le (m n : Nat) : popM m n ≤ n := by
  induction n with
  | zero => exact Nat.le_refl _
  | succ n ih => unfold popM; split <;> omega

/-- What a node's bytes tell, where so many nibbles are left. -/
structure NdR where
  leaf : Bool
  told : List UInt8
  value : List UInt8
  mask : Nat
  st : St
  fin : St
def ndR (most : Nat) (top : Int) (b : List UInt8) : NdR :=
  if (numS 1 (b, false)).1 = 0 then
    ⟨true, (bytS most (numS 1 (b, false)).2).1, (bytS top (bytS most (numS 1 (b, false)).2).2).1, 0, (bytS top (bytS most (numS 1 (b, false)).2).2).2, (bytS top (bytS most (numS 1 (b, false)).2).2).2⟩
  else
    ⟨false, (bytS most (numS 1 (b, false)).2).1, [], (numS 65535 (bytS most (numS 1 (b, false)).2).2).1, (numS 65535 (bytS most (numS 1 (b, false)).2).2).2,
      kidS (numS 65535 (bytS most (numS 1 (b, false)).2).2).1 (numS 65535 (bytS most (numS 1 (b, false)).2).2).2 16⟩
def NdR.fits (d : NdR) (left : Nat) : Bool := if d.leaf then d.told.length == left else decide (d.told.length < left) && decide (1 < popM d.mask 16)
def nibsB (l : List UInt8) : Bool := l.all fun x => decide (x.toNat < 16)
def NdR.ok (d : NdR) (left : Nat) : Bool := d.fits left && nibsB d.told && (doneF d.fin.1 d.fin.2 == 0)

/-- What nodes show of what is left of a key: none: nothing at all; some none: it isn't there. -/
def chkF (root key : List UInt8) : List (List UInt8) → Nat → Option (Option (List UInt8))
  | [], t => if t = 0 ∧ root = shaF (tagF 5 []) then some none else none
  | b :: r, t =>
    let d := ndR (64 - t) 9223372036854775807 b
    if d.ok (64 - t) = false ∨ shaF (tagF 4 [b]) ≠ root then none
    else if d.told = restF key t (t + d.told.length) then
      if d.leaf then (if r = [] then some (some d.value) else none)
      else if bitM d.mask (nibF key (t + d.told.length)) then chkF (kidD d.mask d.st (nibF key (t + d.told.length))) key r (t + d.told.length + 1)
      else if r = [] then some none else none
    else if r = [] then some none else none

/-- Once it has gone wrong it stays so. -/
theorem cutS_bad {s : St} (h : s.2 = true) : (cutS s).2 = true := by simp [cutS, h]
theorem kidS_bad {m : Nat} {s : St} (h : s.2 = true) : ∀ n, (kidS m s n).2 = true
  | 0 => h
  | n + 1 => by
    unfold kidS
    split
    · exact cutS_bad (kidS_bad h n)
    · exact kidS_bad h n
theorem numS_bad {most : Nat} {s : St} (h : s.2 = true) : (numS most s).2.2 = true := by simp [numS, h]
theorem bytS_bad {most : Int} {s : St} (h : s.2 = true) : (bytS most s).2.2 = true := by simp [bytS, h]
theorem doneF_bad (l : List UInt8) : doneF l true = 3 := by simp [doneF]
theorem doneF_eq (l : List UInt8) (b : Bool) : (doneF l b == 0) = (!b && l.isEmpty) := by
  cases b
  · cases l <;> simp [doneF]
  · simp [doneF]
theorem ok_done {d : NdR} {left : Nat} (h : d.ok left = true) : d.fin.2 = false := by
  unfold NdR.ok at h
  rw [doneF_eq] at h
  simp at h
  exact h.2.1
theorem ndR_fin_bad {most : Nat} {top : Int} {b : List UInt8} (h : (bytS most (numS 1 (b, false)).2).2.2 = true) : (ndR most top b).fin.2 = true := by
  unfold ndR
  split
  · exact bytS_bad h
  · exact kidS_bad (numS_bad h) 16

/-- A number too great is as one that isn't there. -/
theorem numF_cases (most : Nat) (l : List UInt8) : numF most l = (0, [], true) ∨ (numF most l = ((lead l).1, l.drop (lead l).2, false) ∧ (lead l).1 ≤ most ∧ (lead l).2 ≠ 0) := by
  unfold numF
  split
  · exact .inl rfl
  · rename_i h
    exact .inr ⟨rfl, by omega, by omega⟩
theorem bytesF_top (l : List UInt8) (n : Nat) (h : l.length ≤ n) (hn : n ≤ 9223372036854775807) : bytesF 9223372036854775807 l = bytesF n l := by
  unfold bytesF
  rw [if_neg (by omega), if_neg (by omega)]
  rw [show (9223372036854775807 : Int).toNat = 9223372036854775807 from rfl, Int.toNat_natCast]
  by_cases hg : (lead l).2 = 0
  · have e : ∀ m, numF m l = (0, [], true) := fun m => by unfold numF; rw [if_pos (.inl hg)]
    rw [e, e]
  · by_cases h1 : (lead l).1 ≤ n
    · have e : ∀ m, n ≤ m → numF m l = ((lead l).1, l.drop (lead l).2, false) := fun m hm => by unfold numF; rw [if_neg (by omega)]
      rw [e _ hn, e _ (Nat.le_refl _)]
    · have e2 : numF n l = (0, [], true) := by unfold numF; rw [if_pos (.inr (by omega))]
      rw [e2]
      by_cases h2 : (lead l).1 ≤ 9223372036854775807
      · have e1 : numF 9223372036854775807 l = ((lead l).1, l.drop (lead l).2, false) := by unfold numF; rw [if_neg (by omega)]
        rw [e1]
        have hc : cutF (lead l).1 (l.drop (lead l).2) = ([], [], true) := by unfold cutF; rw [if_pos (by rw [List.length_drop]; omega)]
        rw [hc]
        rfl
      · have e1 : numF 9223372036854775807 l = (0, [], true) := by unfold numF; rw [if_pos (.inr (by omega))]
        rw [e1]
theorem bytesF_rest (m : Int) (l : List UInt8) : (bytesF m l).2.1.length ≤ l.length := by
  unfold bytesF
  split
  · simp
  · have h1 := numF_rest m.toNat l
    unfold cutF
    split
    · simp
    · simp only [List.length_drop]; omega

theorem bytS_top (s : St) (n : Nat) (h : s.1.length ≤ n) (hn : n ≤ 9223372036854775807) : bytS 9223372036854775807 s = bytS n s := by
  unfold bytS
  rw [bytesF_top s.1 n h hn]

/-- Bytes of which there are few enough are one under both bounds; else it goes wrong, or there are too many. -/
theorem bytS_left (s : St) (left : Nat) (hl : left ≤ 64) :
    bytS left s = bytS 64 s ∨ ((bytS left s).2.2 = true ∧ ((bytS 64 s).2.2 = true ∨ left < (bytS 64 s).1.length)) := by
  unfold bytS bytesF
  rw [if_neg (by omega), if_neg (by omega), Int.toNat_natCast, show (64 : Int).toNat = 64 from rfl]
  rcases numF_cases left s.1 with h | ⟨h, h1, h2⟩
  · rcases numF_cases 64 s.1 with k | ⟨k, k1, k2⟩
    · left; rw [h, k]
    · right
      rw [h, k]
      refine ⟨by simp, ?_⟩
      have hgt : left < (lead s.1).1 := by
        by_cases e : left < (lead s.1).1
        · exact e
        · exfalso
          have : numF left s.1 = ((lead s.1).1, s.1.drop (lead s.1).2, false) := by unfold numF; rw [if_neg (by omega)]
          rw [this] at h
          exact absurd (congrArg (fun x => x.2.2) h) (by simp)
      unfold cutF
      split
      · left; simp
      · rename_i hc
        right
        simp only at hc
        simp only [List.length_take]
        omega
  · left
    have : numF 64 s.1 = ((lead s.1).1, s.1.drop (lead s.1).2, false) := by unfold numF; rw [if_neg (by omega)]
    rw [h, this]

/-- The document's bounds tell the same nodes. -/
theorem ndR_both (b : List UInt8) (left : Nat) (hl : left ≤ 64) (hb : b.length ≤ 9223372036854775807) :
    (ndR left 9223372036854775807 b).ok left = (ndR 64 b.length b).ok left ∧ ((ndR 64 b.length b).ok left = true → ndR left 9223372036854775807 b = ndR 64 b.length b) := by
  have htop : ∀ m : Nat, bytS 9223372036854775807 (bytS m (numS 1 (b, false)).2).2 = bytS b.length (bytS m (numS 1 (b, false)).2).2 := by
    intro m
    have h1 : (numS 1 (b, false)).2.1.length ≤ b.length := numF_rest 1 b
    have h2 : (bytS m (numS 1 (b, false)).2).2.1.length ≤ b.length := Nat.le_trans (bytesF_rest _ _) h1
    exact bytS_top _ b.length h2 hb
  have hE : ∀ m : Nat, ndR m 9223372036854775807 b = ndR m b.length b := by
    intro m
    unfold ndR
    rw [htop]
  rw [hE]
  rcases bytS_left (numS 1 (b, false)).2 left hl with h | ⟨h1, h2⟩
  · have e : ndR left b.length b = ndR 64 b.length b := by
      unfold ndR
      rw [h]
      rfl
    rw [e]
    exact ⟨rfl, fun _ => rfl⟩
  · have b1 : (ndR left b.length b).ok left = false := by
      cases hk : (ndR left b.length b).ok left
      · rfl
      · have := ok_done hk
        rw [ndR_fin_bad h1] at this
        cases this
    have b2 : (ndR 64 b.length b).ok left = false := by
      cases hk : (ndR 64 b.length b).ok left
      · rfl
      · exfalso
        rcases h2 with h2 | h2
        · have := ok_done hk
          rw [ndR_fin_bad h2] at this
          cases this
        · have ht : (ndR 64 b.length b).told = (bytS 64 (numS 1 (b, false)).2).1 := by unfold ndR; split <;> rfl
          unfold NdR.ok NdR.fits at hk
          rw [ht] at hk
          simp only [Bool.and_eq_true] at hk
          have hf := hk.1.1
          split at hf
          · rw [beq_iff_eq] at hf; omega
          · simp only [Bool.and_eq_true, decide_eq_true_eq] at hf; omega
    rw [b1, b2]
    exact ⟨rfl, fun h => by cases h⟩

end Go.Proofs.Ytlailhjpfadpcaa

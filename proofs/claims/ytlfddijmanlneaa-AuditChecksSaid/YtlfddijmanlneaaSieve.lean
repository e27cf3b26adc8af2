/-
  The closure that tells the primes.
-/
import Derived.Test.YtlfddijmanlneaaRows
import Derived.Test.YtlfddijmanlneaaArr
import Derived.WalkLawsBesides
namespace Go.Proofs.Ytlfddijmanlneaa
open Go.RowKit
set_option linter.unusedVariables false

/-- The multiples from m on, by steps of p, are struck. -/
def strikeF : Nat → Nat → Nat → List Bool → List Bool
  | 0, _, _, S => S
  | f + 1, m, p, S => if m ≤ 311 then strikeF f (m + p) p (S.set m true) else S

theorem strikeF_done {f m p : Nat} {S : List Bool} (h : 311 < m) : strikeF f m p S = S := by
  cases f with
  | zero => rfl
  | succ f => unfold strikeF; rw [if_neg (by omega)]

theorem strikeF_step {f m p : Nat} {S : List Bool} (h : m ≤ 311) (hf : 0 < f) : strikeF f m p S = strikeF (f - 1) (m + p) p (S.set m true) := by
  obtain ⟨f, rfl⟩ : ∃ k, f = k + 1 := ⟨f - 1, by omega⟩
  rw [strikeF, if_pos h]; rfl

theorem strikeF_length (f m p : Nat) (S : List Bool) : (strikeF f m p S).length = S.length := by
  induction f generalizing m S with
  | zero => rfl
  | succ f ih => unfold strikeF; split; rw [ih]; simp; rfl

def NextPost (a g n' : Nat) (S' : List Bool) (w : World) (e : Ending) (w' : World) : Prop :=
  e = .returned (.int .i64 (n' : Nat)) ∧ Arr w' a 3 [.int .i64 (n' : Nat)] ∧ Arr w' g 130 (boolCells S') ∧ Only (fun k => k = a ∨ k = g) w w' ∧ w'.heap.size = w.heap.size

set_option maxHeartbeats 4000000 in
set_option maxRecDepth 100000 in
theorem next_any (a g n n' : Nat) (S : List Bool) (w : World) (hag : a ≠ g) (hA : Arr w a 3 [.int .i64 (n : Nat)]) (hG : Arr w g 130 (boolCells S)) (hl : S.length = 312) (h1 : n < n') (h2 : n' ≤ 311) (h3 : S.getD n' false = false) (h4 : ∀ j, n < j → j < n' → S.getD j false = true) :
    Calls Try.prog 90 #[.pointer (some ⟨a, 0, none⟩), .pointer (some ⟨g, 0, none⟩)] w (NextPost a g n' (strikeF 312 (n' * n') n' S) w) := by
  have HS := Lib.hid h4
  have H3 := Lib.hid h3
  clear h3 h4
  have hc0 : w.cell? ⟨a, 0, none⟩ = some (.int .i64 (n : Nat)) := by rw [hA.cell]; rfl
  have hf0 := hA.frozen 0
  have hn1 : (n : Int) + 1 ≤ 311 := by omega
  go_enter Try.func90, Try.ntmps90
  go_wp2
  go_loopw [8] (fun _ wr => ∃ k : Nat, n < k ∧ k ≤ n' ∧ Arr wr a 3 [.int .i64 (k : Nat)] ∧ Arr wr g 130 (boolCells S) ∧ Only (fun k => k = a ∨ k = g) w wr ∧ wr.heap.size = w.heap.size)
    (fun _ wr => match wr.cell? ⟨a, 0, none⟩ with | some v => n' - (intOf v).toNat | none => 0)
  case atStart =>
    refine ⟨n + 1, by omega, by omega, ?_, hG.setOther (fun e => hag e.symm) _, (Only.refl _ w).setCell (.inl (.inl rfl)) _, by simp [World.setCell]⟩
    have := hA.set 0 (.int .i64 ((n : Int) + 1))
    simpa using this
  case round =>
    obtain ⟨k, hk1, hk2, hAk, hGk, hok, hsz⟩ := hrel
    have hck : wr.cell? ⟨a, 0, none⟩ = some (.int .i64 (k : Nat)) := by rw [hAk.cell]; rfl
    have hfk := hAk.frozen 0
    have hcg : wr.cell? ⟨g, k, none⟩ = some (.bool (S.getD k false)) := by rw [hGk.cell]; exact boolCells_get (by omega)
    have hki : (k : Int) < 312 := by omega
    by_cases hlt : k < n'
    · rw [HS.out k (by omega) hlt] at hcg
      have hk1' : (k : Int) + 1 ≤ 312 := by omega
      have hA1 := hAk.set 0 (.int .i64 ((k + 1 : Nat) : Int))
      have hG1 := hGk.setOther (p := ⟨a, 0, none⟩) (fun e => hag e.symm) (.int .i64 ((k + 1 : Nat) : Int))
      have ho1 := hok.setCell (p := ⟨a, 0, none⟩) (.inl (.inl rfl)) (.int .i64 ((k + 1 : Nat) : Int))
      have HA1 := Lib.hid hA1
      have HG1 := Lib.hid hG1
      have HO1 := Lib.hid ho1
      have Hsz := Lib.hid hsz
      have HC := Lib.hid hc0
      clear hA1 hG1 ho1 hsz hc0 hf0
      go_wp2
      go_roundw
      case rel => exact ⟨k + 1, by omega, by omega, by simpa using HA1.out, by simpa using HG1.out, by simpa using HO1.out, by simpa [World.setCell] using Hsz.out⟩
      case measure =>
        have hnew := (hAk.set 0 (.int .i64 ((k : Int) + 1))).cell 0
        simp at hnew
        simp [hck, hnew, intOf]
        omega
    · obtain rfl : k = n' := by omega
      rw [H3.out] at hcg
      have Hsz := Lib.hid hsz
      have HC := Lib.hid hc0
      clear hsz hc0 hf0
      have hkk : (k : Int) * k ≤ 96721 := by
        have : (k : Int) * k ≤ 311 * 311 := Int.mul_le_mul (by omega) (by omega) (by omega) (by omega)
        omega
      have hkk0 : 0 ≤ (k : Int) * k := Int.mul_nonneg (by omega) (by omega)
      go_wp2
      obtain ⟨wo, rfl⟩ : ∃ wo : World, wo = wr := ⟨_, rfl⟩
      clear hcg hck hfk hkk hkk0
      go_loopw [3] (fun v wr => ∃ (m f : Nat) (Sc : List Bool), v = .int .i64 (m : Nat) ∧ k ≤ m ∧ 312 ≤ m + f ∧ Sc.length = 312 ∧ strikeF f m k Sc = strikeF 312 (k * k) k S ∧ Arr wr a 3 [.int .i64 (k : Nat)] ∧ Arr wr g 130 (boolCells Sc) ∧ Only (fun k => k = a ∨ k = g) w wr ∧ wr.heap.size = w.heap.size)
        (fun v _ => 312 - (intOf v).toNat)
      case atStart => exact ⟨k * k, 312, S, by simp, Nat.le_mul_self k, by omega, hl, rfl, hAk, hGk, hok, Hsz.out⟩
      case round =>
        obtain ⟨m, f, Sc, rfl, hkm, hmf, hScl, heq, hAr, hGr, hor, hszr⟩ := hrel
        have hcr : wr.cell? ⟨a, 0, none⟩ = some (.int .i64 (k : Nat)) := by rw [hAr.cell]; rfl
        have Heq := Lib.hid heq
        have Hszr := Lib.hid hszr
        have HScl := Lib.hid hScl
        clear heq hszr hScl
        by_cases hm : m ≤ 311
        · have hcm : wr.cell? ⟨g, m, none⟩ = some (.bool (Sc.getD m false)) := by rw [hGr.cell]; exact boolCells_get (by rw [HScl.out]; omega)
          have hfm := hGr.frozen m
          have hcr2 : (wr.setCell ⟨g, m, none⟩ (.bool true)).cell? ⟨a, 0, none⟩ = some (.int .i64 (k : Nat)) := by
            rw [(hAr.setOther (p := ⟨g, m, none⟩) hag _).cell]; rfl
          have hm2 : (m : Int) + k ≤ 622 := by omega
          go_wp2
          go_roundw
          case rel =>
            refine ⟨m + k, f - 1, Sc.set m true, by go_num, by omega, by omega, by rw [List.length_set]; exact HScl.out, ?_, hAr.setOther (p := ⟨g, m, none⟩) hag _, ?_, hor.setCell (.inl (.inr rfl)) _, by simpa [World.setCell] using Hszr.out⟩
            · rw [← Heq.out]; exact (strikeF_step hm (by omega)).symm
            · rw [← boolCells_set]; exact hGr.set m _
          case measure => simp [intOf]; omega
        · go_wp2
          go_ret
          refine ⟨rfl, hAr, ?_, hor, Hszr.out⟩
          rw [← Heq.out, strikeF_done (by omega)]
          exact hGr

/-- The primes are met one behind the other. -/
def sieveB : List Nat → Nat → List Bool → Bool
  | [], _, _ => true
  | p :: ps, a, S => decide (a < p) && decide (p ≤ 311) && !(S.getD p false) && ((List.range (p - a - 1)).all fun j => S.getD (a + 1 + j) false) && sieveB ps p (strikeF 312 (p * p) p S)

/-- What is struck behind some calls. -/
def struckF : List Nat → List Bool → List Bool
  | [], S => S
  | p :: ps, S => struckF ps (strikeF 312 (p * p) p S)

/-- The number reached behind some calls. -/
def atF : List Nat → Nat → Nat
  | [], a => a
  | p :: ps, _ => atF ps p

theorem struckF_length (l : List Nat) (S : List Bool) : (struckF l S).length = S.length := by
  induction l generalizing S with
  | nil => rfl
  | cons p l ih => unfold struckF; rw [ih, strikeF_length]

theorem struckF_snoc (l : List Nat) (p : Nat) (S : List Bool) : struckF (l ++ [p]) S = strikeF 312 (p * p) p (struckF l S) := by
  induction l generalizing S with
  | nil => rfl
  | cons q l ih => simp only [List.cons_append, struckF]; rw [ih]

theorem atF_snoc (l : List Nat) (p a : Nat) : atF (l ++ [p]) a = p := by
  induction l generalizing a with
  | nil => rfl
  | cons q l ih => simp only [List.cons_append, atF]; rw [ih]

theorem sieveB_at {l : List Nat} {a : Nat} {S : List Bool} (h : sieveB l a S = true) {k : Nat} (hk : k < l.length) :
    atF (l.take k) a < l.getD k 0 ∧ l.getD k 0 ≤ 311 ∧ (struckF (l.take k) S).getD (l.getD k 0) false = false ∧ ∀ j, atF (l.take k) a < j → j < l.getD k 0 → (struckF (l.take k) S).getD j false = true := by
  induction l generalizing a S k with
  | nil => simp at hk
  | cons p l ih =>
    unfold sieveB at h
    simp only [Bool.and_eq_true, decide_eq_true_eq, Bool.not_eq_true', List.all_eq_true, List.mem_range] at h
    obtain ⟨⟨⟨⟨h1, h2⟩, h3⟩, h4⟩, h5⟩ := h
    cases k with
    | zero =>
      refine ⟨h1, h2, h3, fun j hj1 hj2 => ?_⟩
      have hj1' : a < j := hj1
      have hj2' : j < p := hj2
      have := h4 (j - a - 1) (by omega)
      rw [show a + 1 + (j - a - 1) = j from by omega] at this
      exact this
    | succ k => exact ih h5 (by simpa using hk)

def freshL : List Bool := List.replicate 312 false
def primesL : List Nat := [2, 3, 5, 7, 11, 13, 17, 19, 23, 29, 31, 37, 41, 43, 47, 53, 59, 61, 67, 71, 73, 79, 83, 89, 97, 101, 103, 107, 109, 113, 127, 131, 137, 139, 149, 151, 157, 163, 167, 173, 179, 181, 191, 193, 197, 199, 211, 223, 227, 229, 233, 239, 241, 251, 257, 263, 269, 271, 277, 281, 283, 293, 307, 311]
theorem fresh_len (l : List Nat) : (struckF l freshL).length = 312 := (struckF_length l freshL).trans List.length_replicate
theorem sieve_all : sieveB primesL 1 freshL = true := by kernel_rfl

/-- The closure's memory behind k calls. -/
def Primed (w : World) (a g k : Nat) : Prop := a ≠ g ∧ Arr w a 3 [.int .i64 ((atF (primesL.take k) 1 : Nat) : Int)] ∧ Arr w g 130 (boolCells (struckF (primesL.take k) freshL))

def PrimePost (a g k : Nat) (w : World) (e : Ending) (w' : World) : Prop :=
  e = .returned (.int .i64 ((primesL.getD k 0 : Nat) : Int)) ∧ Primed w' a g (k + 1) ∧ Only (fun k => k = a ∨ k = g) w w' ∧ w'.heap.size = w.heap.size

theorem prime_any (a g k : Nat) (hk : k < 64) (w : World) (h : Primed w a g k) :
    Calls Try.prog 90 #[.pointer (some ⟨a, 0, none⟩), .pointer (some ⟨g, 0, none⟩)] w (PrimePost a g k w) := by
  have hk' : k < primesL.length := hk
  obtain ⟨h1, h2, h3, h4⟩ := sieveB_at sieve_all hk'
  refine (next_any a g _ (primesL.getD k 0) _ w h.1 h.2.1 h.2.2 (fresh_len _) h1 h2 h3 h4).mono ?_
  rintro e w' ⟨rfl, hA, hG, ho, hs⟩
  refine ⟨rfl, ⟨h.1, ?_, ?_⟩, ho, hs⟩
  · have : primesL.take (k + 1) = primesL.take k ++ [primesL.getD k 0] := by rw [List.take_succ_eq_append_getElem hk']; simp [List.getD, hk']
    rw [this, atF_snoc]
    exact hA
  · have : primesL.take (k + 1) = primesL.take k ++ [primesL.getD k 0] := by rw [List.take_succ_eq_append_getElem hk']; simp [List.getD, hk']
    rw [this, struckF_snoc]
    exact hG

end Go.Proofs.Ytlfddijmanlneaa

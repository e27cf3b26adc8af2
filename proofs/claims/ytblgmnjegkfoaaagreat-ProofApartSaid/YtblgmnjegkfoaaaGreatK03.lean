/-
  Sieve Flt Numbers Cut Num Fill Dig0: texts on the way to the laws, as one.
-/
import Derived.Test.YtblgmnjegkfoaaaGreatRows
import Derived.Test.YtblgmnjegkfoaaaGreatK01
import Derived.WalkLawsBesides
import Derived.Laws.FloatArith
import Derived.KernelRfl
import Derived.RegionTactic
import Derived.Deep.QuietTactic
import Derived.BigQuiet
import Derived.Laws.Slices
import Derived.IntWalk
set_option maxRecDepth 100000
namespace Go.Proofs.YtblgmnjegkfoaaaGreat
open Go.RowKit
set_option linter.unusedVariables false

/-- The multiples from m on, by steps of p, are struck. -/
def strikeF : Nat → Nat → Nat → List Bool → List Bool
  | 0, _, _, S => S
  | f + 1, m, p, S => if m ≤ 311 then strikeF f (m + p) p (S.set m true) else S

theorem strikeF_done {f m p : Nat} {S : List Bool} (h : 311 < m) : strikeF f m p S = S := by
  cases f with
  | zero => rfl
  | succ f => unfold strikeF; rw [if_neg (by omega)]

theorem strikeF_step {f m p : Nat} {S : List Bool} (h : m ≤ 311) (hf : 0 < f) : strikeF f m p S = strikeF (f - 1) (m + p) p (S.set m true) := by
  obtain ⟨f, rfl⟩ : ∃ k, f = k + 1 := ⟨f - 1, by omega⟩
  rw [strikeF, if_pos h]; rfl

theorem strikeF_length (f m p : Nat) (S : List Bool) : (strikeF f m p S).length = S.length := by
  induction f generalizing m S with
  | zero => rfl
  | succ f ih => unfold strikeF; split; rw [ih]; simp; rfl

def NextPost (a g n' : Nat) (S' : List Bool) (w : World) (e : Ending) (w' : World) : Prop :=
  e = .returned (.int .i64 (n' : Nat)) ∧ Arr w' a 3 [.int .i64 (n' : Nat)] ∧ Arr w' g 158 (boolCells S') ∧ Only (fun k => k = a ∨ k = g) w w' ∧ w'.heap.size = w.heap.size

set_option maxHeartbeats 4000000 in
set_option maxRecDepth 100000 in
theorem next_any (a g n n' : Nat) (S : List Bool) (w : World) (hag : a ≠ g) (hA : Arr w a 3 [.int .i64 (n : Nat)]) (hG : Arr w g 158 (boolCells S)) (hl : S.length = 312) (h1 : n < n') (h2 : n' ≤ 311) (h3 : S.getD n' false = false) (h4 : ∀ j, n < j → j < n' → S.getD j false = true) :
    Calls Tryz.prog 104 #[.pointer (some ⟨a, 0, none⟩), .pointer (some ⟨g, 0, none⟩)] w (NextPost a g n' (strikeF 312 (n' * n') n' S) w) := by
  have HS := Lib.hid h4
  have H3 := Lib.hid h3
  clear h3 h4
  have hc0 : w.cell? ⟨a, 0, none⟩ = some (.int .i64 (n : Nat)) := by rw [hA.cell]; rfl
  have hf0 := hA.frozen 0
  have hn1 : (n : Int) + 1 ≤ 311 := by omega
  go_enter Tryz.func104, Tryz.ntmps104
  go_wp2
  go_loopw [8] (fun _ wr => ∃ k : Nat, n < k ∧ k ≤ n' ∧ Arr wr a 3 [.int .i64 (k : Nat)] ∧ Arr wr g 158 (boolCells S) ∧ Only (fun k => k = a ∨ k = g) w wr ∧ wr.heap.size = w.heap.size)
    (fun _ wr => match wr.cell? ⟨a, 0, none⟩ with | some v => n' - (intOf v).toNat | none => 0)
  case atStart =>
    refine ⟨n + 1, by omega, by omega, ?_, hG.setOther (fun e => hag e.symm) _, (Only.refl _ w).setCell (.inl (.inl rfl)) _, by simp [World.setCell]⟩
    have := hA.set 0 (.int .i64 ((n : Int) + 1))
    simpa using this
  case round =>
    obtain ⟨k, hk1, hk2, hAk, hGk, hok, hsz⟩ := hrel
    have hck : wr.cell? ⟨a, 0, none⟩ = some (.int .i64 (k : Nat)) := by rw [hAk.cell]; rfl
    have hfk := hAk.frozen 0
    have hcg : wr.cell? ⟨g, k, none⟩ = some (.bool (S.getD k false)) := by rw [hGk.cell]; exact boolCells_get (by omega)
    have hki : (k : Int) < 312 := by omega
    by_cases hlt : k < n'
    · rw [HS.out k (by omega) hlt] at hcg
      have hk1' : (k : Int) + 1 ≤ 312 := by omega
      have hA1 := hAk.set 0 (.int .i64 ((k + 1 : Nat) : Int))
      have hG1 := hGk.setOther (p := ⟨a, 0, none⟩) (fun e => hag e.symm) (.int .i64 ((k + 1 : Nat) : Int))
      have ho1 := hok.setCell (p := ⟨a, 0, none⟩) (.inl (.inl rfl)) (.int .i64 ((k + 1 : Nat) : Int))
      have HA1 := Lib.hid hA1
      have HG1 := Lib.hid hG1
      have HO1 := Lib.hid ho1
      have Hsz := Lib.hid hsz
      have HC := Lib.hid hc0
      clear hA1 hG1 ho1 hsz hc0 hf0
      go_wp2
      go_roundw
      case rel => exact ⟨k + 1, by omega, by omega, by simpa using HA1.out, by simpa using HG1.out, by simpa using HO1.out, by simpa [World.setCell] using Hsz.out⟩
      case measure =>
        have hnew := (hAk.set 0 (.int .i64 ((k : Int) + 1))).cell 0
        simp at hnew
        simp [hck, hnew, intOf]
        omega
    · obtain rfl : k = n' := by omega
      rw [H3.out] at hcg
      have Hsz := Lib.hid hsz
      have HC := Lib.hid hc0
      clear hsz hc0 hf0
      have hkk : (k : Int) * k ≤ 96721 := by
        have : (k : Int) * k ≤ 311 * 311 := Int.mul_le_mul (by omega) (by omega) (by omega) (by omega)
        omega
      have hkk0 : 0 ≤ (k : Int) * k := Int.mul_nonneg (by omega) (by omega)
      go_wp2
      obtain ⟨wo, rfl⟩ : ∃ wo : World, wo = wr := ⟨_, rfl⟩
      clear hcg hck hfk hkk hkk0
      go_loopw [3] (fun v wr => ∃ (m f : Nat) (Sc : List Bool), v = .int .i64 (m : Nat) ∧ k ≤ m ∧ 312 ≤ m + f ∧ Sc.length = 312 ∧ strikeF f m k Sc = strikeF 312 (k * k) k S ∧ Arr wr a 3 [.int .i64 (k : Nat)] ∧ Arr wr g 158 (boolCells Sc) ∧ Only (fun k => k = a ∨ k = g) w wr ∧ wr.heap.size = w.heap.size)
        (fun v _ => 312 - (intOf v).toNat)
      case atStart => exact ⟨k * k, 312, S, by simp, Nat.le_mul_self k, by omega, hl, rfl, hAk, hGk, hok, Hsz.out⟩
      case round =>
        obtain ⟨m, f, Sc, rfl, hkm, hmf, hScl, heq, hAr, hGr, hor, hszr⟩ := hrel
        have hcr : wr.cell? ⟨a, 0, none⟩ = some (.int .i64 (k : Nat)) := by rw [hAr.cell]; rfl
        have Heq := Lib.hid heq
        have Hszr := Lib.hid hszr
        have HScl := Lib.hid hScl
        clear heq hszr hScl
        by_cases hm : m ≤ 311
        · have hcm : wr.cell? ⟨g, m, none⟩ = some (.bool (Sc.getD m false)) := by rw [hGr.cell]; exact boolCells_get (by rw [HScl.out]; omega)
          have hfm := hGr.frozen m
          have hcr2 : (wr.setCell ⟨g, m, none⟩ (.bool true)).cell? ⟨a, 0, none⟩ = some (.int .i64 (k : Nat)) := by
            rw [(hAr.setOther (p := ⟨g, m, none⟩) hag _).cell]; rfl
          have hm2 : (m : Int) + k ≤ 622 := by omega
          go_wp2
          go_roundw
          case rel =>
            refine ⟨m + k, f - 1, Sc.set m true, by go_num, by omega, by omega, by rw [List.length_set]; exact HScl.out, ?_, hAr.setOther (p := ⟨g, m, none⟩) hag _, ?_, hor.setCell (.inl (.inr rfl)) _, by simpa [World.setCell] using Hszr.out⟩
            · rw [← Heq.out]; exact (strikeF_step hm (by omega)).symm
            · rw [← boolCells_set]; exact hGr.set m _
          case measure => simp [intOf]; omega
        · go_wp2
          go_ret
          refine ⟨rfl, hAr, ?_, hor, Hszr.out⟩
          rw [← Heq.out, strikeF_done (by omega)]
          exact hGr

/-- The primes are met one behind the other. -/
def sieveB : List Nat → Nat → List Bool → Bool
  | [], _, _ => true
  | p :: ps, a, S => decide (a < p) && decide (p ≤ 311) && !(S.getD p false) && ((List.range (p - a - 1)).all fun j => S.getD (a + 1 + j) false) && sieveB ps p (strikeF 312 (p * p) p S)

/-- What is struck behind some calls. -/
def struckF : List Nat → List Bool → List Bool
  | [], S => S
  | p :: ps, S => struckF ps (strikeF 312 (p * p) p S)

/-- The number reached behind some calls. -/
def atF : List Nat → Nat → Nat
  | [], a => a
  | p :: ps, _ => atF ps p

theorem struckF_length (l : List Nat) (S : List Bool) : (struckF l S).length = S.length := by
  induction l generalizing S with
  | nil => rfl
  | cons p l ih => unfold struckF; rw [ih, strikeF_length]

theorem struckF_snoc (l : List Nat) (p : Nat) (S : List Bool) : struckF (l ++ [p]) S = strikeF 312 (p * p) p (struckF l S) := by
  induction l generalizing S with
  | nil => rfl
  | cons q l ih => simp only [List.cons_append, struckF]; rw [ih]

theorem atF_snoc (l : List Nat) (p a : Nat) : atF (l ++ [p]) a = p := by
  induction l generalizing a with
  | nil => rfl
  | cons q l ih => simp only [List.cons_append, atF]; rw [ih]

theorem sieveB_at {l : List Nat} {a : Nat} {S : List Bool} (h : sieveB l a S = true) {k : Nat} (hk : k < l.length) :
    atF (l.take k) a < l.getD k 0 ∧ l.getD k 0 ≤ 311 ∧ (struckF (l.take k) S).getD (l.getD k 0) false = false ∧ ∀ j, atF (l.take k) a < j → j < l.getD k 0 → (struckF (l.take k) S).getD j false = true := by
  induction l generalizing a S k with
  | nil => simp at hk
  | cons p l ih =>
    unfold sieveB at h
    simp only [Bool.and_eq_true, decide_eq_true_eq, Bool.not_eq_true', List.all_eq_true, List.mem_range] at h
    obtain ⟨⟨⟨⟨h1, h2⟩, h3⟩, h4⟩, h5⟩ := h
    cases k with
    | zero =>
      refine ⟨h1, h2, h3, fun j hj1 hj2 => ?_⟩
      have hj1' : a < j := hj1
      have hj2' : j < p := hj2
      have := h4 (j - a - 1) (by omega)
      rw [show a + 1 + (j - a - 1) = j from by omega] at this
      exact this
    | succ k => exact ih h5 (by simpa using hk)

def freshL : List Bool := List.replicate 312 false
def primesL : List Nat := [2, 3, 5, 7, 11, 13, 17, 19, 23, 29, 31, 37, 41, 43, 47, 53, 59, 61, 67, 71, 73, 79, 83, 89, 97, 101, 103, 107, 109, 113, 127, 131, 137, 139, 149, 151, 157, 163, 167, 173, 179, 181, 191, 193, 197, 199, 211, 223, 227, 229, 233, 239, 241, 251, 257, 263, 269, 271, 277, 281, 283, 293, 307, 311]
theorem fresh_len (l : List Nat) : (struckF l freshL).length = 312 := (struckF_length l freshL).trans List.length_replicate
theorem sieve_all : sieveB primesL 1 freshL = true := by kernel_rfl

/-- The closure's memory behind k calls. -/
def Primed (w : World) (a g k : Nat) : Prop := a ≠ g ∧ Arr w a 3 [.int .i64 ((atF (primesL.take k) 1 : Nat) : Int)] ∧ Arr w g 158 (boolCells (struckF (primesL.take k) freshL))

def PrimePost (a g k : Nat) (w : World) (e : Ending) (w' : World) : Prop :=
  e = .returned (.int .i64 ((primesL.getD k 0 : Nat) : Int)) ∧ Primed w' a g (k + 1) ∧ Only (fun k => k = a ∨ k = g) w w' ∧ w'.heap.size = w.heap.size

theorem prime_any (a g k : Nat) (hk : k < 64) (w : World) (h : Primed w a g k) :
    Calls Tryz.prog 104 #[.pointer (some ⟨a, 0, none⟩), .pointer (some ⟨g, 0, none⟩)] w (PrimePost a g k w) := by
  have hk' : k < primesL.length := hk
  obtain ⟨h1, h2, h3, h4⟩ := sieveB_at sieve_all hk'
  refine (next_any a g _ (primesL.getD k 0) _ w h.1 h.2.1 h.2.2 (fresh_len _) h1 h2 h3 h4).mono ?_
  rintro e w' ⟨rfl, hA, hG, ho, hs⟩
  refine ⟨rfl, ⟨h.1, ?_, ?_⟩, ho, hs⟩
  · have : primesL.take (k + 1) = primesL.take k ++ [primesL.getD k 0] := by rw [List.take_succ_eq_append_getElem hk']; simp [List.getD, hk']
    rw [this, atF_snoc]
    exact hA
  · have : primesL.take (k + 1) = primesL.take k ++ [primesL.getD k 0] := by rw [List.take_succ_eq_append_getElem hk']; simp [List.getD, hk']
    rw [this, struckF_snoc]
    exact hG

end Go.Proofs.YtblgmnjegkfoaaaGreat

namespace Go.Proofs.YtblgmnjegkfoaaaGreat
open Go.RowKit
set_option linter.unusedVariables false
set_option maxRecDepth 100000

theorem bitsOf (w : World) (x : Nat) : (callFunc 119 #[.float .f64 x]).run Tryz.prog w = .ok (.value (.int .u64 x)) w := by kernel_rfl
theorem ofBits (w : World) (x : Nat) : (callFunc 118 #[.int .u64 x]).run Tryz.prog w = .ok (.value (.float .f64 (x : Int).toNat)) w := by kernel_rfl

def fO (op : BinOp) (x y : Nat) : Option Nat := floatBits op .f64 x y
theorem fO_run {op : BinOp} {x y r : Nat} (h : fO op x y = some r) (t : TypeId) (w : World) : (binOp op t (.float .f64 x) (.float .f64 y)).run Tryz.prog w = .ok (.float .f64 r) w := run_float_arith w op t .f64 x y r h

/-- What is asked of x: above the subnormal ones, and finite. -/
def okX (x : Nat) : Bool :=
  decide (x < 9223372036854775808) && (bits .andNot .u64 (x : Int) 9223372036854775808 == (x : Int)) && !(FloatKind.f64.format.order x 0 == some .eq) && !(FloatKind.f64.format.order x x != some .eq) && !(FloatKind.f64.format.order x 9218868437227405311 == some .gt) && !(FloatKind.f64.format.order x 0 == some .lt) && !(FloatKind.f64.format.order x 4503599627370496 == some .lt)

def maskO (t : Nat) : Option Nat := let a := (bits .and .u64 (t : Int) 18446744072635809792).toNat; if (bits .and .u64 (t : Int) 18446744072635809792 == (a : Int)) && decide (a < 9223372036854775808) then some a else none

def cbrtO (x : Nat) : Option Nat :=
  (fO .mul (x / 3 + 3071306043645493248) (x / 3 + 3071306043645493248)).bind fun q1 =>
  (fO .quo q1 x).bind fun r =>
  (fO .mul r (x / 3 + 3071306043645493248)).bind fun q2 =>
  (fO .add 4603064841997850097 q2).bind fun s =>
  (fO .add s 4609048195788499471).bind fun a =>
  (fO .quo 13827900089180538932 s).bind fun b =>
  (fO .add a b).bind fun c =>
  (fO .quo 4609916747145206638 c).bind fun d =>
  (fO .add 4600105333671292343 d).bind fun e =>
  (fO .mul (x / 3 + 3071306043645493248) e).bind fun t2 =>
  (maskO t2).bind fun m =>
  (fO .mul (m + 1073741824) (m + 1073741824)).bind fun s2 =>
  (fO .quo x s2).bind fun r2 =>
  (fO .add (m + 1073741824) (m + 1073741824)).bind fun w2 =>
  (fO .sub r2 (m + 1073741824)).bind fun n1 =>
  (fO .add w2 r2).bind fun n2 =>
  (fO .quo n1 n2).bind fun r3 =>
  (fO .mul (m + 1073741824) r3).bind fun z =>
  fO .add (m + 1073741824) z

theorem isNaN_any (x : Nat) (b : Bool) (hb : (FloatKind.f64.format.order x x != some .eq) = b) (w : World) : Calls Tryz.prog 116 #[.float .f64 x] w fun e w' => e = .returned (.bool b) ∧ w = w' := by
  subst hb
  go_enter Tryz.func116, Tryz.ntmps116
  go_wp2
  go_ret
  exact ⟨rfl, rfl⟩

set_option maxHeartbeats 4000000 in
set_option maxRecDepth 100000 in
theorem isInf_any (x : Nat) (hx : bits .andNot .u64 (x : Int) 9223372036854775808 = (x : Int)) (hb : (FloatKind.f64.format.order x 9218868437227405311 == some .gt) = false) (w : World) : Calls Tryz.prog 117 #[.float .f64 x, .int .i64 0] w fun e w' => e = .returned (.bool false) ∧ w = w' := by
  have hAbs : ∀ w, Calls Tryz.prog 129 #[.float .f64 x] w fun e w' => e = .returned (.float .f64 x) ∧ w = w' := by
    intro w
    have h1 := bitsOf
    have h2 := ofBits
    go_enter Tryz.func129, Tryz.ntmps129
    go_wp2
    go_ret
    exact ⟨rfl, rfl⟩
  have HA := Lib.hid hAbs
  clear hAbs
  go_enter Tryz.func117, Tryz.ntmps117
  go_wp2_with (go_at_call 129; refine (HA.out _).mono ?_; rintro e w' ⟨rfl, rfl⟩)
  go_ret
  exact ⟨rfl, rfl⟩

theorem maskO_some {t m : Nat} (h : maskO t = some m) : bits .and .u64 (t : Int) 18446744072635809792 = (m : Int) ∧ m < 9223372036854775808 := by
  unfold maskO at h
  simp only at h
  split at h
  · rename_i hc
    injection h with h
    rw [h] at hc
    simpa using hc
  · cases h

set_option maxHeartbeats 8000000 in
set_option maxRecDepth 100000 in
theorem cbrt_any (x y : Nat) (hok : okX x = true) (h : cbrtO x = some y) (w : World) : Calls Tryz.prog 90 #[.float .f64 x] w fun e w' => e = .returned (.float .f64 y) ∧ w = w' := by
  simp only [cbrtO, Option.bind_eq_some_iff] at h
  obtain ⟨q1, h1, r, h2, q2, h3, s, h4, a, h5, b, h6, c, h7, d, h8, e, h9, t2, h10, m, h11, s2, h12, r2, h13, w2, h14, n1, h15, n2, h16, r3, h17, z, h18, h19⟩ := h
  obtain ⟨hm, hm2⟩ := maskO_some h11
  unfold okX at hok
  simp only [Bool.and_eq_true, decide_eq_true_eq, Bool.not_eq_true', beq_iff_eq] at hok
  obtain ⟨⟨⟨⟨⟨⟨hx, ha⟩, hk1⟩, hk2⟩, hk3⟩, hk4⟩, hk5⟩ := hok
  obtain ⟨t, ht⟩ : ∃ t, x / 3 + 3071306043645493248 = t := ⟨_, rfl⟩
  rw [ht] at h1 h3 h10
  have htI : (x : Int) / 3 + 3071306043645493248 = (t : Int) := by omega
  obtain ⟨u, hu⟩ : ∃ u, m + 1073741824 = u := ⟨_, rfl⟩
  rw [hu] at h12 h14 h15 h18 h19
  have huI : (m : Int) + 1073741824 = (u : Int) := by omega
  have HNaN := Lib.hid (isNaN_any x false hk2)
  have HInf := Lib.hid (isInf_any x ha hk3)
  have g1 := fO_run h1 145
  have g2 := fO_run h2 145
  have g3 := fO_run h3 145
  have g4 := fO_run h4 145
  have g5 := fO_run h5 145
  have g6 := fO_run h6 145
  have g7 := fO_run h7 145
  have g8 := fO_run h8 145
  have g9 := fO_run h9 145
  have g10 := fO_run h10 145
  have g12 := fO_run h12 145
  have g13 := fO_run h13 145
  have g14 := fO_run h14 145
  have g15 := fO_run h15 145
  have g16 := fO_run h16 145
  have g17 := fO_run h17 145
  have g18 := fO_run h18 145
  have g19 := fO_run h19 145
  have h1' := bitsOf
  have h2' := ofBits
  clear h1 h2 h3 h4 h5 h6 h7 h8 h9 h10 h11 h12 h13 h14 h15 h16 h17 h18 h19 ht hu hk2 hk3 ha
  have hC : ∀ w, Calls Tryz.prog 107 #[.float .f64 x] w fun e w' => e = .returned (.float .f64 y) ∧ w = w' := by
    intro w
    go_enter Tryz.func107, Tryz.ntmps107
    go_wp2_with (first | (go_at_call 116; refine (HNaN.out _).mono ?_; rintro e w' ⟨rfl, rfl⟩) | (go_at_call 117; refine (HInf.out _).mono ?_; rintro e w' ⟨rfl, rfl⟩))
    go_ret
    exact ⟨rfl, rfl⟩
  have HC := Lib.hid hC
  clear hC g1 g2 g3 g4 g5 g6 g7 g8 g9 g10 g12 g13 g14 g15 g16 g17 g18 g19 htI huI hm
  go_enter Tryz.func90, Tryz.ntmps90
  go_wp2_with (go_at_call 107; refine (HC.out _).mono ?_; rintro e w' ⟨rfl, rfl⟩)
  go_ret
  exact ⟨rfl, rfl⟩


/-- The floor, where it isn't asked of a NaN. -/
def floorO (x : Nat) : Option Nat :=
  match FloatKind.f64.decode x with
  | .nan _ _ => none
  | d => some (FloatKind.f64.encode (d.integral .down))

theorem floor_ext (x y : Nat) (h : floorO x = some y) (w : World) : (callFunc 114 #[.float .f64 x]).run Tryz.prog w = .ok (.value (.float .f64 y)) w := by
  have e : (callFunc 114 #[.float .f64 x]).run Tryz.prog w = ((Extern.MathFloor.toIntegral "math.archFloor" .down #[.float .f64 x]) >>= fun v => pure (Next.value v)).run Tryz.prog w := by kernel_rfl
  rw [e]
  obtain ⟨N, hN⟩ : ∃ N : Bool → Nat → Sem Value, Extern.MathFloor.toIntegral "math.archFloor" .down #[.float .f64 x] = (match FloatKind.f64.decode x with | .nan s t => N s t | d => pure (.float .f64 (FloatKind.f64.encode (d.integral .down)))) := ⟨_, rfl⟩
  rw [hN]
  unfold floorO at h
  cases hd : FloatKind.f64.decode x with
  | nan s t => rw [hd] at h; cases h
  | infinity s => rw [hd] at h; injection h with h; subst h; simp
  | number s m e => rw [hd] at h; injection h with h; subst h; simp

def sqrtO (x : Nat) : Option Nat := FloatKind.f64.format.sqrt x

theorem sqrt_ext (x y : Nat) (h : sqrtO x = some y) (w : World) : (callFunc 108 #[.float .f64 x]).run Tryz.prog w = .ok (.value (.float .f64 y)) w := by
  have e : (callFunc 108 #[.float .f64 x]).run Tryz.prog w = ((Extern.MathSqrt.sqrt #[.float .f64 x]) >>= fun v => pure (Next.value v)).run Tryz.prog w := by kernel_rfl
  rw [e]
  obtain ⟨N, hN⟩ : ∃ N : Sem Value, Extern.MathSqrt.sqrt #[.float .f64 x] = (match FloatKind.f64.format.sqrt x with | some r => pure (.float .f64 r) | none => N) := ⟨_, rfl⟩
  rw [hN]
  unfold sqrtO at h
  rw [h]
  simp

theorem sqrt_any (x y : Nat) (h : sqrtO x = some y) (w : World) : Calls Tryz.prog 91 #[.float .f64 x] w fun e w' => e = .returned (.float .f64 y) ∧ w = w' := by
  have h1 := sqrt_ext x y h
  clear h
  go_enter Tryz.func91, Tryz.ntmps91
  go_wp2
  go_ret
  exact ⟨rfl, rfl⟩

theorem floor_any (x y : Nat) (h : floorO x = some y) (w : World) : Calls Tryz.prog 105 #[.float .f64 x] w fun e w' => e = .returned (.float .f64 y) ∧ w = w' := by
  have h1 := floor_ext x y h
  clear h
  go_enter Tryz.func105, Tryz.ntmps105
  go_wp2
  go_ret
  exact ⟨rfl, rfl⟩

/-- The first 32 bits behind the point. -/
def behindO (x : Nat) : Option Int :=
  (floorO x).bind fun f => (fO .sub x f).bind fun d => (fO .mul d 4751297606875873280).bind fun m => floatToIntVal .f64 m .u32

theorem behind_any (x : Nat) (r : Int) (h : behindO x = some r) (w : World) : Calls Tryz.prog 89 #[.float .f64 x] w fun e w' => e = .returned (.int .u32 r) ∧ w = w' := by
  simp only [behindO, Option.bind_eq_some_iff] at h
  obtain ⟨f, hf, d, hd, m, hm, hr⟩ := h
  have HF := Lib.hid (floor_any x f hf)
  have g1 := fO_run hd 145
  have g2 := fO_run hm 145
  have g3 : ∀ w, (convert 145 77 (.float .f64 m)).run Tryz.prog w = .ok (.int .u32 r) w := fun w => run_convert_float_int w 145 77 .f64 .u32 m r (by kernel_rfl) Tryz.underlying77 hr
  clear hf hd hm hr
  go_enter Tryz.func89, Tryz.ntmps89
  go_wp2_with (go_at_call 105; refine (HF.out _).mono ?_; rintro e w' ⟨rfl, rfl⟩)
  go_ret
  exact ⟨rfl, rfl⟩

/-- The primes, and the numbers as they are published. -/
abbrev primeL : List Nat := primesL
/-- What is worked out of one prime is what is published. -/
def cubeB (k : Nat) : Bool := okX (floatOfInt .f64 (primeL.getD k 0 : Nat)) && (cbrtO (floatOfInt .f64 (primeL.getD k 0 : Nat))).bind behindO == some ((roundL.getD k 0 : Nat) : Int)
def squareB (k : Nat) : Bool := (sqrtO (floatOfInt .f64 (primeL.getD k 0 : Nat))).bind behindO == some ((beginL.getD k 0 : Nat) : Int)

theorem cubes_all : (List.range 64).all cubeB = true := by kernel_rfl
theorem squares_all : (List.range 8).all squareB = true := by kernel_rfl

theorem cube_at {k : Nat} (hk : k < 64) : okX (floatOfInt .f64 (primeL.getD k 0 : Nat)) = true ∧ ∃ y, cbrtO (floatOfInt .f64 (primeL.getD k 0 : Nat)) = some y ∧ behindO y = some ((roundL.getD k 0 : Nat) : Int) := by
  have := List.all_eq_true.1 cubes_all k (List.mem_range.2 hk)
  unfold cubeB at this
  rw [Bool.and_eq_true, beq_iff_eq, Option.bind_eq_some_iff] at this
  exact this

theorem square_at {k : Nat} (hk : k < 8) : ∃ y, sqrtO (floatOfInt .f64 (primeL.getD k 0 : Nat)) = some y ∧ behindO y = some ((beginL.getD k 0 : Nat) : Int) := by
  have := List.all_eq_true.1 squares_all k (List.mem_range.2 hk)
  unfold squareB at this
  rw [beq_iff_eq, Option.bind_eq_some_iff] at this
  exact this

end Go.Proofs.YtblgmnjegkfoaaaGreat

namespace Go.Proofs.YtblgmnjegkfoaaaGreat
open Go.RowKit
set_option linter.unusedVariables false

/-- A list that is filled, one place behind the other. -/
def fillF (l : List Nat) (k : Nat) : List Nat := l.take k ++ List.replicate (l.length - k) 0
theorem fillF_length {l : List Nat} {k : Nat} (hk : k ≤ l.length) : (fillF l k).length = l.length := by
  unfold fillF; rw [List.length_append, List.length_take, List.length_replicate]; omega
theorem fillF_set {l : List Nat} {k : Nat} (hk : k < l.length) : (fillF l k).set k (l.getD k 0) = fillF l (k + 1) := by
  unfold fillF
  have hl : (l.take k).length = k := by rw [List.length_take]; omega
  rw [List.set_append_right _ _ (by omega), hl, Nat.sub_self, show l.length - k = (l.length - (k + 1)) + 1 from by omega, List.replicate_succ, List.set_cons_zero, List.take_succ_eq_append_getElem hk, List.append_assoc]
  simp [List.getD, hk]
theorem fillF_done {l : List Nat} {k : Nat} (hk : l.length ≤ k) : fillF l k = l := by
  unfold fillF
  rw [List.take_of_length_le hk, show l.length - k = 0 from by omega]
  simp
theorem fillF_get {l : List Nat} {k : Nat} (hk : k < l.length) : (wordCells (fillF l k))[k]? = some (.int .u32 0) := by
  rw [wordCells_get (by rw [fillF_length (by omega)]; exact hk)]
  unfold fillF
  have hl : (l.take k).length = k := by rw [List.length_take]; omega
  rw [List.getD_eq_getElem?_getD, List.getElem?_append_right (by omega), hl, Nat.sub_self, show l.length - k = (l.length - (k + 1)) + 1 from by omega, List.replicate_succ]
  rfl

def PrimesPost (w : World) (e : Ending) (w' : World) : Prop :=
  ∃ a g, e = .returned (.func (.func 104) #[] #[.pointer (some ⟨a, 0, none⟩), .pointer (some ⟨g, 0, none⟩)]) ∧ Primed w' a g 0 ∧ w.heap.size ≤ a ∧ w.heap.size ≤ g ∧ Below w.heap.size w w'

theorem zeros312 : Tryz.zeroCells158 = (boolCells freshL).toArray := by kernel_rfl

set_option maxHeartbeats 4000000 in
set_option maxRecDepth 100000 in
theorem primes_any (w : World) : Calls Tryz.prog 88 #[] w (PrimesPost w) := by
  have HZ := Lib.hid zeros312
  go_enter Tryz.func88, Tryz.ntmps88
  go_wp2
  go_ret
  refine ⟨w.heap.size + 1, w.heap.size, rfl, ⟨by omega, ?_, ?_⟩, by omega, Nat.le_refl _, ((Below.refl _ w).alloc (Nat.le_refl _) _).alloc (by simp) _⟩
  · have h1 := Arr.new (w.alloc (.cells Tryz.zeroCells158 158)) 3 [.int .i64 1]
    rw [show (w.alloc (.cells Tryz.zeroCells158 158)).heap.size = w.heap.size + 1 from by simp] at h1
    exact h1
  · have h1 := Arr.new w 158 (boolCells freshL)
    rw [← HZ.out] at h1
    exact h1.alloc _

def NumbersPost (w : World) (e : Ending) (w' : World) : Prop :=
  e = .returned (.tuple #[.agg (wordCells beginL).toArray, .agg (wordCells roundL).toArray]) ∧ Below w.heap.size w w'

theorem sizeH : (Tryz.prog.info? 124).map (·.size) = some 8 := by kernel_rfl
theorem sizeK : (Tryz.prog.info? 125).map (·.size) = some 64 := by kernel_rfl

theorem lenHn : beginL.length = 8 := rfl
theorem lenKn : roundL.length = 64 := by kernel_rfl
theorem fillH_set {k q : Nat} (hk : k < 8) (hq : beginL.getD k 0 = q) : (wordCells (fillF beginL k)).set k (.int .u32 (q : Nat)) = wordCells (fillF beginL (k + 1)) := by
  rw [wordCells_set, ← hq, fillF_set (by rw [lenHn]; exact hk)]
theorem fillK_set {k q : Nat} (hk : k < 64) (hq : roundL.getD k 0 = q) : (wordCells (fillF roundL k)).set k (.int .u32 (q : Nat)) = wordCells (fillF roundL (k + 1)) := by
  rw [wordCells_set, ← hq, fillF_set (by rw [lenKn]; exact hk)]
theorem fillH_get {k : Nat} (hk : k < 8) : (wordCells (fillF beginL k))[k]? = some (.int .u32 0) := fillF_get (by rw [lenHn]; exact hk)
theorem fillK_get {k : Nat} (hk : k < 64) : (wordCells (fillF roundL k))[k]? = some (.int .u32 0) := fillF_get (by rw [lenKn]; exact hk)

/-- What holds behind k rounds. -/
def NumRel (W : World) (a g k : Nat) (wr : World) : Prop :=
  Arr wr W.heap.size 124 (wordCells (fillF beginL k)) ∧ Arr wr (W.heap.size + 1) 125 (wordCells (fillF roundL k)) ∧ Primed wr a g k ∧ Below W.heap.size W wr

theorem NumRel.prime {W w w' : World} {a g k : Nat} (h : Arr w W.heap.size 124 (wordCells (fillF beginL k)) ∧ Arr w (W.heap.size + 1) 125 (wordCells (fillF roundL k)) ∧ Below W.heap.size W w)
    (ha : W.heap.size + 2 ≤ a) (hg : W.heap.size + 2 ≤ g) (ho : Only (fun k => k = a ∨ k = g) w w') :
    Arr w' W.heap.size 124 (wordCells (fillF beginL k)) ∧ Arr w' (W.heap.size + 1) 125 (wordCells (fillF roundL k)) ∧ Below W.heap.size W w' := by
  obtain ⟨h1, h2, h3⟩ := h
  refine ⟨h1.only ho (by omega), h2.only ho (by omega), h3.trans (ho.below h3.size ?_)⟩
  rintro k (rfl | rfl) <;> omega

set_option maxHeartbeats 4000000 in
set_option maxRecDepth 100000 in
theorem numbers_any (W : World) : Calls Tryz.prog 70 #[] W (NumbersPost W) := by
  go_enter Tryz.func70, Tryz.ntmps70
  go_wp2_with fail
  refine (primes_any _).mono ?_
  rintro e w1 ⟨a, g, rfl, hP, ha, hg, hb⟩
  have h0 : NumRel W a g 0 w1 := by
    refine ⟨?_, ?_, hP, (((Below.refl _ W).alloc (Nat.le_refl _) _).alloc (by simp) _).trans (hb.mono (by simp; omega))⟩
    · have := ((Arr.new W 124 (wordCells (fillF beginL 0))).alloc (.cells (wordCells (fillF roundL 0)).toArray 125))
      exact this.below hb (by simp; omega)
    · have := Arr.new (W.alloc (.cells (wordCells (fillF beginL 0)).toArray 124)) 125 (wordCells (fillF roundL 0))
      simp at this
      exact this.below hb (by simp)
  simp at ha hg
  clear hb hP
  go_wp2_with fail
  go_loopw [6] (fun i wr => ∃ k : Nat, k ≤ 64 ∧ i = .int .i64 k ∧ NumRel W a g k wr) (fun i _ => 64 - (intOf i).toNat)
  case atStart => exact ⟨0, by omega, rfl, h0⟩
  case round =>
    obtain ⟨k, hk, rfl, hR⟩ := hrel
    clear h0
    obtain ⟨hH, hK, hP, hB⟩ := hR
    by_cases hlt : k < 64
    · obtain ⟨hok, y, hy, hby⟩ := cube_at hlt
      obtain ⟨p, hp⟩ : ∃ p, primesL.getD k 0 = p := ⟨_, rfl⟩
      rw [show primeL.getD k 0 = p from hp] at hok hy
      obtain ⟨F, hF⟩ : ∃ F, floatOfInt .f64 (p : Nat) = F := ⟨_, rfl⟩
      rw [hF] at hok hy
      obtain ⟨r, hr⟩ : ∃ r, roundL.getD k 0 = r := ⟨_, rfl⟩
      rw [hr] at hby
      have hconv : ∀ w, (convert 3 145 (.int .i64 (p : Nat))).run Tryz.prog w = .ok (.float .f64 F) w := fun w => by
        rw [run_convert_int_float (P := Tryz.prog) w 3 145 .i64 .f64 (p : Nat) (by kernel_rfl) Tryz.underlying145, hF]
      have Hp := Lib.hid hp
      have HF := Lib.hid hF
      have Hr := Lib.hid hr
      have Hok := Lib.hid hok
      have Hy := Lib.hid hy
      have Hby := Lib.hid hby
      have hki : (k : Int) < 64 := by omega
      clear hp hF hr hok hy hby
      by_cases h8 : k < 8
      · obtain ⟨z, hz, hbz⟩ := square_at h8
        rw [show primeL.getD k 0 = p from Hp.out, HF.out] at hz
        obtain ⟨q, hq⟩ : ∃ q, beginL.getD k 0 = q := ⟨_, rfl⟩
        rw [hq] at hbz
        have Hq := Lib.hid hq
        have Hz := Lib.hid hz
        have Hbz := Lib.hid hbz
        have hki8 : (k : Int) < 8 := by omega
        clear hq hz hbz
        go_wp2_with fail
        refine (prime_any a g k hlt _ hP).mono ?_
        rintro e w2 ⟨rfl, hP2, ho, hs⟩
        rw [Hp.out]
        obtain ⟨hH2, hK2, hB2⟩ := NumRel.prime ⟨hH, hK, hB⟩ (by omega) (by omega) ho
        have hcK : w2.cell? ⟨W.heap.size + 1, k, none⟩ = some (.int .u32 0) := by rw [hK2.cell]; exact fillK_get hlt
        have hfK := hK2.frozen k
        have hcH : (w2.setCell ⟨W.heap.size + 1, k, none⟩ (.int .u32 (r : Nat))).cell? ⟨W.heap.size, k, none⟩ = some (.int .u32 0) := by rw [(hH2.setOther (p := ⟨W.heap.size + 1, k, none⟩) (by simp) _).cell]; exact fillH_get h8
        have hfH := (hH2.setOther (p := ⟨W.heap.size + 1, k, none⟩) (by simp) (.int .u32 (r : Nat))).frozen k
        have hFB : NumRel W a g (k + 1) ((w2.setCell ⟨W.heap.size + 1, k, none⟩ (.int .u32 (r : Nat))).setCell ⟨W.heap.size, k, none⟩ (.int .u32 (q : Nat))) := by
          refine ⟨?_, ?_, ⟨hP2.1, ?_, ?_⟩, ?_⟩
          · have := (hH2.setOther (p := ⟨W.heap.size + 1, k, none⟩) (by simp) (.int .u32 (r : Nat))).set k (.int .u32 (q : Nat))
            rw [fillH_set h8 Hq.out] at this
            exact this
          · have := (hK2.set k (.int .u32 (r : Nat))).setOther (p := ⟨W.heap.size, k, none⟩) (by simp) (.int .u32 (q : Nat))
            rw [fillK_set hlt Hr.out] at this
            exact this
          · exact (hP2.2.1.setOther (by simp; omega) _).setOther (by simp; omega) _
          · exact (hP2.2.2.setOther (by simp; omega) _).setOther (by simp; omega) _
          · exact (hB2.setCell (by simp) _).setCell (by simp) _
        have HFB := Lib.hid hFB
        clear hFB
        go_wp2_with (first
          | (go_at_call 90; refine (cbrt_any F y Hok.out Hy.out _).mono ?_; rintro e w3 ⟨rfl, rfl⟩)
          | (go_at_call 89; ((with_reducible refine (behind_any y r Hby.out _).mono ?_); rintro e w3 ⟨rfl, rfl⟩))
          | (go_at_call 91; refine (sqrt_any F z Hz.out _).mono ?_; rintro e w3 ⟨rfl, rfl⟩)
          | (go_at_call 89; ((with_reducible refine (behind_any z q Hbz.out _).mono ?_); rintro e w3 ⟨rfl, rfl⟩)))
        go_roundw
        case rel => exact ⟨k + 1, by omega, by go_num, HFB.out⟩
        case measure => simp [intOf]; omega
      · have hki8 : decide ((k : Int) < 8) = false := by simp; omega
        go_wp2_with fail
        refine (prime_any a g k hlt _ hP).mono ?_
        rintro e w2 ⟨rfl, hP2, ho, hs⟩
        rw [Hp.out]
        obtain ⟨hH2, hK2, hB2⟩ := NumRel.prime ⟨hH, hK, hB⟩ (by omega) (by omega) ho
        have hcK : w2.cell? ⟨W.heap.size + 1, k, none⟩ = some (.int .u32 0) := by rw [hK2.cell]; exact fillK_get hlt
        have hfK := hK2.frozen k
        have hFB : NumRel W a g (k + 1) (w2.setCell ⟨W.heap.size + 1, k, none⟩ (.int .u32 (r : Nat))) := by
          refine ⟨?_, ?_, ⟨hP2.1, ?_, ?_⟩, ?_⟩
          · have h1 := hH2.setOther (p := ⟨W.heap.size + 1, k, none⟩) (by simp) (.int .u32 (r : Nat))
            rw [fillF_done (l := beginL) (by rw [lenHn]; omega)] at h1 ⊢
            exact h1
          · have := hK2.set k (.int .u32 (r : Nat))
            rw [fillK_set hlt Hr.out] at this
            exact this
          · exact hP2.2.1.setOther (by simp; omega) _
          · exact hP2.2.2.setOther (by simp; omega) _
          · exact hB2.setCell (by simp) _
        have HFB := Lib.hid hFB
        clear hFB
        go_wp2_with (first
          | (go_at_call 90; refine (cbrt_any F y Hok.out Hy.out _).mono ?_; rintro e w3 ⟨rfl, rfl⟩)
          | (go_at_call 89; ((with_reducible refine (behind_any y r Hby.out _).mono ?_); rintro e w3 ⟨rfl, rfl⟩)))
        go_roundw
        case rel => exact ⟨k + 1, by omega, by go_num, HFB.out⟩
        case measure => simp [intOf]; omega
    · obtain rfl : k = 64 := by omega
      rw [fillF_done (l := beginL) (by rw [lenHn]; omega)] at hH
      rw [fillF_done (l := roundL) (by rw [lenKn]; omega)] at hK
      obtain ⟨H, hHe⟩ : ∃ H, H = (wordCells beginL).toArray := ⟨_, rfl⟩
      obtain ⟨K, hKe⟩ : ∃ K, K = (wordCells roundL).toArray := ⟨_, rfl⟩
      unfold Arr at hH hK
      rw [← hHe] at hH
      rw [← hKe] at hK
      have sH : H.size = 8 := by rw [hHe]; simp [wordCells_length, lenHn]
      have sK : K.size = 64 := by rw [hKe]; simp [wordCells_length, lenKn]
      have iH : (Tryz.prog.info? 124).map (·.size) = some H.size := by rw [sH]; exact sizeH
      have iK : (Tryz.prog.info? 125).map (·.size) = some K.size := by rw [sK]; exact sizeK
      have oH : H.all (·.oneCell') = true := by rw [hHe]; simpa using wordCells_one beginL
      have oK : K.all (·.oneCell') = true := by rw [hKe]; simpa using wordCells_one roundL
      have cH : ∀ w : World, (∃ n, w = wr.drewN n) → w.heap[W.heap.size]? = some (.cells H 124 (0, 0)) := fun w ⟨n, e⟩ => by rw [e]; exact hH
      have cK : ∀ w : World, (∃ n, w = wr.drewN n) → w.heap[W.heap.size + 1]? = some (.cells K 125 (0, 0)) := fun w ⟨n, e⟩ => by rw [e]; exact hK
      have CH := Lib.hid cH
      have CK := Lib.hid cK
      have OH := Lib.hid oH
      have OK := Lib.hid oK
      have HiH := Lib.hid iH
      have HiK := Lib.hid iK
      have HH := Lib.hid hH
      have HK := Lib.hid hK
      have HHe := Lib.hid hHe
      have HKe := Lib.hid hKe
      clear hH hK hHe hKe sH sK iH iK oH oK hP cH cK
      go_wp2_with fail
      refine wp_region_quiet_lit (by kernel_rfl) (by kernel_rfl) ?_
      refine wpQuiet_load_row rfl _ _ rfl W.heap.size rfl 124 H _ CH.out Tryz.underlying124 rfl HiH.out ?_
      refine wpQuiet_load_row rfl _ _ rfl (W.heap.size + 1) rfl 125 K _ CK.out Tryz.underlying125 rfl HiK.out ?_
      refine wpQuiet_store_idle rfl _ _ _ rfl W.heap.size H rfl rfl 124 CH.out HiH.out OH.out ?_
      refine wpQuiet_store_idle rfl _ _ _ rfl (W.heap.size + 1) K rfl rfl 125 CK.out HiK.out OK.out ?_
      refine wpQuiet_nil ?_
      rintro _ ⟨nq, rfl⟩
      go_wp2
      refine bodyPost_ret (v := .tuple #[.agg H, .agg K]) ?_ rfl ?_
      · have r1 := fun n => run_loadVar_row (P := Tryz.prog) (wr.drewN n) W.heap.size 124 124 H (0, 0) _ HH.out Tryz.underlying124 rfl HiH.out
        have r2 := fun n => run_loadVar_row (P := Tryz.prog) (wr.drewN n) (W.heap.size + 1) 125 125 K (0, 0) _ HK.out Tryz.underlying125 rfl HiK.out
        unfold results
        simp [r1, r2, Tryz.results70, Act.put, asAddr]
      · exact ⟨by rw [HHe.out, HKe.out], Below.dN hB _⟩
end Go.Proofs.YtblgmnjegkfoaaaGreat

namespace Go.Proofs.YtblgmnjegkfoaaaGreat
open Go.RowKit
set_option linter.unusedVariables false

/-- The address of s[k:]. -/
def cutA (A : Option Addr) (c k : Nat) : Option Addr := if c = k then A else A.map (·.add k)

theorem Bs.cutA {w : World} {B : Nat} {A : Option Addr} {l : List UInt8} {c k : Nat} (h : Bs w B A l) (hk : k ≤ l.length) (hc : l.length ≤ c) : Bs w B (cutA A c k) (l.drop k) := fun hn => by
  rw [List.length_drop] at hn
  obtain ⟨b, off, rfl, hb, hcell⟩ := h (by omega)
  unfold Proofs.YtblgmnjegkfoaaaGreat.cutA
  rw [if_neg (by omega)]
  refine ⟨b, off + k, ?_, hb, fun j hj => ?_⟩
  · show some _ = some _
    congr 1
    unfold Addr.add
    split <;> simp_all
  · rw [List.length_drop] at hj
    have := hcell (k + j) (by omega)
    rw [show off + k + j = off + (k + j) from by omega, this]
    simp [List.getD, List.getElem?_drop]

theorem Bs.upto {w : World} {B : Nat} {A : Option Addr} {l : List UInt8} (k : Nat) (h : Bs w B A l) : Bs w B A (l.take k) := fun hn => by
  rw [List.length_take] at hn
  obtain ⟨b, off, rfl, hb, hc⟩ := h (by omega)
  refine ⟨b, off, rfl, hb, fun j hj => ?_⟩
  rw [List.length_take] at hj
  rw [hc j (by omega)]
  have : (l.take k).getD j 0 = l.getD j 0 := by simp [List.getD, show j < k from by omega]
  rw [this]

section
variable {P : Program} (T : TypeId) (hT : P.underlying T = some (.slice (P.elem T))) (hs : (P.info? (P.elem T)).map (·.size) = some 1)
include hT hs
theorem run_from (A : Option Addr) (n c i : Nat) (k : IntKind) (z : Int) (hz : z = (i : Int)) (hi : i ≤ n) (w : World) :
    (Instr.sliceAt T (.slice A n c) (some (.int k z)) none none).run P w = .ok (.slice (cutA A c i) (n - i) (c - i)) w := by
  subst hz
  rw [run_sliceAt_slice w T _ _ _ _ hT, run_slice_l w T A n c hT k i (by omega) (by omega)]
  cases hq : P.info? (P.elem T) with
  | none => simp [hq] at hs
  | some i0 =>
    have h1 : i0.size = 1 := by simpa [hq] using hs
    simp [sizeOf, typeInfo, hq, h1, sliced, cutA, Result.andThen]
theorem run_upto (A : Option Addr) (n c i : Nat) (k : IntKind) (z : Int) (hz : z = (i : Int)) (hi : i ≤ c) (w : World) :
    (Instr.sliceAt T (.slice A n c) none (some (.int k z)) none).run P w = .ok (.slice A i c) w := by
  subst hz
  rw [run_sliceAt_slice w T _ _ _ _ hT, run_slice_h w T A n c hT k i (by omega) (by omega)]
  cases hq : P.info? (P.elem T) with
  | none => simp [hq] at hs
  | some i0 =>
    have h1 : i0.size = 1 := by simpa [hq] using hs
    cases A with
    | none => simp [sizeOf, typeInfo, hq, h1, sliced, Result.andThen]
    | some a => simp [sizeOf, typeInfo, hq, h1, sliced, Result.andThen, Addr.add]
end

/-- A new block of one cell, as append reads it. -/
theorem one_new (w : World) (T : TypeId) (v : Value) : ∀ j u, [v][j]? = some u → (w.alloc (.cells #[v] T)).cell? ((⟨w.heap.size, 0, none⟩ : Addr).add j) = some u := by
  intro j u hj
  match j, hj with
  | 0, hj =>
    simp at hj
    subst hj
    have h := (Arr.new w T [v]).cell 0
    simp only [Addr.add, if_true]
    exact h
theorem one_u8 (z : Int) : ∀ u ∈ [Value.int .u8 z], u.oneCell' = true := by intro u hu; simp at hu; subst hu; rfl
theorem one_u32 (z : Int) : ∀ u ∈ [Value.int .u32 z], u.oneCell' = true := by intro u hu; simp at hu; subst hu; rfl

/-- What append of one byte leaves. -/
theorem Owns.more1 {w : World} {B : Nat} {T : TypeId} {v : Value} {l : List UInt8} {z : Int} {x : UInt8} (hz : z = (x.toNat : Nat)) (h : w.ownsRow B T 1 v (l.length + 1) (Lib.byteCells l ++ [.int .u8 z])) : Owns w B T v (l ++ [x]) := by
  subst hz
  unfold Owns
  simpa [Lib.byteCells] using h

/-- How long a slice is. -/
def sliceLen : Value → Nat
  | .slice _ n _ => n
  | _ => 0

/-- As Bs, and not in block g. -/
def BsX (w : World) (g B : Nat) (A : Option Addr) (l : List UInt8) : Prop :=
  0 < l.length → ∃ b off, A = some ⟨b, off, none⟩ ∧ b < B ∧ b ≠ g ∧ ∀ j, j < l.length → w.cell? ⟨b, off + j, none⟩ = some (.int .u8 ((l.getD j 0).toNat : Nat))
theorem BsX.bs {w : World} {g B : Nat} {A : Option Addr} {l : List UInt8} (h : BsX w g B A l) : Bs w B A l := fun hn => by
  obtain ⟨b, off, e, hb, _, hc⟩ := h hn
  exact ⟨b, off, e, hb, hc⟩
theorem BsX.of {w : World} {g B B' : Nat} {A : Option Addr} {l : List UInt8} (h : Bs w B A l) (hg : B ≤ g) (hB : B ≤ B') : BsX w g B' A l := fun hn => by
  obtain ⟨b, off, e, hb, hc⟩ := h hn
  exact ⟨b, off, e, by omega, by omega, hc⟩
theorem BsX.keep {w w' : World} {g B : Nat} {A : Option Addr} {l : List UInt8} (h : BsX w g B A l) (hk : ∀ b, b < B → b ≠ g → w'.heap[b]? = w.heap[b]?) : BsX w' g B A l := fun hn => by
  obtain ⟨b, off, e, hb, hg, hc⟩ := h hn
  exact ⟨b, off, e, hb, hg, fun j hj => (World.cell?_of_block (hk b hb hg)).trans (hc j hj)⟩
theorem BsX.cutA {w : World} {g B : Nat} {A : Option Addr} {l : List UInt8} {c k : Nat} (h : BsX w g B A l) (hk : k ≤ l.length) (hc : l.length ≤ c) : BsX w g B (cutA A c k) (l.drop k) := fun hn => by
  have hn' := hn
  rw [List.length_drop] at hn
  obtain ⟨b, off, rfl, hb, hg, _⟩ := h (by omega)
  obtain ⟨b', off', e, hb', hc'⟩ := (h.bs.cutA hk hc) hn'
  have e2 : Proofs.YtblgmnjegkfoaaaGreat.cutA (some ⟨b, off, none⟩) c k = some ⟨b, off + k, none⟩ := by
    unfold Proofs.YtblgmnjegkfoaaaGreat.cutA
    rw [if_neg (by omega)]
    show some _ = some _
    congr 1
    unfold Addr.add
    split <;> simp_all
  rw [e2] at e
  injection e with e
  injection e with e3 e4
  subst e3 e4
  exact ⟨b, off + k, e2, hb, hg, hc'⟩

end Go.Proofs.YtblgmnjegkfoaaaGreat

namespace Go.Proofs.YtblgmnjegkfoaaaGreat
open Go.RowKit
set_option linter.unusedVariables false

theorem byteInfo : (Tryz.prog.info? 5).map (fun i => (i.zero, i.size, i.bytes)) = some (some (.int .u8 0), 1, 1) := by kernel_rfl

set_option maxHeartbeats 4000000 in
set_option maxRecDepth 100000 in
/-- pack.Number: behind the row its groups of seven bits. -/
theorem number_any (B x : Nat) (hx : x < 18446744073709551616) (sv : Value) (bs : List UInt8) (w : World) (hown : Owns w B 5 sv bs) (hBw : B ≤ w.heap.size) (hlim : bs.length + 10 ≤ 140737488355328) :
    Calls Tryz.prog 56 #[sv, .int .u64 x] w fun e w' => ∃ v', e = .returned v' ∧ Owns w' B 5 v' (bs ++ Lib.uvarint x) ∧ Grew w w' sv v' := by
  obtain ⟨i0, hi, hz0, hz1, hz2⟩ := info_parts byteInfo
  have hlen := Lib.uvarint_length64 hx
  go_enter Tryz.func56, Tryz.ntmps56
  go_wp2
  go_loopw [0, 1] (fun vb vx wr => ∃ (y : Nat) (pre : List UInt8), vx = .int .u64 y ∧ y ≤ x ∧ Lib.uvarint x = pre ++ Lib.uvarint y ∧ Owns wr B 5 vb (bs ++ pre) ∧ Grew w wr sv vb)
    (fun _ vx _ => (intOf vx).toNat)
  case atStart => exact ⟨x, [], rfl, Nat.le_refl _, rfl, by simpa using hown, Grew.refl _ _⟩
  case round =>
    obtain ⟨y, pre, rfl, hy, hsplit, hown1, hgr⟩ := hrel
    have hpl : pre.length + (Lib.uvarint y).length ≤ 10 := by
      have h2 := congrArg List.length hsplit
      rw [List.length_append] at h2
      omega
    have hyp := Lib.uvarint_pos y
    have hsz := hgr.1.size
    have hle : (bs ++ pre).length + 1 ≤ 140737488355328 := by rw [List.length_append]; omega
    by_cases h128 : 128 ≤ y
    · have hor : bits .or .u8 ((y : Int) % 256) 128 = ((y % 128 + 128 : Nat) : Int) := by
        rw [Lib.u8_or128_any _ (by omega) (by omega)]
        omega
      have Hs := Lib.hid hsplit
      clear hsplit
      go_wp2_with (at_builtin; refine wpList_append_own_at _ rfl _ _ 38 rfl B 5 i0 (.int .u8 0) 1 1 Tryz.underlying38 hi hz0 hz1 hz2 rfl (by decide) _ _ _ rfl (World.ownsRow.alloc hown1 _) ⟨wr.heap.size, 0, none⟩ 1 1 [Value.int .u8 ((y % 128 + 128 : Nat) : Int)] rfl rfl ?c1 ?c2 ?c3 ?c4 ?c5 ?_)
      case c1 =>
        intro j u hj
        match j, hj with
        | 0, hj => simp at hj; subst hj; simp [Addr.add]
      case c2 => intro u hu; simp at hu; subst hu; rfl
      case c3 => unfold maxLen; omega
      case c4 => omega
      case c5 => simp; omega
      intro v' w1 hown' hgrow _ hplace
      have hgr1 : Grew w w1 sv v' := (hgr.alloc _).step hgrow (by simpa using hplace)
      go_wp2
      go_roundw
      case rel =>
        refine ⟨y / 128, pre ++ [(y % 128 + 128).toUInt8], by go_num, by omega, by rw [Hs.out, Lib.uvarint_big h128]; simp, ?_, hgr1⟩
        rw [← List.append_assoc]
        exact Owns.snoc (by omega) (by rw [List.length_append]) (by omega) hown'
      case measure => simp [intOf]; omega
    · have hsm : Lib.uvarint y = [y.toUInt8] := Lib.uvarint_small (by omega)
      have Hs := Lib.hid hsplit
      have Hm := Lib.hid hsm
      clear hsplit hsm
      go_wp2_with (at_builtin; refine wpList_append_own_at _ rfl _ _ 38 rfl B 5 i0 (.int .u8 0) 1 1 Tryz.underlying38 hi hz0 hz1 hz2 rfl (by decide) _ _ _ rfl (World.ownsRow.alloc hown1 _) ⟨wr.heap.size, 0, none⟩ 1 1 [Value.int .u8 (y : Int)] rfl rfl ?c1 ?c2 ?c3 ?c4 ?c5 ?_)
      case c1 =>
        intro j u hj
        match j, hj with
        | 0, hj => simp at hj; subst hj; simp [Addr.add]
      case c2 => intro u hu; simp at hu; subst hu; rfl
      case c3 => unfold maxLen; omega
      case c4 => omega
      case c5 => simp; omega
      intro v' w1 hown' hgrow _ hplace
      have hgr1 : Grew w w1 sv v' := (hgr.alloc _).step hgrow (by simpa using hplace)
      go_wp2
      go_ret
      refine ⟨v', rfl, ?_, hgr1⟩
      rw [Hs.out, Hm.out, ← List.append_assoc]
      exact Owns.snoc (by omega) (by rw [List.length_append]) rfl hown'

/-- Behind nothing: a row of its own, and all that was there stays. -/
theorem number_nil (v : Int) (h0 : 0 ≤ v) (hv : v < 18446744073709551616) (w : World) :
    Calls Tryz.prog 56 #[.slice none 0 0, .int .u64 v] w fun e w' => ∃ A c, e = .returned (.slice A (Lib.uvarint v.toNat).length c) ∧ Owns w' w.heap.size 5 (.slice A (Lib.uvarint v.toNat).length c) (Lib.uvarint v.toNat) ∧ Below w.heap.size w w' := by
  obtain ⟨x, rfl⟩ := Int.eq_ofNat_of_zero_le h0
  refine (number_any w.heap.size x (by omega) (.slice none 0 0) [] w (Owns.nil _ _ _) (Nat.le_refl _) (by simp)).mono ?_
  rintro e w' ⟨v', rfl, hown, hg⟩
  rw [List.nil_append] at hown
  obtain ⟨A, c, rfl, _⟩ := hown.slice
  exact ⟨A, c, rfl, hown, hg.below (Nat.le_refl _) (by simp [Value.ownBlock])⟩

end Go.Proofs.YtblgmnjegkfoaaaGreat

namespace Go.Proofs.YtblgmnjegkfoaaaGreat
open Go.RowKit
set_option linter.unusedVariables false

def FillPost (l : List UInt8) (w : World) (e : Ending) (w' : World) : Prop :=
  ∃ A c, e = .returned (.slice A (lastF l).length c) ∧ (lastF l).length ≤ c ∧ c ≤ maxLen ∧ Bs w' w'.heap.size A (lastF l) ∧ (∀ a, A = some a → w.heap.size ≤ a.block) ∧ Below w.heap.size w w'

theorem elemB : Tryz.prog.elem 38 = 5 := by kernel_rfl
theorem underB : Tryz.prog.underlying 38 = some (.slice (Tryz.prog.elem 38)) := by rw [elemB]; exact Tryz.underlying38
theorem sizeB : (Tryz.prog.info? (Tryz.prog.elem 38)).map (·.size) = some 1 := by kernel_rfl

theorem fill_n (l : List UInt8) {t : List UInt8} {j : Nat} (ht : t = l.drop (l.length - l.length % 64)) : (t ++ (128 :: List.replicate j 0)).length = l.length % 64 + 1 + j := by
  subst ht
  simp only [List.length_append, List.length_drop, List.length_cons, List.length_replicate]
  omega

set_option maxHeartbeats 8000000 in
set_option maxRecDepth 100000 in
theorem fill_any (l : List UInt8) (A : Option Addr) (c : Nat) (w : World) (hb : Bs w w.heap.size A l) (hc : l.length ≤ c) (hm : l.length ≤ 140737488355000) :
    Calls Tryz.prog 71 #[.slice A l.length c] w (FillPost l w) := by
  obtain ⟨i0, hi, hz0, hz1, hz2⟩ := info_parts byteInfo
  obtain ⟨n, hn⟩ : ∃ n, l.length = n := ⟨_, rfl⟩
  have hq : ∀ w, (Instr.sliceAt 38 (.slice A n c) (some (.int .i64 ((n : Int) - (n : Int) % 64))) none none).run Tryz.prog w = .ok (.slice (cutA A c (n - n % 64)) (n % 64) (c - (n - n % 64))) w := fun w => by
    rw [run_from 38 underB sizeB A n c (n - n % 64) .i64 _ (by omega) (by omega) w]
    congr 2
    omega
  have hcut : Bs w w.heap.size (cutA A c (n - n % 64)) (l.drop (n - n % 64)) := hb.cutA (by omega) (by omega)
  have htl : (l.drop (n - n % 64)).length = n % 64 := by rw [List.length_drop]; omega
  rw [hn] at hc hm ⊢
  obtain ⟨T, hT⟩ : ∃ T, T = l.drop (n - n % 64) := ⟨_, rfl⟩
  rw [← hT] at hcut htl
  have hT2 : T = l.drop (l.length - l.length % 64) := by rw [hn]; exact hT
  have Hn := Lib.hid hn
  have HT := Lib.hid hT2
  have Htl := Lib.hid htl
  clear hn hT hT2 htl
  go_enter Tryz.func71, Tryz.ntmps71
  go_wp2_with (first
    | (at_make; refine wpList_make_own _ rfl _ _ 38 rfl w.heap.size 5 i0 (.int .u8 0) 1 Tryz.underlying38 hi hz0 hz1 _ _ _ 128 rfl rfl rfl (by rw [hz2]; decide) (by unfold maxLen; omega) (Nat.le_refl _) ?_; intro w1 hmk hg1; have hown0 : Owns w1 w.heap.size 5 _ [] := hmk; have hs1 := hg1.size; have hb1 : Below w.heap.size w w1 := (Below.refl _ w).grown hg1 (Nat.le_refl _) (by simp); have hcut1 := hcut.below hb1 (Nat.le_refl _))
    | (at_builtin; (refine wpList_append_bs rfl _ _ 38 rfl w.heap.size 5 i0 (.int .u8 0) Tryz.underlying38 hi hz0 hz1 hz2 rfl (.slice (some ⟨w.heap.size, 0, none⟩) 0 128) [] rfl hown0 w.heap.size (cutA A c (n - n % 64)) (n % 64) (c - (n - n % 64)) T rfl Htl.out hcut1 (by simp; omega) (by omega) ?_; intro v2 w2 hown2 hgr2; clear hown0; rw [List.nil_append] at hown2; have hs2 := hgr2.1.size))
    | (at_builtin; (refine wpList_append_own_at _ rfl _ _ 38 rfl w.heap.size 5 i0 (.int .u8 0) 1 1 Tryz.underlying38 hi hz0 hz1 hz2 rfl (by decide) v2 _ _ rfl (World.ownsRow.alloc hown2 _) ⟨w2.heap.size, 0, none⟩ 1 1 [Value.int .u8 128] rfl rfl (one_new _ _ _) (one_u8 _) (by rw [Htl.out]; unfold maxLen; omega) (by rw [Htl.out]; omega) (by simp; omega) ?_; intro v3 w3 hown3' hgrow3 _ hplace3)))
  have hown3 : Owns w3 w.heap.size 5 v3 (T ++ (128 :: List.replicate 0 0)) := by
    have h1 := Owns.more1 (x := 128) rfl hown3'
    simpa using h1
  have hb3 : Below w.heap.size w w3 := by
    have h2 := hb1.trans (hgr2.below hs1 (by simp [Value.ownBlock]))
    have h3 : Grew w2 w3 v2 v3 := ((Grew.refl w2 v2).alloc _).step hgrow3 (by simpa using hplace3)
    exact h2.trans (h3.below (Nat.le_trans hs1 hs2) (fun k hk => (hown2.lt k hk).1))
  clear hown3' hgrow3 hplace3 hown2 hgr2 hmk hcut hcut1 hq hb hb1 hg1
  have hpl := padF_lt n
  go_loopw [4] (fun v wr => ∃ j : Nat, j ≤ padF n ∧ Owns wr w.heap.size 5 v (T ++ (128 :: List.replicate j 0)) ∧ Below w.heap.size w wr) (fun v _ => 200 - sliceLen v)
  case atStart => exact ⟨0, by omega, hown3, hb3⟩
  case round =>
    clear hown3 hb3
    obtain ⟨j, hj, hown, hbel⟩ := hrel
    have hlen : (T ++ (128 :: List.replicate j (0 : UInt8))).length = n % 64 + 1 + j := by
      simp only [List.length_append, List.length_cons, List.length_replicate, Htl.out]; omega
    obtain ⟨L, hL⟩ : ∃ L, T ++ (128 :: List.replicate j (0 : UInt8)) = L := ⟨_, rfl⟩
    have hsn : T ++ (128 :: List.replicate (j + 1) (0 : UInt8)) = L ++ [0] := by rw [← hL, List.replicate_succ']; simp
    have hdone : j = padF n → T ++ (128 :: List.replicate (padF n) (0 : UInt8)) = L := fun e => by rw [← hL, e]
    rw [hL] at hown hlen
    have hownL := hown
    obtain ⟨A1, c1, rfl, hlc, hcm, hbs⟩ := hown.slice
    have Hsn := Lib.hid hsn
    have Hdone := Lib.hid hdone
    clear hL hsn hdone hown
    obtain ⟨m, hm'⟩ : ∃ m, L.length = m := ⟨_, rfl⟩
    rw [hm'] at hlen hlc ⊢
    have hbz := hbel.size
    by_cases hlt : j < padF n
    · have ht : ((m : Int) % 64 != 56) = true := by
        have := padF_step n j hlt
        rw [bne_iff_ne]; omega
      have hown1 : wr.ownsRow w.heap.size 5 1 (.slice A1 m c1) m (Lib.byteCells L) := by rw [← hm']; exact hownL
      have Hm := Lib.hid hm'
      have Hl := Lib.hid hlen
      have hm200 : m < 200 := by omega
      clear hm' hlen hownL
      go_wp2_with (at_builtin; (refine wpList_append_own_at _ rfl _ _ 38 rfl w.heap.size 5 i0 (.int .u8 0) 1 1 Tryz.underlying38 hi hz0 hz1 hz2 rfl (by decide) (.slice A1 m c1) _ _ rfl (World.ownsRow.alloc hown1 _) ⟨wr.heap.size, 0, none⟩ 1 1 [Value.int .u8 0] rfl rfl (one_new _ _ _) (one_u8 _) (by unfold maxLen; omega) (by omega) (by simp; omega) ?_; intro v5 w5 hown5 hgrow5 _ hplace5))
      have hown6 : Owns w5 w.heap.size 5 v5 (L ++ [0]) := by
        rw [← Hm.out] at hown5
        exact Owns.more1 rfl hown5
      have hb5 : Below w.heap.size w w5 := by
        have h3 : Grew wr w5 (.slice A1 m c1) v5 := ((Grew.refl wr _).alloc _).step hgrow5 (by simpa using hplace5)
        exact hbel.trans (h3.below hbz (fun k hk => (World.ownsRow.lt hown1 k hk).1))
      have hlen6 : (L ++ [(0 : UInt8)]).length = m + 1 := by rw [List.length_append, Hm.out]; rfl
      obtain ⟨A2, c2, hv5, _, _, _⟩ := hown6.slice
      rw [hlen6] at hv5
      subst hv5
      go_roundw
      case rel => exact ⟨j + 1, by omega, by rw [Hsn.out]; exact hown6, hb5⟩
      case measure => show 200 - (m + 1) < 200 - m; omega
    · have hje : j = padF n := by omega
      have ht : ((m : Int) % 64 != 56) = false := by
        have := padF_mod n
        rw [bne_eq_false_iff_eq]; omega
      have hX := Hdone.out hje
      have hown0 : Owns wr w.heap.size 5 (.slice A1 m c1) (L ++ (bytes8 (n * 8)).take 0) := by rw [List.take_zero, List.append_nil, ← hm']; exact hownL
      have hfin : lastF l = L ++ bytes8 (n * 8) := by unfold lastF; rw [← HT.out, Hn.out, hX]
      have Hfin := Lib.hid hfin
      have Hm := Lib.hid hm'
      have hm200 : m < 200 := by omega
      have hn8 : n * 8 < 18446744073709551616 := by omega
      obtain ⟨wo, rfl⟩ : ∃ wo : World, wo = wr := ⟨_, rfl⟩
      clear hm' hlen hownL hX hfin hje hlt
      go_wp2_with fail
      go_loopw [4, 5] (fun v sh wr => ∃ (i : Nat) (z : Int), i ≤ 8 ∧ z + 8 * (i : Int) = 56 ∧ sh = .int .i64 z ∧ Owns wr w.heap.size 5 v (L ++ (bytes8 (n * 8)).take i) ∧ Below w.heap.size w wr) (fun _ sh _ => (intOf sh + 8).toNat)
      case atStart => exact ⟨0, 56, by omega, by omega, rfl, hown0, hbel⟩
      case round =>
        clear hown0 hbel
        obtain ⟨i, z, hi8, hz, rfl, hown, hbel⟩ := hrel
        have hlen : (L ++ (bytes8 (n * 8)).take i).length = m + i := by
          rw [List.length_append, List.length_take, bytes8_length, Hm.out]; omega
        have hbz := hbel.size
        by_cases hlt : i < 8
        · obtain ⟨sh, rfl⟩ := Int.eq_ofNat_of_zero_le (show 0 ≤ z by omega)
          have hsn := bytes8_snoc (n * 8) hlt (show sh + 8 * i = 56 by omega)
          obtain ⟨Y, hY⟩ : ∃ Y, L ++ (bytes8 (n * 8)).take i = Y := ⟨_, rfl⟩
          have hsn2 : L ++ (bytes8 (n * 8)).take (i + 1) = Y ++ [(n * 8 / 2 ^ sh).toUInt8] := by rw [hsn, ← hY]; simp
          rw [hY] at hown hlen
          have hYl := hlen
          obtain ⟨q, hq⟩ : ∃ q, Y.length = q := ⟨_, rfl⟩
          rw [hq] at hlen
          have hown1 := hown
          unfold Owns at hown1
          rw [hq] at hown1
          obtain ⟨b, hb⟩ : ∃ b, n * 8 / 2 ^ sh = b := ⟨_, rfl⟩
          have hbI : (n : Int) * 8 / 2 ^ sh = (b : Int) := by rw [← hb, Int.natCast_ediv, Int.natCast_pow]; rfl
          rw [hb] at hsn2
          have Hsn2 := Lib.hid hsn2
          have Hq := Lib.hid hq
          have Hlen := Lib.hid hlen
          have hsh1 : (sh : Int) ≤ 64 := by omega
          have hq300 : q < 300 := by omega
          have Hz := Lib.hid hz
          clear hsn hsn2 hq hlen hYl hown hY hz hb
          go_wp2_with (at_builtin; (refine wpList_append_own_at _ rfl _ _ 38 rfl w.heap.size 5 i0 (.int .u8 0) 1 1 Tryz.underlying38 hi hz0 hz1 hz2 rfl (by decide) u4 _ _ rfl (World.ownsRow.alloc hown1 _) ⟨wr.heap.size, 0, none⟩ 1 1 [Value.int .u8 ((b : Int) % 256)] rfl rfl (one_new _ _ _) (one_u8 _) (by unfold maxLen; omega) (by omega) (by simp; omega) ?_; intro v5 w5 hown5 hgrow5 _ hplace5))
          have hown6 : Owns w5 w.heap.size 5 v5 (Y ++ [b.toUInt8]) := by
            rw [← Hq.out] at hown5
            exact Owns.more1 (by simp) hown5
          have hb5 : Below w.heap.size w w5 := by
            have h3 : Grew wr w5 u4 v5 := ((Grew.refl wr _).alloc _).step hgrow5 (by simpa using hplace5)
            exact hbel.trans (h3.below hbz (fun k hk => (World.ownsRow.lt hown1 k hk).1))
          go_roundw
          case rel => exact ⟨i + 1, (sh : Int) - 8, by omega, by have := Hz.out; omega, by go_num, by rw [Hsn2.out]; exact hown6, hb5⟩
          case measure => simp [intOf]; omega
        · obtain rfl : i = 8 := by omega
          obtain rfl : z = -8 := by omega
          rw [List.take_of_length_le (Nat.le_of_eq (bytes8_length _)), ← Hfin.out] at hown
          have hbase := hown.lt
          obtain ⟨A6, c6, rfl, h61, h62, h63⟩ := hown.slice
          have h64 : ∀ a, A6 = some a → w.heap.size ≤ a.block := fun a e => by subst e; exact (hbase a.block (by rcases hown.2 with ⟨hv, _⟩ | ⟨g', cap', cur', hv, _⟩ <;> injection hv with e1 <;> first | (cases e1; done) | (injection e1 with e1; subst e1; rfl))).1
          clear hz hbase
          go_wp2_with fail
          go_ret
          exact ⟨A6, c6, rfl, h61, h62, h63, h64, hbel⟩

end Go.Proofs.YtblgmnjegkfoaaaGreat

namespace Go.Proofs.YtblgmnjegkfoaaaGreat
open Go.RowKit

/-- An array of bytes, as a value. -/
def digV (d : List UInt8) : Value := .agg (Lib.byteCells d).toArray
def zeros : List UInt8 := List.replicate 32 0
theorem zl : (Lib.byteCells zeros).length = 32 := by simp [Lib.byteCells, zeros]
theorem digInfo : (Tryz.prog.info? 24).map (·.size) = some 32 := by kernel_rfl

end Go.Proofs.YtblgmnjegkfoaaaGreat

/-
  seek and set of space.
-/
import Derived.Test.YtejmojldfffbnacRows
import Derived.Test.YtejmojldfffbnacSpaceMath
import Derived.WalkLawsBesides
namespace Go.Proofs.Ytejmojldfffbnac
open Go.RowKit
set_option linter.unusedVariables false

abbrev SpT (w : World) (p g : Nat) (L : List Bool) (f m c : Nat) (rest : List Value) : Prop := Sp 93 4 w p g L f m c rest

def SeekPost (p g : Nat) (L : List Bool) (f c : Nat) (rest : List Value) (w : World) (e : Ending) (w' : World) : Prop :=
  e = .returned (.tuple #[]) ∧ ∃ m', SpT w' p g L f m' c rest ∧ Full L m' ∧ Only (fun k => k = p) w w'

set_option maxHeartbeats 4000000 in
set_option maxRecDepth 100000 in
theorem seek_any (p g : Nat) (L : List Bool) (f m c a : Nat) (rest : List Value) (w : World) (h : SpT w p g L f m c rest) (ha : a ≤ L.length) (hF : Full L (min m a)) :
    Calls Try.prog 49 #[.pointer (some ⟨p, 0, none⟩), .int .i64 (a : Nat)] w (SeekPost p g L f c rest w) := by
  have h0 := h.c0
  have h2 := h.c2
  have hf2 := h.f0 2
  have hl := h.hc
  have hm := h.hm
  have hml := h.hm2
  unfold maxLen at hm
  obtain ⟨q, hq⟩ : ∃ q, min m a = q := ⟨_, rfl⟩
  rw [hq] at hF
  have hqm : q ≤ L.length := by omega
  have hw0 := h.setLeast q hqm
  have ho0 : Only (fun k => k = p) w (w.setCell ⟨p, 2, none⟩ (.int .i64 (q : Nat))) := Only.setCell (R := fun k => k = p) (Only.refl _ w) (.inl rfl) _
  have HF := Lib.hid hF
  have hcase : (m ≤ a ∧ q = m) ∨ (a < m ∧ q = a) := by omega
  clear hF hq
  go_enter Try.func49, Try.ntmps49
  rcases hcase with ⟨hma, rfl⟩ | ⟨hma, rfl⟩
  all_goals
    go_wp2
    go_loopw [13] (fun _ wr => ∃ k : Nat, SpT wr p g L f k c rest ∧ Full L k ∧ Only (fun k => k = p) w wr) (fun _ wr => match wr.cell? ⟨p, 2, none⟩ with | some v => L.length - (intOf v).toNat | none => 0)
    case atStart => exact ⟨_, hw0, HF.out, ho0⟩
    case round =>
      obtain ⟨k, hS, hFk, hok⟩ := hrel
      have g0 := hS.c0
      have g2 := hS.c2
      have gf2 := hS.f0 2
      have hkl := hS.hm2
      by_cases hlt : k < L.length
      · have gk := hS.at_ hlt true
        have hd : decide ((k : Int) < (L.length : Int)) = true := by simp; omega
        by_cases hb : L.getD k true = true
        · rw [hb] at gk
          have hF1 := hFk.succ hb
          clear hb
          go_wp2
          go_quiet (fail)
          go_wp2
          go_roundw
          case rel => exact ⟨k + 1, by simpa using (hS.drewN nq).setLeast (k + 1) (by omega), hF1, by simpa using Only.setCell (p := ⟨p, 2, none⟩) (hok.drewN nq) (.inl rfl) (.int .i64 ((k + 1 : Nat) : Int))⟩
          case measure =>
            have hnew := ((hS.drewN nq).setLeast (k + 1) (by omega)).c2
            simp at hnew
            simp [g2, hnew, intOf]
            omega
        · rw [Bool.not_eq_true] at hb
          rw [hb] at gk
          clear hb
          go_wp2
          go_quiet (fail)
          go_wp2
          go_end0
          exact ⟨rfl, k, hS.drewN nq, hFk, hok.drewN nq⟩
      · have hd : decide ((k : Int) < (L.length : Int)) = false := by simp; omega
        go_wp2
        go_quiet (fail)
        go_wp2
        go_end0
        exact ⟨rfl, k, hS.drewN nq, hFk, hok.drewN nq⟩

/-- What 'set' leaves. -/
def SetPost (p g a n : Nat) (b : Bool) (L : List Bool) (c : Nat) (rest : List Value) (w : World) (e : Ending) (w' : World) : Prop :=
  e = .returned (.tuple #[]) ∧ ∃ m', SpT w' p g (setF a b n L) (freeF (setF a b n L)) m' c rest ∧ Full (setF a b n L) m' ∧ Only (fun k => k = p ∨ k = g) w w'

set_option maxHeartbeats 8000000 in
set_option maxRecDepth 100000 in
theorem set_any (p g a n : Nat) (b : Bool) (L : List Bool) (m c : Nat) (rest : List Value) (w : World) (h : SpT w p g L (freeF L) m c rest) (hF : Full L m) (han : a + n ≤ L.length) :
    Calls Try.prog 45 #[.pointer (some ⟨p, 0, none⟩), .int .i64 (a : Nat), .int .i64 (n : Nat), .bool b] w (SetPost p g a n b L c rest w) := by
  have hl := h.hc
  have hm := h.hm
  unfold maxLen at hm
  have hpg := h.ne
  cases b
  all_goals
    go_enter Try.func45, Try.ntmps45
    go_wp2
  · go_loopw [10] (fun i wr => ∃ k : Nat, k ≤ n ∧ i = .int .i64 k ∧ SpT wr p g (setF a false k L) (freeF (setF a false k L)) m c rest ∧ Only (fun k => k = p ∨ k = g) w wr) (fun i _ => n - (intOf i).toNat)
    case atStart => exact ⟨0, Nat.zero_le _, rfl, h, Only.refl _ w⟩
    case round =>
      obtain ⟨k, hk, rfl, hS, hok⟩ := hrel
      have Hln := Lib.hid (setF_length a false k L)
      have Hs := Lib.hid (show setF a false (k + 1) L = (setF a false k L).set (a + k) false from rfl)
      have hFk := hF.setF (a := a) (n := k) (b := false) h.hm2
      obtain ⟨M, hM⟩ : ∃ M, M = setF a false k L := ⟨_, rfl⟩
      rw [← hM] at hS Hln Hs hFk
      have HM := Lib.hid hM
      have HF := Lib.hid hFk
      clear hM hFk hF
      have g0 := hS.c0
      have g1 := hS.c1
      by_cases hlt : k < n
      · have hak : a + k < M.length := by rw [Hln.out]; omega
        have gk := hS.at_ hak false
        have gf := hS.fg (a + k)
        by_cases hb : M.getD (a + k) false = true
        · have hfree := freeF_set_false hak hb
          rw [hb] at gk
          have hnum : ((freeF M : Nat) : Int) + 1 = ((freeF (M.set (a + k) false) : Nat) : Int) := by omega
          have hb1 : freeF (M.set (a + k) false) ≤ M.length := by have := freeF_le (M.set (a + k) false); rw [List.length_set] at this; exact this
          have hb2 : freeF M + 1 ≤ 9223372036854775807 := by rw [Hln.out] at hb1; omega
          have Hnum := Lib.hid hnum
          clear hb hfree hb1 hnum
          have hS1 := hS.setBit hak false
          have g10 := hS1.c0
          have g11 := hS1.c1
          have gf1 := hS1.f0 1
          have hS2 := Lib.hid (hS1.setFree (freeF (M.set (a + k) false)))
          rw [← Hnum.out] at hS2
          go_wp2
          go_roundw
          case rel => exact ⟨k + 1, by omega, by go_num, by rw [Hs.out]; exact hS2.out, by first | assumption | exact Only.setCell (R := fun k => k = p ∨ k = g) (Only.setCell (R := fun k => k = p ∨ k = g) hok (.inl (.inr rfl)) _) (.inl (.inl rfl)) _⟩
          case measure => simp [intOf]; omega
        · rw [Bool.not_eq_true] at hb
          have hidle := set_idle hak hb
          rw [hb] at gk
          rw [hidle] at Hs
          clear hb hidle
          go_wp2
          go_roundw
          case rel => exact ⟨k + 1, by omega, by go_num, by rw [Hs.out]; exact hS, by first | assumption | exact hok⟩
          case measure => simp [intOf]; omega
      · obtain rfl : k = n := by omega
        have hal : a ≤ M.length := by rw [Hln.out]; omega
        go_wp2_with fail
        refine (seek_any p g M _ m c a rest wr hS hal HF.out).mono ?_
        rintro e w1 ⟨rfl, m', hS1, hF1, ho1⟩
        go_wp2_with fail
        go_end0
        rw [HM.out] at hS1 hF1
        exact ⟨rfl, m', hS1, hF1, hok.trans (ho1.more fun _ _ e => .inl e)⟩
  · go_loopw [10] (fun i wr => ∃ k : Nat, k ≤ n ∧ i = .int .i64 k ∧ SpT wr p g (setF a true k L) (freeF (setF a true k L)) m c rest ∧ Only (fun k => k = p ∨ k = g) w wr) (fun i _ => n - (intOf i).toNat)
    case atStart => exact ⟨0, Nat.zero_le _, rfl, h, Only.refl _ w⟩
    case round =>
      obtain ⟨k, hk, rfl, hS, hok⟩ := hrel
      have Hln := Lib.hid (setF_length a true k L)
      have Hs := Lib.hid (show setF a true (k + 1) L = (setF a true k L).set (a + k) true from rfl)
      have hFk := hF.setF (a := a) (n := k) (b := true) h.hm2
      obtain ⟨M, hM⟩ : ∃ M, M = setF a true k L := ⟨_, rfl⟩
      rw [← hM] at hS Hln Hs hFk
      have HM := Lib.hid hM
      have HF := Lib.hid hFk
      clear hM hFk hF
      have g0 := hS.c0
      have g1 := hS.c1
      by_cases hlt : k < n
      · have hak : a + k < M.length := by rw [Hln.out]; omega
        have gk := hS.at_ hak true
        have gf := hS.fg (a + k)
        by_cases hb : M.getD (a + k) true = false
        · have hfree := freeF_set_true hak hb
          rw [hb] at gk
          have hnum : ((freeF M : Nat) : Int) - 1 = ((freeF (M.set (a + k) true) : Nat) : Int) := by omega
          have hb1 : freeF M ≤ M.length := freeF_le M
          have hb2 : freeF M ≤ 9223372036854775807 := by rw [Hln.out] at hb1; omega
          have hb3 : 1 ≤ freeF M := by omega
          have Hnum := Lib.hid hnum
          clear hb hfree hb1 hnum
          have hS1 := hS.setBit hak true
          have g10 := hS1.c0
          have g11 := hS1.c1
          have gf1 := hS1.f0 1
          have hS2 := Lib.hid (hS1.setFree (freeF (M.set (a + k) true)))
          rw [← Hnum.out] at hS2
          go_wp2
          go_roundw
          case rel => exact ⟨k + 1, by omega, by go_num, by rw [Hs.out]; exact hS2.out, by first | assumption | exact Only.setCell (R := fun k => k = p ∨ k = g) (Only.setCell (R := fun k => k = p ∨ k = g) hok (.inl (.inr rfl)) _) (.inl (.inl rfl)) _⟩
          case measure => simp [intOf]; omega
        · rw [Bool.not_eq_false] at hb
          have hidle := set_idle hak hb
          rw [hb] at gk
          rw [hidle] at Hs
          clear hb hidle
          go_wp2
          go_roundw
          case rel => exact ⟨k + 1, by omega, by go_num, by rw [Hs.out]; exact hS, by first | assumption | exact hok⟩
          case measure => simp [intOf]; omega
      · obtain rfl : k = n := by omega
        have hal : a ≤ M.length := by rw [Hln.out]; omega
        go_wp2_with fail
        refine (seek_any p g M _ m c a rest wr hS hal HF.out).mono ?_
        rintro e w1 ⟨rfl, m', hS1, hF1, ho1⟩
        go_wp2_with fail
        go_end0
        rw [HM.out] at hS1 hF1
        exact ⟨rfl, m', hS1, hF1, hok.trans (ho1.more fun _ _ e => .inl e)⟩

end Go.Proofs.Ytejmojldfffbnac

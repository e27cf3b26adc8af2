/-
  room and Take of space.
-/
import Derived.Test.YtejmojldfffbnacSpaceSet
namespace Go.Proofs.Ytejmojldfffbnac
open Go.RowKit
set_option linter.unusedVariables false

def RoomPost (L : List Bool) (n : Nat) (w : World) (e : Ending) (w' : World) : Prop :=
  e = .returned (match roomF L n with | some a => .tuple #[.int .i64 (a : Nat), .bool true] | none => .tuple #[.int .i64 0, .bool false]) ∧ Drawn w w'

theorem room_over {L : List Bool} {n s r : Nat} (hn : 1 ≤ n) (hr : r < n) (hs : s + r = L.length) (hno : ∀ b, b < s → okF L n b = false) : roomF L n = none := by
  refine roomF_none fun b => ?_
  rcases Nat.lt_or_ge b s with h | h
  · exact hno b h
  · rcases Nat.lt_or_ge L.length b with h1 | h1
    · exact okF_not (i := 0) (by omega) (getD_out (by omega))
    · exact okF_not (i := L.length - b) (by omega) (getD_out (by omega))

theorem room_next {L : List Bool} {n s r t : Nat} (hr : r < n) (ht : t = s + r) (hno : ∀ b, b < s → okF L n b = false) (h : L.getD t true = true) : ∀ b, b < t + 1 → okF L n b = false := fun b hb => by
  rcases Nat.lt_or_ge b s with h1 | h1
  · exact hno b h1
  · exact okF_not (i := t - b) (by omega) (by rw [show b + (t - b) = t by omega]; exact h)

theorem room_ok {L : List Bool} {n s r t : Nat} (hr : r + 1 = n) (ht : t = s + r) (hf : ∀ j, s ≤ j → j < t → L.getD j true = false) (h : L.getD t true = false) : okF L n s = true := by
  rw [okF_iff]
  intro i hi
  by_cases e : i = r
  · subst e; rw [← ht]; exact h
  · exact hf _ (by omega) (by omega)

theorem room_more {L : List Bool} {s t : Nat} (hf : ∀ j, s ≤ j → j < t → L.getD j true = false) (h : L.getD t true = false) : ∀ j, s ≤ j → j < t + 1 → L.getD j true = false := fun j h1 h2 => by
  by_cases e : j = t
  · subst e; exact h
  · exact hf j h1 (by omega)

theorem full_not {L : List Bool} {m n : Nat} (hF : Full L m) (hn : 1 ≤ n) : ∀ b, b < m → okF L n b = false := fun b hb => okF_not (i := 0) (by omega) (hF b hb)

set_option maxHeartbeats 8000000 in
set_option maxRecDepth 100000 in
theorem room_any (p g n : Nat) (L : List Bool) (f m c : Nat) (rest : List Value) (w : World) (h : SpT w p g L f m c rest) (hF : Full L m) (hn : 1 ≤ n) (hn2 : n ≤ 9223372036854775807) :
    Calls Try.prog 48 #[.pointer (some ⟨p, 0, none⟩), .int .i64 (n : Nat)] w (RoomPost L n w) := by
  have hl := h.hc
  have hm := h.hm
  have hml := h.hm2
  unfold maxLen at hm
  have g0 := h.c0
  have g2 := h.c2
  have Hno := Lib.hid (full_not hF hn)
  have HS := Lib.hid h
  obtain ⟨N, hN⟩ : ∃ N, L.length - m = N := ⟨_, rfl⟩
  have hNI : ((L.length : Nat) : Int) - (m : Int) = (N : Int) := by omega
  have hNL : m + N = L.length := by omega
  have HNL := Lib.hid hNL
  have hNL1 : m + N ≤ L.length := by omega
  clear hN hF hNL
  go_enter Try.func48, Try.ntmps48
  go_wp2
  go_quiet (fail)
  go_wp2
  obtain ⟨wo, hwo⟩ : ∃ wo : World, wo = w.drewN nq := ⟨_, rfl⟩
  have hDr : Drawn w wo := by rw [hwo]; exact ⟨nq, rfl⟩
  have g0' : wo.cell? ⟨p, 0, none⟩ = some (.slice (some ⟨g, 0, none⟩) L.length c) := by rw [hwo]; exact g0
  have g2' : wo.cell? ⟨p, 2, none⟩ = some (.int .i64 (m : Nat)) := by rw [hwo]; exact g2
  have hS' : SpT wo p g L f m c rest := by rw [hwo]; exact h.drewN nq
  rw [← hwo]
  clear hwo g0 g2 h
  go_loop [6, 19] (fun r i => ∃ s k t : Nat, t ≤ N ∧ i = .int .i64 t ∧ r = .int .i64 k ∧ k < n ∧ Hid (m + t = s + k) ∧ Hid (∀ b, b < s → okF L n b = false) ∧ Hid (∀ j, s ≤ j → j < m + t → L.getD j true = false)) (fun _ i => N - (intOf i).toNat)
  case atStart => exact ⟨m, 0, 0, Nat.zero_le _, rfl, rfl, by omega, rfl, Hno.out, fun j h1 h2 => by omega⟩
  case round =>
    obtain ⟨s, k, t, htN, rfl, rfl, hkn, Hst, Hnos, Hfr⟩ := hrel
    have hkN : k ≤ L.length := by have := Hst.out; omega
    by_cases hlt : t < N
    · have hmt : m + t < L.length := by omega
      have gk := hS'.at_ hmt true
      by_cases hb : L.getD (m + t) true = true
      · have Hn := Lib.hid (room_next hkn Hst.out Hnos.out hb)
        rw [hb] at gk
        clear hb
        go_wp2
        go_round
        case rel => exact ⟨m + t + 1, 0, t + 1, by omega, by go_num, rfl, by omega, by show _ = _; omega, Hn.out, fun j h1 h2 => by omega⟩
        case measure => simp [intOf]; omega
      · rw [Bool.not_eq_true] at hb
        have hk1 : (k : Int) + 1 ≤ 9223372036854775807 := by omega
        by_cases hend : k + 1 = n
        · have hR := roomF_some hn (room_ok hend Hst.out Hfr.out hb) Hnos.out
          have HR := Lib.hid hR
          rw [hb] at gk
          have he1 : ((k : Int) + 1 == (n : Int)) = true := by rw [beq_iff_eq]; omega
          have hres : (m : Int) + (t : Int) - (n : Int) + 1 = (s : Int) := by have := Hst.out; omega
          have Hres := Lib.hid hres
          clear hb hR hres
          have Hend := Lib.hid hend
          clear hend
          go_wp2
          go_ret2
          refine ⟨?_, hDr⟩
          rw [HR.out]
          simp only [Hres.out]
          rfl
        · have Hmore := Lib.hid (room_more Hfr.out hb)
          rw [hb] at gk
          have he1 : ((k : Int) + 1 == (n : Int)) = false := by rw [beq_eq_false_iff_ne]; omega
          clear hb
          have Hend := Lib.hid hend
          clear hend
          go_wp2
          go_round
          case rel => exact ⟨s, k + 1, t + 1, by omega, by go_num, by go_num, by have := Hend.out; omega, by show _ = _; have := Hst.out; omega, Hnos.out, Hmore.out⟩
          case measure => simp [intOf]; omega
    · have hR := room_over hn hkn (by have := Hst.out; have := HNL.out; omega) Hnos.out
      have HR := Lib.hid hR
      clear hR
      go_wp2
      go_ret2
      refine ⟨?_, hDr⟩
      rw [HR.out]
      rfl

/-- What Take leaves, where there is room. -/
def TakePost (p g n a : Nat) (L : List Bool) (c : Nat) (rest : List Value) (w : World) (e : Ending) (w' : World) : Prop :=
  e = .returned (.tuple #[.int .i64 (a : Nat), .int .i64 0]) ∧ ∃ m', SpT w' p g (setF a true n L) (freeF (setF a true n L)) m' c rest ∧ Full (setF a true n L) m' ∧ Only (fun k => k = p ∨ k = g) w w'

theorem room_yes (p g n a : Nat) (L : List Bool) (f m c : Nat) (rest : List Value) (w : World) (h : SpT w p g L f m c rest) (hF : Full L m) (hn : 1 ≤ n) (hn2 : n ≤ 9223372036854775807) (hR : roomF L n = some a) :
    Calls Try.prog 48 #[.pointer (some ⟨p, 0, none⟩), .int .i64 (n : Nat)] w fun e w' => e = .returned (.tuple #[.int .i64 (a : Nat), .bool true]) ∧ Drawn w w' := by
  refine (room_any p g n L f m c rest w h hF hn hn2).mono ?_
  rintro e w' ⟨rfl, hD⟩
  rw [hR]
  exact ⟨rfl, hD⟩
theorem room_no (p g n : Nat) (L : List Bool) (f m c : Nat) (rest : List Value) (w : World) (h : SpT w p g L f m c rest) (hF : Full L m) (hn : 1 ≤ n) (hn2 : n ≤ 9223372036854775807) (hR : roomF L n = none) :
    Calls Try.prog 48 #[.pointer (some ⟨p, 0, none⟩), .int .i64 (n : Nat)] w fun e w' => e = .returned (.tuple #[.int .i64 0, .bool false]) ∧ Drawn w w' := by
  refine (room_any p g n L f m c rest w h hF hn hn2).mono ?_
  rintro e w' ⟨rfl, hD⟩
  rw [hR]
  exact ⟨rfl, hD⟩

set_option maxHeartbeats 4000000 in
set_option maxRecDepth 100000 in
theorem take_yes (p g n a : Nat) (L : List Bool) (m c : Nat) (rest : List Value) (w : World) (h : SpT w p g L (freeF L) m c rest) (hF : Full L m) (hn : 1 ≤ n) (hn2 : n ≤ 9223372036854775807) (hR : roomF L n = some a) :
    Calls Try.prog 31 #[.pointer (some ⟨p, 0, none⟩), .int .i64 (n : Nat)] w (TakePost p g n a L c rest w) := by
  have hfit := okF_fits hn (roomF_is hR).1
  have HR := Lib.hid hR
  clear hR
  go_enter Try.func31, Try.ntmps31
  go_wp2_with fail
  refine (room_yes p g n a L _ m c rest w h hF hn hn2 HR.out).mono ?_
  rintro e w1 ⟨rfl, nd, rfl⟩
  go_wp2_with fail
  refine (set_any p g a n true L m c rest _ (h.drewN nd) hF hfit).mono ?_
  rintro e w2 ⟨rfl, m', hS, hF', hO⟩
  go_wp2_with fail
  go_ret2
  exact ⟨rfl, m', hS, hF', ((Only.refl _ w).drewN nd).trans hO⟩

set_option maxHeartbeats 4000000 in
set_option maxRecDepth 100000 in
theorem take_no (p g n : Nat) (L : List Bool) (m c : Nat) (rest : List Value) (w : World) (h : SpT w p g L (freeF L) m c rest) (hF : Full L m) (hn : 1 ≤ n) (hn2 : n ≤ 9223372036854775807) (hR : roomF L n = none) :
    Calls Try.prog 31 #[.pointer (some ⟨p, 0, none⟩), .int .i64 (n : Nat)] w fun e w' => e = .returned (.tuple #[.int .i64 0, .int .i64 4]) ∧ Drawn w w' := by
  have HR := Lib.hid hR
  clear hR
  go_enter Try.func31, Try.ntmps31
  go_wp2_with fail
  refine (room_no p g n L _ m c rest w h hF hn hn2 HR.out).mono ?_
  rintro e w1 ⟨rfl, nd, rfl⟩
  go_wp2_with fail
  go_ret2
  exact ⟨rfl, nd, rfl⟩

set_option maxHeartbeats 4000000 in
theorem take_bad (p g : Nat) (n : Int) (w : World) (hn : n < 1) :
    Calls Try.prog 31 #[.pointer (some ⟨p, 0, none⟩), .int .i64 n] w fun e w' => e = .returned (.tuple #[.int .i64 0, .int .i64 1]) ∧ w = w' := by
  go_enter Try.func31, Try.ntmps31
  go_wp2_with fail
  go_ret2
  exact ⟨rfl, rfl⟩

set_option maxHeartbeats 4000000 in
theorem free_any (p g : Nat) (L : List Bool) (f m c : Nat) (rest : List Value) (w : World) (h : SpT w p g L f m c rest) :
    Calls Try.prog 27 #[.pointer (some ⟨p, 0, none⟩)] w fun e w' => e = .returned (.int .i64 (f : Nat)) ∧ w = w' := by
  have g1 := h.c1
  go_enter Try.func27, Try.ntmps27
  go_wp2
  go_ret
  exact ⟨rfl, rfl⟩

set_option maxHeartbeats 4000000 in
theorem taken_in (p g k : Nat) (L : List Bool) (f m c : Nat) (rest : List Value) (w : World) (h : SpT w p g L f m c rest) (hk : k < L.length) :
    Calls Try.prog 35 #[.pointer (some ⟨p, 0, none⟩), .int .i64 (k : Nat)] w fun e w' => e = .returned (.bool (L.getD k false)) ∧ w = w' := by
  have g0 := h.c0
  have gk := h.at_ hk false
  have hd0 : decide ((0 : Int) ≤ (k : Int)) = true := by simp
  have hd : decide ((k : Int) < (L.length : Int)) = true := by simp; omega
  obtain ⟨b, hb⟩ : ∃ b, L.getD k false = b := ⟨_, rfl⟩
  rw [hb] at gk ⊢
  clear hb
  go_enter Try.func35, Try.ntmps35
  go_wp2
  go_ret
  exact ⟨rfl, rfl⟩

set_option maxHeartbeats 4000000 in
theorem taken_low (p g : Nat) (k : Int) (w : World) (hk : k < 0) :
    Calls Try.prog 35 #[.pointer (some ⟨p, 0, none⟩), .int .i64 k] w fun e w' => e = .returned (.bool false) ∧ w = w' := by
  have hd0 : decide ((0 : Int) ≤ k) = false := by simp; omega
  go_enter Try.func35, Try.ntmps35
  go_wp2
  go_ret
  exact ⟨rfl, rfl⟩

set_option maxHeartbeats 4000000 in
theorem taken_high (p g : Nat) (k : Int) (L : List Bool) (f m c : Nat) (rest : List Value) (w : World) (h : SpT w p g L f m c rest) (hk : (L.length : Int) ≤ k) :
    Calls Try.prog 35 #[.pointer (some ⟨p, 0, none⟩), .int .i64 k] w fun e w' => e = .returned (.bool false) ∧ w = w' := by
  have g0 := h.c0
  have hd0 : decide ((0 : Int) ≤ k) = true := by simp; omega
  have hd : decide (k < (L.length : Int)) = false := by simp; omega
  go_enter Try.func35, Try.ntmps35
  go_wp2
  go_ret
  exact ⟨rfl, rfl⟩

end Go.Proofs.Ytejmojldfffbnac

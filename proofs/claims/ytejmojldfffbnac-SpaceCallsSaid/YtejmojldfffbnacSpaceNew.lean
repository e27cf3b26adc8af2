/-
  New, Mark, Release of space; the law's example.
-/
import Derived.Test.YtejmojldfffbnacSpaceRoom
import Derived.Laws.MakeOwn
namespace Go.Proofs.Ytejmojldfffbnac
open Go.RowKit
set_option linter.unusedVariables false

theorem boolInfo : (Try.prog.info? 4).map (fun i => (i.zero, i.size, i.bytes)) = some (some (.bool false), 1, 1) := by kernel_rfl

theorem run_make_bools (n : Nat) (hn : n ≤ 65536) (w : World) :
    (Instr.makeSlice 63 (.int .i64 (n : Nat)) (.int .i64 (n : Nat))).run Try.prog w = .ok (.slice (some ⟨w.heap.size, 0, none⟩) n n) (w.alloc (.cells (boolCells (List.replicate n false)).toArray 4)) := by
  obtain ⟨i0, hi, hz0, hz1, hz2⟩ := info_parts boolInfo
  have h := run_make (P := Try.prog) w 63 4 i0 (.bool false) Try.underlying63 hi hz0 .i64 .i64 (n : Nat) (n : Nat) (by omega) (by omega) (by rw [hz2]; omega) (by omega)
  rw [h, hz1, Nat.mul_one, Int.toNat_natCast]
  have e : madeCells (Value.bool false).cells n = (boolCells (List.replicate n false)).toArray := by
    apply Array.ext
    · rw [size_madeCells]; simp [boolCells]
    · intro k h1 h2
      simp [madeCells, boolCells, Value.cells, Nat.mod_one]
  rw [e]

def NewPost (n k : Nat) (w : World) (e : Ending) (w' : World) : Prop :=
  ∃ p g m, e = .returned (.tuple #[.pointer (some ⟨p, 0, none⟩), .int .i64 0]) ∧ w.heap.size ≤ p ∧ w.heap.size ≤ g ∧ SpT w' p g (setF 0 true k (List.replicate n false)) (freeF (setF 0 true k (List.replicate n false))) m n [] ∧ Full (setF 0 true k (List.replicate n false)) m ∧ Below w.heap.size w w'

set_option maxHeartbeats 4000000 in
set_option maxRecDepth 100000 in
theorem new_yes (n k : Nat) (w : World) (h1 : 1 ≤ n) (h2 : n ≤ 65536) (hk : k ≤ n) :
    Calls Try.prog 26 #[.int .i64 (n : Nat), .int .i64 (k : Nat)] w (NewPost n k w) := by
  have hmk := run_make_bools n h2
  obtain ⟨C, hC⟩ : ∃ C, C = (boolCells (List.replicate n false)).toArray := ⟨_, rfl⟩
  rw [← hC] at hmk
  have HC := Lib.hid hC
  clear hC
  have hd1 : decide ((n : Int) < 1) = false := by simp; omega
  have hd2 : decide ((65536 : Int) < (n : Int)) = false := by simp; omega
  have hd3 : decide ((k : Int) < 0) = false := by simp
  have hd4 : decide ((n : Int) < (k : Int)) = false := by simp; omega
  go_enter Try.func26, Try.ntmps26
  go_wp2_with fail
  obtain ⟨W, hW⟩ : ∃ W, W = ((w.alloc (.cells C 4)).alloc (.cells #[.slice (some ⟨w.heap.size, 0, none⟩) n n, .int .i64 (n : Nat), .int .i64 0] 93)) := ⟨_, rfl⟩
  have hb : Below w.heap.size w W := by rw [hW]; exact ((Below.refl _ w).alloc (Nat.le_refl _) _).alloc (by simp) _
  have hS : SpT W (w.heap.size + 1) w.heap.size (List.replicate n false) (freeF (List.replicate n false)) 0 n [] := by
    have hg : Arr (w.alloc (.cells C 4)) w.heap.size 4 (boolCells (List.replicate n false)) := by rw [HC.out]; exact Arr.new w _ _
    have hp := Arr.new (w.alloc (.cells C 4)) 93 [.slice (some ⟨w.heap.size, 0, none⟩) n n, .int .i64 (n : Nat), .int .i64 0]
    rw [show (w.alloc (.cells C 4)).heap.size = w.heap.size + 1 from by simp] at hp
    refine ⟨by omega, ?_, ?_, by simp, by unfold maxLen; omega, by simp⟩
    · rw [hW, List.length_replicate, freeF_replicate]; exact hp
    · rw [hW, List.append_nil]; exact hg.alloc _
  rw [← hW]
  clear hW
  have hset := set_any (w.heap.size + 1) w.heap.size 0 k true (List.replicate n false) 0 n [] W hS (fun j hj => by omega) (by simp; omega)
  refine Calls.mono hset ?_
  rintro e w1 ⟨rfl, m', hS1, hF1, hO⟩
  clear hset
  go_wp2_with fail
  go_ret2
  exact ⟨_, _, m', rfl, by omega, Nat.le_refl _, hS1, hF1, hb.trans (hO.below hb.size (by rintro i (rfl | rfl) <;> omega))⟩

set_option maxHeartbeats 4000000 in
theorem new_no (n k : Int) (w : World) (h : n < 1 ∨ 65536 < n ∨ k < 0 ∨ n < k) :
    Calls Try.prog 26 #[.int .i64 n, .int .i64 k] w fun e w' => e = .returned (.tuple #[.pointer none, .int .i64 2]) ∧ w = w' := by
  have hd : decide (n < 1) = true ∨ (decide (n < 1) = false ∧ decide (65536 < n) = true) ∨ (decide (n < 1) = false ∧ decide (65536 < n) = false ∧ decide (k < 0) = true) ∨ (decide (n < 1) = false ∧ decide (65536 < n) = false ∧ decide (k < 0) = false ∧ decide (n < k) = true) := by
    simp only [decide_eq_true_eq, decide_eq_false_iff_not]
    omega
  clear h
  rcases hd with h1 | ⟨h1, h2⟩ | ⟨h1, h2, h3⟩ | ⟨h1, h2, h3, h4⟩
  all_goals
    go_enter Try.func26, Try.ntmps26
    go_wp2
    go_ret2
    exact ⟨rfl, rfl⟩

def ChangePost (p g a n : Nat) (b : Bool) (L : List Bool) (c : Nat) (rest : List Value) (w : World) (e : Ending) (w' : World) : Prop :=
  e = .returned (.int .i64 0) ∧ ∃ m', SpT w' p g (setF a b n L) (freeF (setF a b n L)) m' c rest ∧ Full (setF a b n L) m' ∧ Only (fun k => k = p ∨ k = g) w w'

set_option maxHeartbeats 4000000 in
set_option maxRecDepth 100000 in
theorem change_yes (p g a n : Nat) (b : Bool) (L : List Bool) (m c : Nat) (rest : List Value) (w : World) (h : SpT w p g L (freeF L) m c rest) (hF : Full L m) (han : a + n ≤ L.length) :
    Calls Try.prog 47 #[.pointer (some ⟨p, 0, none⟩), .int .i64 (a : Nat), .int .i64 (n : Nat), .bool b] w (ChangePost p g a n b L c rest w) := by
  have g0 := h.c0
  have hl := h.hc
  have hm := h.hm
  unfold maxLen at hm
  have hd1 : decide ((n : Int) < 0) = false := by simp
  have hd2 : decide ((a : Int) < 0) = false := by simp
  have hd3 : decide ((L.length : Int) - (a : Int) < (n : Int)) = false := by simp; omega
  have HF := Lib.hid hF
  clear hF
  go_enter Try.func47, Try.ntmps47
  go_wp2_with fail
  refine (set_any p g a n b L m c rest w h HF.out han).mono ?_
  rintro e w1 ⟨rfl, m', hS, hF', hO⟩
  go_wp2_with fail
  go_ret
  exact ⟨rfl, m', hS, hF', hO⟩

set_option maxHeartbeats 4000000 in
set_option maxRecDepth 100000 in
theorem change_no (p g : Nat) (a n : Int) (b : Bool) (L : List Bool) (f m c : Nat) (rest : List Value) (w : World) (h : SpT w p g L f m c rest) (ha : a ≤ 9223372036854775807) (hx : n < 0 ∨ a < 0 ∨ (L.length : Int) - a < n) :
    Calls Try.prog 47 #[.pointer (some ⟨p, 0, none⟩), .int .i64 a, .int .i64 n, .bool b] w fun e w' => e = .returned (.int .i64 2) ∧ w = w' := by
  have g0 := h.c0
  have hl := h.hc
  have hm := h.hm
  unfold maxLen at hm
  have hd : decide (n < 0) = true ∨ (decide (n < 0) = false ∧ decide (a < 0) = true) ∨ (decide (n < 0) = false ∧ decide (a < 0) = false ∧ decide ((L.length : Int) - a < n) = true ∧ 0 ≤ a) := by
    simp only [decide_eq_true_eq, decide_eq_false_iff_not]
    omega
  clear hx
  rcases hd with h1 | ⟨h1, h2⟩ | ⟨h1, h2, h3, h4⟩
  all_goals
    go_enter Try.func47, Try.ntmps47
    go_wp2
    go_ret
    exact ⟨rfl, rfl⟩

set_option maxHeartbeats 4000000 in
theorem release_yes (p g a n : Nat) (L : List Bool) (m c : Nat) (rest : List Value) (w : World) (h : SpT w p g L (freeF L) m c rest) (hF : Full L m) (han : a + n ≤ L.length) :
    Calls Try.prog 33 #[.pointer (some ⟨p, 0, none⟩), .int .i64 (a : Nat), .int .i64 (n : Nat)] w (ChangePost p g a n false L c rest w) := by
  go_enter Try.func33, Try.ntmps33
  go_wp2_with fail
  refine (change_yes p g a n false L m c rest w h hF han).mono ?_
  rintro e w1 ⟨rfl, m', hS, hF', hO⟩
  go_wp2_with fail
  go_ret
  exact ⟨rfl, m', hS, hF', hO⟩

set_option maxHeartbeats 4000000 in
theorem release_no (p g : Nat) (a n : Int) (L : List Bool) (f m c : Nat) (rest : List Value) (w : World) (h : SpT w p g L f m c rest) (ha : a ≤ 9223372036854775807) (hx : n < 0 ∨ a < 0 ∨ (L.length : Int) - a < n) :
    Calls Try.prog 33 #[.pointer (some ⟨p, 0, none⟩), .int .i64 a, .int .i64 n] w fun e w' => e = .returned (.int .i64 2) ∧ w = w' := by
  have HX := Lib.hid hx
  clear hx
  go_enter Try.func33, Try.ntmps33
  go_wp2_with fail
  refine (change_no p g a n false L f m c rest w h ha HX.out).mono ?_
  rintro e w1 ⟨rfl, rfl⟩
  go_wp2_with fail
  go_ret
  exact ⟨rfl, rfl⟩

end Go.Proofs.Ytejmojldfffbnac

/-
  How much of a write a crash lets last.
-/
import Derived.Test.YtkpgbgiamekhaacDiskWrite
namespace Go.Proofs.Ytkpgbgiamekhaac
open Go.RowKit
set_option linter.unusedVariables false
set_option linter.unusedSimpArgs false

def pickF (picks : List UInt8) (i : Nat) : Nat := if picks.length = 0 then 0 else (picks.getD (i % picks.length) 0).toNat
def keptF (picks : List UInt8) (i : Nat) : Nat := if pickF picks i % 3 = 0 then 0 else if pickF picks i % 3 = 1 then 64 else pickF picks i % 64
theorem keptF_le (picks : List UInt8) (i : Nat) : keptF picks i ≤ 64 := by
  unfold keptF
  split
  · omega
  · split <;> omega
theorem pickF_lt (picks : List UInt8) (i : Nat) : pickF picks i < 256 := by
  unfold pickF
  split
  · omega
  · exact UInt8.toNat_lt _

theorem sync_keep (i : Nat) (w : World) : Calls Try.prog 41 #[.int .i64 (i : Nat)] w fun e w' => e = .returned (.int .i64 (64 : Nat)) ∧ Below w.heap.size w w' := by
  go_enter Try.func41, Try.ntmps41
  go_wp2
  go_ret
  exact ⟨rfl, Below.refl _ _⟩

set_option maxHeartbeats 4000000 in
set_option maxRecDepth 100000 in
theorem kept_none (A : Option Addr) (c i : Nat) (w : World) :
    Calls Try.prog 44 #[.slice A 0 c, .int .i64 (i : Nat)] w fun e w' => e = .returned (.int .i64 (0 : Nat)) ∧ Below w.heap.size w w' := by
  have hb : Below w.heap.size w (w.alloc (.cells #[.int .i64 0, .int .i64 64, .int .i64 0] 99)) := (Below.refl _ _).alloc (Nat.le_refl _) _
  go_enter Try.func44, Try.ntmps44
  go_wp2
  go_ret
  exact ⟨rfl, hb⟩

set_option maxHeartbeats 4000000 in
set_option maxRecDepth 100000 in
theorem kept_some (picks : List UInt8) (A : Option Addr) (n c i : Nat) (w : World) (B : Nat) (h : Bs w B A picks) (hn : picks.length = n) (h0 : 0 < n) (hc : n ≤ 9223372036854775807) (hi : i ≤ 1000000) :
    Calls Try.prog 44 #[.slice A n c, .int .i64 (i : Nat)] w fun e w' => e = .returned (.int .i64 (keptF picks i : Nat)) ∧ Below w.heap.size w w' := by
  obtain ⟨b, off, rfl, hb, hcell⟩ := h (by omega)
  obtain ⟨j, hj⟩ : ∃ j, i % n = j := ⟨_, rfl⟩
  have hjn : j < n := by rw [← hj]; exact Nat.mod_lt _ h0
  have hp := hcell j (by omega)
  obtain ⟨p, hpe⟩ : ∃ p, pickF picks i = p := ⟨_, rfl⟩
  have hp2 : (picks.getD j 0).toNat = p := by rw [← hpe]; unfold pickF; rw [if_neg (by omega), hn, hj]
  rw [hp2] at hp
  have hp256 : p < 256 := by rw [← hpe]; exact pickF_lt _ _
  have hjI : (i : Int) % (n : Int) = (j : Int) := by rw [← hj]; omega
  have hjT : (i : Int).tmod (n : Int) = (j : Int) := by rw [Int.tmod_eq_emod_of_nonneg (by omega)]; exact hjI
  have hnz : ((n : Int) == 0) = false := by rw [beq_eq_false_iff_ne]; omega
  have hn0 : decide ((0 : Int) < (n : Int)) = true := by simp; omega
  obtain ⟨q, hq⟩ : ∃ q, p % 64 = q := ⟨_, rfl⟩
  have hqI : (p : Int) % 64 = (q : Int) := by rw [← hq]; omega
  have hqT : (p : Int).tmod 64 = (q : Int) := by rw [Int.tmod_eq_emod_of_nonneg (by omega)]; exact hqI
  obtain ⟨r, hr⟩ : ∃ r, p % 3 = r := ⟨_, rfl⟩
  have hrI : (p : Int) % 3 = (r : Int) := by rw [← hr]; omega
  have hrT : (p : Int).tmod 3 = (r : Int) := by rw [Int.tmod_eq_emod_of_nonneg (by omega)]; exact hrI
  have hr3 : r = 0 ∨ r = 1 ∨ r = 2 := by omega
  have Hans := Lib.hid (show keptF picks i = if r = 0 then 0 else if r = 1 then 64 else q by unfold keptF; rw [hpe, hr, hq])
  have hbl : Below w.heap.size w (w.alloc (.cells #[.int .i64 0, .int .i64 64, .int .i64 (q : Nat)] 99)) := (Below.refl _ _).alloc (Nat.le_refl _) _
  clear hj hq hr hpe hp2 hcell h hn
  rcases hr3 with rfl | rfl | rfl
  all_goals
    go_enter Try.func44, Try.ntmps44
    go_wp2
    go_ret
    exact ⟨by rw [Hans.out]; rfl, hbl⟩

end Go.Proofs.Ytkpgbgiamekhaac

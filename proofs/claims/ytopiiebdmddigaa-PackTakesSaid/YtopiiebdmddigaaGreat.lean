/-
  What the laws on pack pass by: more than 60 Things, or one with more than 500 bytes.
-/
import Derived.Test.YtopiiebdmddigaaThing
import Derived.Laws.Rows
import Derived.Outline
namespace Go.Proofs.Ytopiiebdmddigaa
open Go.RowKit
set_option linter.unusedVariables false

def GreatPost (n : Nat) (f : Nat → Thing) (w : World) (e : Ending) (w' : World) : Prop :=
  ∃ g, e = .returned (.bool g) ∧ (g = false → n ≤ 60 ∧ ∀ i, i < n → (f i).b.length ≤ 500) ∧ Below w.heap.size w w'

set_option maxHeartbeats 4000000 in
set_option maxRecDepth 100000 in
theorem great_any (A : Option Addr) (n cap : Nat) (f : Nat → Thing) (w : World) (hA : Things w w.heap.size A n f) (hc : n ≤ cap) (hm : cap ≤ maxLen) :
    Calls Try.prog 10 #[.slice A n cap] w (GreatPost n f w) := by
  have hm63 : cap ≤ 9223372036854775807 := by unfold maxLen at hm; omega
  by_cases hbig : 60 < n
  · go_enter Try.func10, Try.ntmps10
    go_wp2
    go_ret
    exact ⟨true, rfl, (fun h => by cases h), Below.refl _ _⟩
  · have hn60 : n ≤ 60 := by omega
    clear hbig
    go_enter Try.func10, Try.ntmps10
    go_wp2
    go_loopw [10] (fun i wr => ∃ k : Nat, i = .int .i64 k ∧ k ≤ n ∧ Hid (∀ i, i < k → (f i).b.length ≤ 500) ∧ Below w.heap.size w wr) (fun i _ => n - (intOf i).toNat)
    case atStart => exact ⟨0, rfl, Nat.zero_le _, (fun i hi => by omega), Below.refl _ _⟩
    case round =>
      obtain ⟨k, rfl, hk, hall, hb⟩ := hrel
      by_cases hlt : k < n
      · obtain ⟨blk, off, rfl, hbl, ht⟩ := (hA.below hb (Nat.le_refl _)) (by omega)
        obtain ⟨_, Ab, cb, g0, g1, g2, g3, g4, g5, g6, g7⟩ := ht k hlt
        generalize hx : f k = x at *
        obtain ⟨xk, xn, xv, xm, xb⟩ := x
        have hsz := hb.size
        have Hx := Lib.hid hx
        clear hx ht
        simp only at g0 g1 g2 g3 g4 g5 g6 g7
        by_cases hbig : 500 < xb.length
        · go_wp2_with fail
          go_ret
          exact ⟨true, rfl, (fun h => by cases h), hb.alloc hsz _⟩
        · have hle : xb.length ≤ 500 := by omega
          clear hbig
          go_wp2_with fail
          refine ⟨⟨k + 1, by go_num, by omega, ?_, hb.alloc hsz _⟩, by simp [intOf]; omega⟩
          intro i hi
          rcases Nat.lt_or_ge i k with h | h
          · exact hall.out i h
          · obtain rfl : i = k := by omega
            rw [Hx.out]
            exact hle
      · obtain rfl : k = n := by omega
        go_wp2
        go_ret
        exact ⟨false, rfl, (fun _ => ⟨hn60, hall.out⟩), hb⟩

end Go.Proofs.Ytopiiebdmddigaa

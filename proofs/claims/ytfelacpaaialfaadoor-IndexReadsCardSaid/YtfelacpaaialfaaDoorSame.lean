/-
  What Same tells of two rows of bytes: whether they are one. It only reads.
-/
import Derived.Test.YtfelacpaaialfaaDoorRows
import Derived.Test.YtfelacpaaialfaaDoorLib
import Derived.BigQuiet
import Derived.Deep.QuietTactic
namespace Go.Proofs.YtfelacpaaialfaaDoor
open Go.RowKit
set_option linter.unusedVariables false

set_option maxHeartbeats 4000000 in
set_option maxRecDepth 100000 in
theorem same_any (B B' : Nat) (A A' : Option Addr) (c c' : Nat) (l m : List UInt8) (w : World) (hA : Bs w B A l) (hA' : Bs w B' A' m) (hl : l.length ≤ maxLen) (hm : m.length ≤ maxLen) :
    Calls Tryd.prog 9 #[.slice A l.length c, .slice A' m.length c'] w fun e w' => e = .returned (.bool (decide (l = m))) ∧ Drawn w w' := by
  unfold maxLen at hl hm
  by_cases hlen : l.length = m.length
  · have hb : ((l.length : Int) != (m.length : Int)) = false := by simp [hlen]
    have Hlen := Lib.hid hlen
    clear hlen
    go_enter Tryd.func9, Tryd.ntmps9
    go_wp2
    go_loopw [5] (fun i wr => ∃ k : Nat, i = .int .i64 k ∧ k ≤ l.length ∧ Hid (l.take k = m.take k) ∧ Drawn w wr) (fun i _ => l.length - (intOf i).toNat)
    case atStart => exact ⟨0, rfl, Nat.zero_le _, rfl, Drawn.refl _⟩
    case round =>
      obtain ⟨k, rfl, hk, htk, n, rfl⟩ := hrel
      by_cases hlt : k < l.length
      · have hlt' : k < m.length := by have := Hlen.out; omega
        obtain ⟨b, off, x, rfl, hbB, hc, hx, Hx⟩ := hA.at_ hlt
        obtain ⟨b', off', y, rfl, hbB', hc', hy, Hy⟩ := hA'.at_ hlt'
        have hci : ((k : Int) < (l.length : Int)) := by omega
        have hci' : ((k : Int) < (m.length : Int)) := by omega
        by_cases he : x = y
        · have ht := Lib.hid (take_succ_eq hlt hlt' htk.out (by rw [Hx.out, Hy.out, he]))
          subst he
          go_wp2
          go_quiet (fail)
          go_wp2
          go_roundw
          case rel => exact ⟨k + 1, by go_num, by omega, ht, _, rfl⟩
          case measure => simp [intOf]; omega
        · have heb : ((x : Int) != (y : Int)) = true := by rw [bne_iff_ne]; omega
          have hne := Lib.hid (ne_of_getD (l := l) (m := m) (k := k) (by rw [Hx.out, Hy.out]; exact he))
          clear he
          go_wp2
          go_quiet (fail)
          go_wp2
          go_ret
          exact ⟨ret_bool (decide_eq_false hne.out).symm, (Drawn.mk _ _).drewN _⟩
      · go_wp2
        go_ret
        obtain rfl : k = l.length := by omega
        have h1 := htk.out
        rw [List.take_length, Hlen.out, List.take_length] at h1
        exact ⟨ret_bool (decide_eq_true h1).symm, Drawn.mk _ _⟩
  · have hb : ((l.length : Int) != (m.length : Int)) = true := by rw [bne_iff_ne]; omega
    have hne : decide (l = m) = false := decide_eq_false fun e => hlen (by rw [e])
    have Hne := Lib.hid hne
    clear hne
    go_enter Tryd.func9, Tryd.ntmps9
    go_wp2
    go_ret
    exact ⟨ret_bool Hne.out.symm, Drawn.refl _⟩

/-- The same, the lengths and the answer under names of their own. -/
theorem same_n (B B' : Nat) (A A' : Option Addr) (c c' n n' : Nat) (l m : List UInt8) (w : World) (ans : Bool) (hA : Bs w B A l) (hA' : Bs w B' A' m) (hl : l.length = n) (hm : m.length = n') (hn : n ≤ maxLen) (hn' : n' ≤ maxLen) (ha : decide (l = m) = ans) :
    Calls Tryd.prog 9 #[.slice A n c, .slice A' n' c'] w fun e w' => e = .returned (.bool ans) ∧ ∃ k, w' = w.drewN k := by
  subst hl hm ha
  exact same_any B B' A A' c c' l m w hA hA' hn hn'

end Go.Proofs.YtfelacpaaialfaaDoor

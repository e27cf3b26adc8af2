/-
  slices.Concat of rows of bytes.
-/
import Derived.Test.YtlfddijmanlneaaGrow
import Derived.Test.YtlfddijmanlneaaTagged
namespace Go.Proofs.Ytlfddijmanlneaa
open Go.RowKit
set_option linter.unusedVariables false
set_option linter.unusedSimpArgs false

theorem flat_take {rs : List (List UInt8)} {k : Nat} (h : k < rs.length) : (rs.take (k + 1)).flatten = (rs.take k).flatten ++ rs.getD k [] := by
  rw [List.take_succ_eq_append_getElem h, List.flatten_append]
  simp [List.getD, h]
theorem flat_le (rs : List (List UInt8)) (k : Nat) : (rs.take k).flatten.length ≤ rs.flatten.length := by
  conv => rhs; rw [← List.take_append_drop k rs, List.flatten_append, List.length_append]
  exact Nat.le_add_right _ _

theorem grow_zero (n : Nat) (w : World) (hn : n ≤ 1000000) :
    Calls Try.prog 64 #[.slice none 0 0, .int .i64 n] w fun e w' => ∃ v, e = .returned v ∧ Owns w' w.heap.size 5 v [] ∧ Below w.heap.size w w' := by
  by_cases h0 : n = 0
  · subst h0
    refine (grow_room none 0 0 0 w (by omega) (by omega) (by omega) (by omega)).mono ?_
    rintro e w' ⟨rfl, rfl⟩
    exact ⟨_, rfl, Owns.nil _ _ _, Below.refl _ _⟩
  · refine (grow_any w.heap.size n (.slice none 0 0) [] w (Owns.nil _ _ _) (Nat.le_refl _) (by omega) (by simp; omega)).mono ?_
    rintro e w' ⟨g, c, rfl, _, hown, hgr⟩
    exact ⟨_, rfl, hown, hgr.below (Nat.le_refl _) (fun k hk => by cases hk)⟩

set_option maxHeartbeats 4000000 in
set_option maxRecDepth 100000 in
theorem concat_any (rs : List (List UInt8)) (A : Option Addr) (n c : Nat) (w : World) (hn : rs.length = n) (hn2 : n ≤ 1000) (hr : RowsAt w w.heap.size A rs) (hlim : rs.flatten.length ≤ 1000000) :
    Calls Try.prog 62 #[.slice A n c] w fun e w' => ∃ v, e = .returned v ∧ Owns w' w.heap.size 5 v rs.flatten ∧ Below w.heap.size w w' := by
  obtain ⟨i0, hi, hz0, hz1, hz2⟩ := info_parts byteInfo
  have Hn := Lib.hid hn
  clear hn
  go_enter Try.func62, Try.ntmps62
  go_wp2
  go_loopw [3, 11] (fun s i wr => ∃ k : Nat, k ≤ n ∧ i = .int .i64 k ∧ s = .int .i64 ((rs.take k).flatten.length : Nat) ∧ wr = w) (fun _ i _ => n - (intOf i).toNat)
  case atStart => exact ⟨0, by omega, rfl, rfl, rfl⟩
  case round =>
    obtain ⟨k, hk, rfl, rfl, rfl⟩ := hrel
    obtain ⟨wq, hwq⟩ : ∃ x, x = wr := ⟨_, rfl⟩
    subst hwq
    have hle := flat_le rs k
    have hle1 := flat_le rs (k + 1)
    by_cases hlt : k < n
    · have hkr : k < rs.length := by rw [Hn.out]; exact hlt
      have hft := flat_take hkr
      obtain ⟨b, off, rfl, hbB, hrow⟩ := hr (by omega)
      obtain ⟨X, cx, hc, hlc, hcm, hbs⟩ := hrow k hkr
      obtain ⟨r, hre⟩ : ∃ r, rs.getD k [] = r := ⟨_, rfl⟩
      rw [hre] at hc hlc hft
      obtain ⟨t, ht⟩ : ∃ t, (rs.take k).flatten.length = t := ⟨_, rfl⟩
      obtain ⟨m, hm⟩ : ∃ m, r.length = m := ⟨_, rfl⟩
      obtain ⟨u, hu⟩ : ∃ u, (rs.take (k + 1)).flatten.length = u := ⟨_, rfl⟩
      have htm : t + m = u := by rw [← ht, ← hm, ← hu, hft, List.length_append]
      have huB : u ≤ 1000000 := by omega
      have hI : (t : Int) + (m : Int) = (u : Int) := by omega
      have hd0 : decide ((u : Int) < (0 : Int)) = false := by simp
      have hd1 : decide (k < n) = true := by simp; exact hlt
      have hkI : (k : Int) < (n : Int) := by omega
      rw [hm] at hc
      rw [ht] at *
      have Hu := Lib.hid hu
      clear ht hu hm hre hft hrow hle hle1 hlc hbs
      go_wp2
      go_roundw
      case rel => exact ⟨k + 1, by omega, by go_num, by rw [Hu.out], (by first | rfl | trivial)⟩
      case measure => simp [intOf]; omega
    · obtain rfl : k = n := by omega
      have hd1 : decide (k < k) = false := by simp
      have htk : rs.take k = rs := List.take_of_length_le (by rw [Hn.out]; omega)
      rw [htk]
      obtain ⟨t, ht⟩ : ∃ t, rs.flatten.length = t := ⟨_, rfl⟩
      rw [ht] at hlim
      have hlimF : ∀ j, (rs.take j).flatten.length ≤ t := fun j => by rw [← ht]; exact flat_le rs j
      have HlimF := Lib.hid hlimF
      rw [ht]
      have Htk := Lib.hid htk
      clear htk hle hle1 ht hlimF
      go_wp2_with fail
      refine Calls.mono (grow_zero t wq hlim) ?_
      rintro e w1 ⟨v1, rfl, hown1, hb1⟩
      have hown0 : Owns w1 wq.heap.size 5 v1 (rs.take 0).flatten := by simpa using hown1
      clear hown1
      go_wp2_with fail
      go_loopw [6, 27] (fun v i wr => ∃ j : Nat, j ≤ k ∧ i = .int .i64 j ∧ Owns wr wq.heap.size 5 v (rs.take j).flatten ∧ Below wq.heap.size wq wr) (fun _ i _ => k - (intOf i).toNat)
      case atStart => exact ⟨0, by omega, rfl, hown0, hb1⟩
      case round =>
        clear hown0 hb1
        obtain ⟨j, hj, rfl, hown, hbel⟩ := hrel
        by_cases hlt2 : j < k
        · have hjr : j < rs.length := by rw [Hn.out]; exact hlt2
          have hft := flat_take hjr
          have hle2 := HlimF.out (j + 1)
          have hsz := hbel.size
          obtain ⟨b, off, rfl, hbB, hrow⟩ := hr (by omega)
          obtain ⟨X, cx, hc, hlc, hcm, hbs⟩ := hrow j hjr
          obtain ⟨r, hre⟩ : ∃ r, rs.getD j [] = r := ⟨_, rfl⟩
          rw [hre] at hc hlc hft hbs
          rw [hft, List.length_append] at hle2
          have hcw : wr.cell? ⟨b, off + j, none⟩ = some (.slice X r.length cx) := (hbel.cell (p := ⟨b, _, none⟩) hbB).trans hc
          have hbw : Bs wr wq.heap.size X r := hbs.below hbel (Nat.le_refl _)
          have hd2 : decide (j < k) = true := by simp; exact hlt2
          have hjI : (j : Int) < (k : Int) := by omega
          obtain ⟨m, hm⟩ : ∃ m, r.length = m := ⟨_, rfl⟩
          rw [hm] at hcw hle2
          have Hft := Lib.hid hft
          have Hm := Lib.hid hm
          have hlt1 := hown.lt
          clear hft hm hre hrow hc hbs hlc
          go_wp2_with (refine wpList_append_bs rfl _ _ 33 rfl wq.heap.size 5 i0 (.int .u8 0) Try.underlying33 hi hz0 hz1 hz2 rfl _ _ rfl hown wq.heap.size X m cx r rfl Hm.out hbw (by omega) hsz ?_; intro v5 w5 hown5 hgr5)
          have hb5 : Below wq.heap.size wq w5 := hbel.trans (hgr5.below hsz (fun q hq => (hlt1 q hq).1))
          go_roundw
          case rel => exact ⟨j + 1, by omega, by go_num, by rw [Hft.out]; exact hown5, hb5⟩
          case measure => simp [intOf]; omega
        · obtain rfl : j = k := by omega
          have hd2 : decide (j < j) = false := by simp
          rw [Htk.out] at hown
          go_wp2
          go_ret
          exact ⟨_, rfl, hown, hbel⟩

end Go.Proofs.Ytlfddijmanlneaa

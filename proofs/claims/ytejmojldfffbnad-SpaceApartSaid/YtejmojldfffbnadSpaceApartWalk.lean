/-
  The walk of SpaceApart.
-/
import Derived.Test.YtejmojldfffbnadSpaceSpeaks
import Derived.Test.YtejmojldfffbnadIntsArg
namespace Go.Proofs.Ytejmojldfffbnad
open Go.RowKit
set_option linter.unusedVariables false

set_option maxHeartbeats 8000000 in
set_option maxRecDepth 100000 in
theorem spaceApart_walk (s : Int) (hs1 : -9223372036854775808 ≤ s) (hs2 : s ≤ 9223372036854775807) (A : Option Addr) (len cap : Nat) (zs : List Int) (hl : zs.length = len) (hc : len ≤ cap) (hm : cap ≤ maxLen) (w : World) (hz : IntsAt w w.heap.size A zs) :
    Calls Try.prog 3 #[.int .i64 s, .slice A len cap] w fun e w' => e = .returned (.bool true) ∧ Below w.heap.size w w' := by
  unfold maxLen at hm
  by_cases hbad : s < 1 ∨ 300 < s ∨ 60 < len
  · have hd : decide (s < 1) = true ∨ (decide (s < 1) = false ∧ decide (300 < s) = true) ∨ (decide (s < 1) = false ∧ decide (300 < s) = false ∧ decide ((60 : Int) < (len : Int)) = true) := by
      simp only [decide_eq_true_eq, decide_eq_false_iff_not]
      omega
    clear hbad
    rcases hd with h1 | ⟨h1, h2⟩ | ⟨h1, h2, h3⟩
    all_goals
      go_enter Try.func3, Try.ntmps3
      go_wp2_with fail
      refine Calls.mono (spaceSpeaks_true w) ?_
      rintro e w1 ⟨rfl, hb⟩
      go_wp2_with fail
      go_ret
      exact ⟨rfl, hb⟩
  · obtain ⟨n, rfl⟩ : ∃ n : Nat, s = (n : Nat) := ⟨s.toNat, by omega⟩
    have hn1 : 1 ≤ n := by omega
    have hn2 : n ≤ 300 := by omega
    have hlen : len ≤ 60 := by omega
    have h1 : decide ((n : Int) < 1) = false := by simp; omega
    have h2 : decide ((300 : Int) < (n : Int)) = false := by simp; omega
    have h3 : decide ((60 : Int) < (len : Int)) = false := by simp; omega
    have Hl := Lib.hid hl
    clear hbad hl
    go_enter Try.func3, Try.ntmps3
    go_wp2_with fail
    refine Calls.mono (spaceSpeaks_true w) ?_
    rintro e w1 ⟨rfl, hb1⟩
    go_wp2_with fail
    refine Calls.mono (new_first n 0 w1 hn1 (by omega) (by omega)) ?_
    rintro e w2 ⟨p, g, m, rfl, hp, hg, hS, hF, hb2⟩
    have hb := hb1.trans (hb2.mono hb1.size)
    have hz2 := Lib.hid (hz.below hb (Nat.le_refl _))
    have hpw : w.heap.size ≤ p := Nat.le_trans hb1.size hp
    have hgw : w.heap.size ≤ g := Nat.le_trans hb1.size hg
    clear hz hb1 hb2 hp hg
    go_wp2_with fail
    clear h1 h2 h3
    go_loopw [7, 38] (fun x i wr => ∃ k nx m : Nat, k ≤ len ∧ i = .int .i64 k ∧ nx ≤ n ∧ x = .int .i64 nx ∧ SpT wr p g (firstF n nx) (freeF (firstF n nx)) m n [] ∧ Full (firstF n nx) m ∧ Only (fun k => k = p ∨ k = g) w2 wr) (fun _ i _ => len - (intOf i).toNat)
    case atStart => exact ⟨0, 0, m, Nat.zero_le _, rfl, Nat.zero_le _, rfl, hS, hF, Only.refl _ _⟩
    case round =>
      clear hS hF
      obtain ⟨k, nx, m, hk, rfl, hnx, rfl, hS, hF, hO⟩ := hrel
      by_cases hlt : k < len
      · obtain ⟨b, off, z, hA, hbB, hcell, hzk, hz1, hz2'⟩ := hz2.out.at_ (k := k) (by rw [Hl.out]; exact hlt)
        subst hA
        have hck : wr.cell? ⟨b, off + k, none⟩ = some (.int .i64 z) := by
          rw [World.cell?_of_block (hO.block b (by have := hb.size; omega) (by omega))]; exact hcell
        have Hzk := Lib.hid hzk
        clear hzk hcell
        obtain ⟨v, hv, hveq⟩ := and_mask z 15 (by omega)
        obtain ⟨q, hq⟩ : ∃ q : Nat, v + 1 = q := ⟨_, rfl⟩
        have hqI : (v : Int) + 1 = (q : Int) := by omega
        have hveq' : bits .and .i64 z 15 = (v : Int) := hveq
        have hq1 : 1 ≤ q := by omega
        have hq2 : q ≤ 16 := by omega
        clear hq hveq
        go_wp2_with fail
        by_cases hfit : nx + q ≤ n
        · have hfree := firstF_free (n := n) (k := nx + q) hfit
          obtain ⟨f', hf'⟩ : ∃ f' : Nat, n - (nx + q) = f' := ⟨_, rfl⟩
          have hfI : (n : Int) - ((nx : Int) + (q : Int)) = (f' : Int) := by omega
          rw [hf'] at hfree
          have Hfree := Lib.hid hfree
          have hd : decide ((q : Int) ≤ (n : Int) - (nx : Int)) = true := by simp; omega
          clear hf' hfree hqI hveq'
          refine Calls.mono (take_yes p g q nx _ m n [] wr hS hF hq1 (by omega) (firstF_room hq1 hfit)) ?_
          rintro e w3 ⟨rfl, m3, hS3, hF3, hO3⟩
          rw [firstF_more] at hS3 hF3
          have hS3' := hS3
          rw [Hfree.out] at hS3'
          have hO' := hO.trans hO3
          clear hO hO3 hck hS hF
          go_wp2_with fail
          refine Calls.mono (free_any p g _ _ m3 n [] w3 hS3') ?_
          rintro e w4 ⟨rfl, rfl⟩
          go_wp2_with fail
          go_roundw
          case rel => exact ⟨k + 1, nx + q, m3, by omega, by go_num, hfit, by go_num, hS3, hF3, hO'⟩
          case measure => simp [intOf]; omega
        · have hfree := firstF_free (n := n) (k := nx) hnx
          obtain ⟨f', hf'⟩ : ∃ f' : Nat, n - nx = f' := ⟨_, rfl⟩
          have hfI : (n : Int) - (nx : Int) = (f' : Int) := by omega
          rw [hf'] at hfree
          have Hfree := Lib.hid hfree
          have hd : decide ((q : Int) ≤ (f' : Int)) = false := by simp; omega
          have hS' := hS
          rw [Hfree.out] at hS'
          clear hf' hfree hqI hveq'
          refine Calls.mono (take_no p g q _ m n [] wr hS hF hq1 (by omega) (firstF_full hq1 (by omega) hnx)) ?_
          rintro e w3 ⟨rfl, nd, rfl⟩
          clear hck
          go_wp2_with fail
          refine Calls.mono (free_any p g _ _ m n [] _ (hS'.drewN nd)) ?_
          rintro e w4 ⟨rfl, rfl⟩
          go_wp2_with fail
          go_roundw
          case rel => exact ⟨k + 1, nx, m, by omega, by go_num, hnx, rfl, hS.drewN nd, hF, hO.drewN nd⟩
          case measure => simp [intOf]; omega
      · have hO' := hb.trans (hO.below hb.size (by rintro i (rfl | rfl) <;> omega))
        go_wp2_with fail
        go_ret
        exact ⟨rfl, hO'⟩

end Go.Proofs.Ytejmojldfffbnad

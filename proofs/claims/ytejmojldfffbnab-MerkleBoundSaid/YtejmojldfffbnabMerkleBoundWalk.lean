/-
  The walk of MerkleBound.
-/
import Derived.Test.YtejmojldfffbnabClash2
import Derived.Test.YtejmojldfffbnabGreatRows
import Derived.Test.YtejmojldfffbnabMSpeaks
import Derived.Test.YtejmojldfffbnabRowsArg
namespace Go.Proofs.Ytejmojldfffbnab
open Go.RowKit
set_option linter.unusedVariables false
set_option linter.unusedSimpArgs false

set_option maxHeartbeats 8000000 in
set_option maxRecDepth 100000 in
theorem mbound_out (rs : List (List UInt8)) (A : Option Addr) (n c : Nat) (a : Int) (Ar : Option Addr) (lr cr : Nat) (Ap : Option Addr) (m cp : Nat) (w : World) (hn : rs.length = n) (hc : n ≤ c) (hcm : c ≤ 9223372036854775807) (hlc : lr ≤ cr) (hcr : cr ≤ 9223372036854775807) (hmc : m ≤ cp) (hcp : cp ≤ 9223372036854775807) (hrs : RowsAt w w.heap.size A rs)
    (h : greatF rs = true ∨ 300 < lr ∨ 70 < m ∨ a < 0 ∨ (n : Int) ≤ a) :
    Calls Try.prog 6 #[.slice A n c, .int .i64 a, .slice Ar lr cr, .slice Ap m cp] w fun e w' => e = .returned (.bool true) ∧ Below w.heap.size w w' := by
  obtain ⟨G, hG⟩ : ∃ G, greatF rs = G := ⟨_, rfl⟩
  rw [hG] at h
  have HG := Lib.hid hG
  have Hn := Lib.hid hn
  have hd : G = true ∨ (G = false ∧ decide ((300 : Int) < (lr : Int)) = true) ∨ (G = false ∧ decide ((300 : Int) < (lr : Int)) = false ∧ decide ((70 : Int) < (m : Int)) = true) ∨ (G = false ∧ decide ((300 : Int) < (lr : Int)) = false ∧ decide ((70 : Int) < (m : Int)) = false ∧ decide (a < 0) = true) ∨ (G = false ∧ decide ((300 : Int) < (lr : Int)) = false ∧ decide ((70 : Int) < (m : Int)) = false ∧ decide (a < 0) = false ∧ decide ((n : Int) ≤ a) = true) := by
    cases G
    · simp only [decide_eq_true_eq, decide_eq_false_iff_not, Bool.false_eq_true, false_or, true_and] at h ⊢
      omega
    · exact .inl rfl
  clear h hG hn
  rcases hd with rfl | ⟨rfl, h1⟩ | ⟨rfl, h1, h2⟩ | ⟨rfl, h1, h2, h3⟩ | ⟨rfl, h1, h2, h3, h4⟩
  all_goals
    go_enter Try.func6, Try.ntmps6
    go_wp2_with fail
    refine Calls.mono (mspeaks_true w) ?_
    rintro e w1 ⟨rfl, hb1⟩
    have hr1 := hrs.below hb1 (Nat.le_refl _)
    go_wp2_with fail
    refine Calls.mono (great_any _ rs A n c w1 Hn.out hc hcm hr1) ?_
    rintro e w2 ⟨rfl, rfl⟩
    rw [HG.out]
    go_wp2_with fail
    go_ret
    exact ⟨rfl, hb1⟩

set_option maxHeartbeats 16000000 in
set_option maxRecDepth 100000 in
theorem mbound_in (rs : List (List UInt8)) (A : Option Addr) (n c a : Nat) (row : List UInt8) (ds : List (List UInt8)) (Ar : Option Addr) (lr cr : Nat) (Ap : Option Addr) (m cp : Nat) (w : World) (hn : rs.length = n) (hc : n ≤ c) (hcm : c ≤ 9223372036854775807) (hrs : RowsAt w w.heap.size A rs) (hG : greatF rs = false) (han : a < n)
    (hrl : row.length = lr) (hr0 : lr ≤ 300) (hlc : lr ≤ cr) (hcr : cr ≤ maxLen) (hbs : Bs w w.heap.size Ar row) (hds : ds.length = m) (hm70 : m ≤ 70) (hmc : m ≤ cp) (hcp : cp ≤ 9223372036854775807) (hdg : DigsAt w Ap ds) :
    Calls Try.prog 6 #[.slice A n c, .int .i64 (a : Nat), .slice Ar lr cr, .slice Ap m cp] w fun e w' => e = .returned (.bool true) ∧ Below w.heap.size w w' := by
  obtain ⟨hn60, hrl300⟩ := greatF_no hG
  have h1 : decide ((300 : Int) < (lr : Int)) = false := by simp; omega
  have h2 : decide ((70 : Int) < (m : Int)) = false := by simp; omega
  have h3 : decide ((a : Int) < 0) = false := by simp
  have h4 : decide (n ≤ a) = false := by simp; omega
  have hcr' := hcr
  unfold maxLen at hcr'
  obtain ⟨blk, off, rfl, hblk, hrow⟩ := hrs (by omega)
  obtain ⟨A0, c0, hcell, hlc0, hcm0, hb0⟩ := hrow a (by omega)
  have hl0 : (rs.getD a []).length ≤ 300 := hrl300 _ (by simp [List.getD, show a < rs.length by omega])
  obtain ⟨r0, hre⟩ : ∃ r, rs.getD a [] = r := ⟨_, rfl⟩
  rw [hre] at hcell hlc0 hb0 hl0
  obtain ⟨l0, hl⟩ : ∃ l, r0.length = l := ⟨_, rfl⟩
  rw [hl] at hcell hlc0 hl0
  have Hl0 := Lib.hid hl
  have Hre := Lib.hid hre
  obtain ⟨RL, hRL⟩ : ∃ V, V = Lib.byteCells (rootF rs) := ⟨_, rfl⟩
  have HRL := Lib.hid hRL
  obtain ⟨B, hBe⟩ : ∃ B, verF (rootF rs) (n : Int) (a : Int) row ds = B := ⟨_, rfl⟩
  have HBe := Lib.hid hBe
  have HG := Lib.hid hG
  have Hn := Lib.hid hn
  have Hrl := Lib.hid hrl
  have Hds := Lib.hid hds
  have Hr300 := Lib.hid hrl300
  have hn6 : n ≤ 1000000 := by omega
  have hnz : n ≤ 9223372036854775807 := by omega
  clear hn hrl hds hrl300 hG hre hl hRL hBe hrow hn60
  go_enter Try.func6, Try.ntmps6
  go_wp2_with fail
  refine Calls.mono (mspeaks_true w) ?_
  rintro e w1 ⟨rfl, hB1⟩
  go_wp2_with fail
  refine Calls.mono (great_any _ rs (some ⟨blk, off, none⟩) n c w1 Hn.out hc hcm (hrs.below hB1 (Nat.le_refl _))) ?_
  rintro e w2 ⟨rfl, rfl⟩
  rw [HG.out]
  go_wp2_with fail
  refine Calls.mono (root_at rs RL _ n c _ Hn.out HRL.out hn6 hc hcm Hr300.out ((hrs.below hB1 (Nat.le_refl _)).more hB1.size)) ?_
  rintro e w3 ⟨rfl, hb3⟩
  have hB3 := hB1.trans (hb3.mono hB1.size)
  have hV3 : VIn w3 (rootF rs) RL row ds Ar lr cr Ap m cp := ⟨rootF_length rs, HRL.out, Hrl.out, hr0, hlc, hcr, (hbs.below hB3 (Nat.le_refl _)).more hB3.size, Hds.out, hmc, hcp, hdg.below hB3⟩
  go_wp2_with fail
  refine Calls.mono (verify_at (n : Int) (a : Int) (by omega) _ RL row ds Ar lr cr Ap m cp B w3 hV3 HBe.out) ?_
  rintro e w4 ⟨rfl, hb4⟩
  have hB4 := hB3.trans (hb4.mono hB3.size)
  have hc4 : w4.cell? ⟨blk, off + a, none⟩ = some (.slice A0 l0 c0) := (hB4.cell (p := ⟨blk, off + a, none⟩) hblk).trans hcell
  have hia : (a : Int) < (n : Int) := by omega
  clear hb3 hb4 hV3 hcell
  cases B
  · go_wp2_with fail
    go_ret
    exact ⟨rfl, hB4⟩
  · obtain ⟨S, hS⟩ : ∃ S, decide (row = r0) = S := ⟨_, rfl⟩
    have HS := Lib.hid hS
    clear hS
    go_wp2_with fail
    refine Calls.mono (same_below Ar A0 cr c0 lr l0 row r0 w4 S ((hbs.below hB4 (Nat.le_refl _)).more hB4.size) ((hb0.below hB4 (Nat.le_refl _)).more hB4.size) Hrl.out Hl0.out (by unfold maxLen; omega) (by unfold maxLen; omega) HS.out) ?_
    rintro e w5 ⟨rfl, hb5⟩
    have hB5 := hB4.trans (hb5.mono hB4.size)
    clear hb5 hc4
    cases S
    · have hne := Lib.hid (show row ≠ rs.getD a [] by rw [Hre.out]; exact of_decide_eq_false HS.out)
      have hled := Lib.hid (show leadF n a row ds = (rootF rs, true) by
        have h := HBe.out
        rw [verF_in han, Bool.and_eq_true, decide_eq_true_eq] at h
        exact Prod.ext h.2 h.1)
      go_wp2_with fail
      refine Calls.mono (clash_all n hn6 (by omega) rs _ c a row ds Ar lr cr Ap m cp w5 Hn.out han hc hcm Hr300.out ((hrs.below hB5 (Nat.le_refl _)).more hB5.size) Hrl.out hr0 hlc hcr ((hbs.below hB5 (Nat.le_refl _)).more hB5.size) Hds.out hmc hcp (hdg.below hB5) hne.out hled.out) ?_
      rintro e w6 ⟨rfl, hb6⟩
      have hB6 := hB5.trans (hb6.mono hB5.size)
      go_wp2_with fail
      go_ret
      exact ⟨rfl, hB6⟩
    · go_wp2_with fail
      go_ret
      exact ⟨rfl, hB5⟩

theorem merkleBound_walk (A : Option Addr) (n c : Nat) (rs : List (List UInt8)) (hn : rs.length = n) (hc : n ≤ c) (hcm : c ≤ maxLen) (a : Int) (ha1 : -9223372036854775808 ≤ a) (ha2 : a ≤ 9223372036854775807) (Ar : Option Addr) (cr : Nat) (row : List UInt8) (hlc : row.length ≤ cr) (hcr : cr ≤ maxLen) (Ap : Option Addr) (m cp : Nat) (ds : List (List UInt8)) (hds : ds.length = m) (hmc : m ≤ cp) (hcp : cp ≤ maxLen) (w : World) (hrs : RowsAt w w.heap.size A rs) (hbs : Bs w w.heap.size Ar row) (hdg : DigsAt w Ap ds) :
    Calls Try.prog 6 #[.slice A n c, .int .i64 a, .slice Ar row.length cr, .slice Ap m cp] w fun e w' => e = .returned (.bool true) ∧ Below w.heap.size w w' := by
  have hcr' := hcr
  unfold maxLen at hcm hcp hcr'
  by_cases h : greatF rs = true ∨ 300 < row.length ∨ 70 < m ∨ a < 0 ∨ (n : Int) ≤ a
  · exact mbound_out rs A n c a Ar row.length cr Ap m cp w hn hc (by omega) hlc (by omega) hmc (by omega) hrs h
  · obtain ⟨j, rfl⟩ : ∃ j : Nat, a = (j : Nat) := ⟨a.toNat, by omega⟩
    have hG : greatF rs = false := by
      cases hg : greatF rs
      · rfl
      · exact absurd (.inl hg) h
    exact mbound_in rs A n c j row ds Ar row.length cr Ap m cp w hn hc (by omega) hrs hG (by omega) rfl (by omega) hlc hcr hbs hds (by omega) hmc (by omega) hdg

end Go.Proofs.Ytejmojldfffbnab

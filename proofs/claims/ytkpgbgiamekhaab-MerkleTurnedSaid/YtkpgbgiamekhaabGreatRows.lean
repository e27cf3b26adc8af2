/-
  great of merkle's law.
-/
import Derived.Test.YtkpgbgiamekhaabTagged
namespace Go.Proofs.Ytkpgbgiamekhaab
open Go.RowKit
set_option linter.unusedVariables false

def greatF (rs : List (List UInt8)) : Bool := decide (60 < rs.length) || rs.any fun r => decide (300 < r.length)
theorem greatF_no {rs : List (List UInt8)} (h : greatF rs = false) : rs.length ≤ 60 ∧ ∀ r ∈ rs, r.length ≤ 300 := by
  unfold greatF at h
  simp only [Bool.or_eq_false_iff, decide_eq_false_iff_not, List.any_eq_false, decide_eq_true_eq] at h
  exact ⟨by omega, fun r hr => by have := h.2 r hr; omega⟩
theorem greatF_many {rs : List (List UInt8)} (h : 60 < rs.length) : greatF rs = true := by unfold greatF; rw [decide_eq_true h, Bool.true_or]
theorem greatF_long {rs : List (List UInt8)} {k : Nat} (hk : k < rs.length) (h : 300 < (rs.getD k []).length) : greatF rs = true := by
  unfold greatF
  rw [Bool.or_eq_true]
  refine .inr (List.any_eq_true.2 ⟨rs.getD k [], by simp [List.getD, hk], decide_eq_true h⟩)
theorem greatF_none {rs : List (List UInt8)} (h : rs.length ≤ 60) (hr : ∀ k, k < rs.length → (rs.getD k []).length ≤ 300) : greatF rs = false := by
  unfold greatF
  rw [Bool.or_eq_false_iff]
  refine ⟨decide_eq_false (by omega), List.any_eq_false.2 fun r hm => ?_⟩
  obtain ⟨k, hk, rfl⟩ := List.getElem_of_mem hm
  have := hr k hk
  simp [List.getD, hk] at this
  simp
  omega

set_option maxHeartbeats 4000000 in
theorem great_any (B : Nat) (rs : List (List UInt8)) (A : Option Addr) (n c : Nat) (w : World) (hn : rs.length = n) (hc : n ≤ c) (hm : c ≤ 9223372036854775807) (hrs : RowsAt w B A rs) :
    Calls Try.prog 12 #[.slice A n c] w fun e w' => e = .returned (.bool (greatF rs)) ∧ w' = w := by
  by_cases h60 : 60 < n
  · have hd : decide ((60 : Int) < (n : Int)) = true := by simp; omega
    have hg := Lib.hid (greatF_many (rs := rs) (by omega))
    have Hn := Lib.hid hn
    clear hn
    go_enter Try.func12, Try.ntmps12
    go_wp2
    go_ret
    exact ⟨by rw [hg.out]; rfl, rfl⟩
  · have hd : decide ((60 : Int) < (n : Int)) = false := by simp; omega
    have Hn := Lib.hid hn
    clear hn
    go_enter Try.func12, Try.ntmps12
    go_wp2
    go_loop [10] (fun i => ∃ k : Nat, k ≤ n ∧ i = .int .i64 k ∧ Hid (∀ j, j < k → (rs.getD j []).length ≤ 300)) (fun i => n - (intOf i).toNat)
    case atStart => exact ⟨0, Nat.zero_le _, rfl, fun j hj => by omega⟩
    case round =>
      obtain ⟨k, hk, rfl, Hr⟩ := hrel
      by_cases hlt : k < n
      · have hkr : k < rs.length := by rw [Hn.out]; exact hlt
        obtain ⟨blk, off, rfl, hblk, hrow⟩ := hrs (by omega)
        obtain ⟨A', c', hcell, hlc, hcm, hbs⟩ := hrow k hkr
        obtain ⟨l, hl⟩ : ∃ l, (rs.getD k []).length = l := ⟨_, rfl⟩
        rw [hl] at hcell hlc
        have Hl := Lib.hid hl
        clear hl hrow hbs
        by_cases hlong : 300 < l
        · have hd2 : decide ((300 : Int) < (l : Int)) = true := by simp; omega
          have hg := Lib.hid (greatF_long hkr (by rw [Hl.out]; exact hlong))
          go_wp2
          go_ret
          exact ⟨by rw [hg.out]; rfl, rfl⟩
        · have hd2 : decide ((300 : Int) < (l : Int)) = false := by simp; omega
          have Hr' := Lib.hid (show ∀ j, j < k + 1 → (rs.getD j []).length ≤ 300 from fun j hj => by
            by_cases e : j = k
            · subst e; rw [Hl.out]; omega
            · exact Hr.out j (by omega))
          go_wp2
          go_round
          case rel => exact ⟨k + 1, by omega, by go_num, Hr'.out⟩
          case measure => simp [intOf]; omega
      · have hg := Lib.hid (greatF_none (rs := rs) (by rw [Hn.out]; omega) (fun j hj => Hr.out j (by rw [Hn.out] at hj; omega)))
        go_wp2
        go_ret
        exact ⟨by rw [hg.out]; rfl, rfl⟩

end Go.Proofs.Ytkpgbgiamekhaab

/-
  The walk of ShaSums.
-/
import Derived.Test.YtggefcelcjhgeaaShaAt
import Derived.Test.YtggefcelcjhgeaaRowsArg
import Derived.Test.YtggefcelcjhgeaaShaSpeaks
namespace Go.Proofs.Ytggefcelcjhgeaa
open Go.RowKit
set_option linter.unusedVariables false

set_option maxHeartbeats 8000000 in
set_option maxRecDepth 100000 in
theorem sums_walk (A : Option Addr) (c : Nat) (l : List UInt8) (hc : l.length ≤ c) (hm : c ≤ maxLen) (u : Nat) (hu : u < 256) (A2 : Option Addr) (n2 c2 : Nat) (rs : List (List UInt8)) (hn2 : rs.length = n2) (hc2 : n2 ≤ c2) (hm2 : c2 ≤ maxLen) (w : World) (hb : Bs w w.heap.size A l) (hr : RowsAt w w.heap.size A2 rs) :
    Calls Try.prog 7 #[.slice A l.length c, .int .u8 (u : Nat), .slice A2 n2 c2] w fun e w' => e = .returned (.bool true) ∧ Below w.heap.size w w' := by
  obtain ⟨i0, hi, hz0, hz1, hz2⟩ := info_parts byteInfo
  obtain ⟨n, hn⟩ : ∃ n, l.length = n := ⟨_, rfl⟩
  rw [hn] at hc ⊢
  have Hn := Lib.hid hn
  have Hn2 := Lib.hid hn2
  clear hn hn2
  have hnm : n ≤ 9223372036854775807 := by unfold maxLen at hm; omega
  have hnm2 : n2 ≤ 9223372036854775807 := by unfold maxLen at hm2; omega
  go_enter Try.func7, Try.ntmps7
  go_wp2_with fail
  refine Calls.mono (shaSpeaks_true _) ?_
  rintro e w1 ⟨rfl, hb1⟩
  have hs1 := hb1.size
  by_cases h1000 : 1000 < n
  · have hd0 : decide (1000 < (n : Int)) = true := by simp; omega
    go_wp2
    go_ret
    exact ⟨rfl, hb1⟩
  · have hd0 : decide (1000 < (n : Int)) = false := by simp; omega
    by_cases h20 : 20 < n2
    · have hd1 : decide (20 < (n2 : Int)) = true := by simp; omega
      go_wp2
      go_ret
      exact ⟨rfl, hb1⟩
    · have hd1 : decide (20 < (n2 : Int)) = false := by simp; omega
      go_wp2_with fail
      clear hd0 hd1
      go_loopw [21] (fun i wr => ∃ k : Nat, k ≤ n2 ∧ i = .int .i64 k ∧ (∀ j, j < k → (rs.getD j []).length ≤ 300) ∧ wr = w1) (fun i _ => n2 - (intOf i).toNat)
      case atStart => exact ⟨0, by omega, rfl, fun j hj => absurd hj (by omega), rfl⟩
      case round =>
        obtain ⟨k, hk, rfl, hall, rfl⟩ := hrel
        have hrr : RowsAt wr w.heap.size A2 rs := hr.below hb1 (Nat.le_refl _)
        have Hall := Lib.hid hall
        clear hall
        by_cases hlt : k < n2
        · obtain ⟨blk, off, rfl, hblk, hrow⟩ := hrr (by rw [Hn2.out]; omega)
          obtain ⟨A', c', hcell, hlc, hcm2, hbs⟩ := hrow k (by rw [Hn2.out]; exact hlt)
          obtain ⟨m, hm'⟩ : ∃ m, (rs.getD k []).length = m := ⟨_, rfl⟩
          rw [hm'] at hcell hlc
          have Hm := Lib.hid hm'
          have hki : (k : Int) < (n2 : Int) := by omega
          have hd1 : decide ((k : Int) < (n2 : Int)) = true := by simp; omega
          clear hm' hrow hbs
          by_cases h300 : 300 < m
          · have hd2 : decide (300 < (m : Int)) = true := by simp; omega
            go_wp2
            go_ret
            exact ⟨rfl, hb1⟩
          · have hd2 : decide (300 < (m : Int)) = false := by simp; omega
            go_wp2_with fail
            go_roundw
            case rel =>
              refine ⟨k + 1, by omega, by go_num, fun j hj => ?_, (by first | rfl | trivial)⟩
              by_cases hjk : j < k
              · exact Hall.out j hjk
              · obtain rfl : j = k := by omega
                rw [Hm.out]; omega
            case measure => simp [intOf]; omega
        · obtain rfl : k = n2 := by omega
          have hd1 : decide ((k : Int) < (k : Int)) = false := by simp
          have hal : ∀ r ∈ rs, r.length ≤ 300 := fun r hr => by
            obtain ⟨j, hj, e⟩ := List.mem_iff_getElem.1 hr
            have := Hall.out j (by rw [← Hn2.out]; exact hj)
            rw [← List.getElem_eq_getD (h := hj) []] at this
            rw [← e]; exact this
          obtain ⟨use, huse⟩ : ∃ use : UInt8, use.toNat = u := ⟨u.toUInt8, by simp; omega⟩
          have htb := tagF_bound use rs hal
          rw [Hn2.out] at htb
          obtain ⟨SL, hSL⟩ : ∃ V, V = Lib.byteCells (shaF l) := ⟨_, rfl⟩
          obtain ⟨TL, hTL⟩ : ∃ V, V = Lib.byteCells (shaF (tagF use rs)) := ⟨_, rfl⟩
          have heqSS := fun w => eqv_at Try.underlying39 (shaF l) (shaF l) (shaF_length l) (shaF_length l) SL SL hSL hSL w
          have heqTT := fun w => eqv_at Try.underlying39 (shaF (tagF use rs)) (shaF (tagF use rs)) (shaF_length _) (shaF_length _) TL TL hTL hTL w
          rw [decide_eq_true rfl] at heqSS heqTT
          have hgt2 := gt32
          have HSL := Lib.hid hSL
          have HTL := Lib.hid hTL
          have Huse := Lib.hid huse
          have hbw : Bs wr w.heap.size A l := hb.below hb1 (Nat.le_refl _)
          have hown0 : Owns (wr.alloc (.cells #[] 5)) wr.heap.size 5 (.slice (some ⟨wr.heap.size, 0, none⟩) 0 0) [] :=
            Owns.of_row (l := []) (cur := []) (Nat.le_refl _) (Nat.le_refl _) (by unfold maxLen; omega) (heap_alloc_new wr _) rfl rfl
          have hba : Below wr.heap.size wr (wr.alloc (.cells #[] 5)) := (Below.refl _ wr).alloc (Nat.le_refl _) _
          have hbs0 : Bs (wr.alloc (.cells #[] 5)) w.heap.size A l := hbw.below hba hs1
          clear hSL hTL huse hal Hall
          go_wp2_with (at_builtin; (refine wpList_append_bs rfl _ _ 25 rfl wr.heap.size 5 i0 (.int .u8 0) Try.underlying25 hi hz0 hz1 hz2 rfl (.slice (some ⟨wr.heap.size, 0, none⟩) 0 0) [] rfl hown0 w.heap.size A n c l rfl Hn.out hbs0 (by simp; omega) (by simp) ?_; intro v2 w2 hown2 hgr2; rw [List.nil_append] at hown2))
          obtain ⟨A3, c3, rfl, h31, h32, hbs3⟩ := hown2.slice
          have hlt2 := hown2.lt
          rw [Hn.out] at h31
          have hb2 : Below wr.heap.size wr w2 := hba.trans (hgr2.below (by simp) (fun j hj => by simp [Value.ownBlock] at hj; omega))
          have hz2s := hb2.size
          rw [Hn.out]
          refine Calls.mono (sum_at l SL A3 c3 n w2 HSL.out Hn.out (hbs3) h31 h32 (by omega)) ?_
          rintro e w3 ⟨rfl, hb3⟩
          have hz3s := hb3.size
          go_wp2_with fail
          refine Calls.mono (rsum_at l SL A c n w3 HSL.out Hn.out (((hbw.below hb2 hs1).below hb3 (by omega)).more (by omega)) hc (by omega)) ?_
          rintro e w4 ⟨rfl, hb4⟩
          have hz4s := hb4.size
          have hr4 : RowsAt w4 w.heap.size A2 rs := ((hrr.below hb2 hs1).below hb3 (by omega)).below hb4 (by omega)
          go_wp2_with fail
          refine Calls.mono (tag_at use u rs TL A2 k c2 w4 Huse.out HTL.out Hn2.out (by omega) (hr4.more (by omega)) (by omega)) ?_
          rintro e w5 ⟨rfl, hb5⟩
          have hz5s := hb5.size
          go_wp2_with fail
          refine Calls.mono (rtag_at use u rs TL A2 k c2 w5 Huse.out HTL.out Hn2.out (by omega) ((hr4.below hb5 (by omega)).more (by omega)) (by omega)) ?_
          rintro e w6 ⟨rfl, hb6⟩
          go_wp2_with fail
          exact bodyPost_ret (v := .bool true) (by simp [results, Try.f7]) rfl ⟨rfl, ((((hb1.trans (hb2.mono hs1)).trans (hb3.mono (by omega))).trans (hb4.mono (by omega))).trans (hb5.mono (by omega))).trans (hb6.mono (by omega))⟩

end Go.Proofs.Ytggefcelcjhgeaa

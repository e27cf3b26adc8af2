/-
  The law AuditFork.
-/
import Derived.Test.YtlfddijmanlneaaTagged
import Derived.Test.YtlfddijmanlneaaAuChkAll
import Derived.Test.YtlfddijmanlneaaRowsArg
import Derived.Test.YtlfddijmanlneaaSame
namespace Go.Proofs.Ytlfddijmanlneaa
open Go.RowKit
set_option linter.unusedVariables false

def greatA (rs : List (List UInt8)) : Bool := decide (40 < rs.length) || rs.any fun r => decide (3000 < r.length)
theorem greatA_no {rs : List (List UInt8)} (h : greatA rs = false) : rs.length ≤ 40 ∧ ∀ r ∈ rs, r.length ≤ 3000 := by
  unfold greatA at h
  simp only [Bool.or_eq_false_iff, decide_eq_false_iff_not, List.any_eq_false, decide_eq_true_eq] at h
  exact ⟨by omega, fun r hr => by have := h.2 r hr; omega⟩
theorem greatA_many {rs : List (List UInt8)} (h : 40 < rs.length) : greatA rs = true := by unfold greatA; rw [decide_eq_true h, Bool.true_or]
theorem greatA_long {rs : List (List UInt8)} {k : Nat} (hk : k < rs.length) (h : 3000 < (rs.getD k []).length) : greatA rs = true := by
  unfold greatA
  rw [Bool.or_eq_true]
  refine .inr (List.any_eq_true.2 ⟨rs.getD k [], by simp [List.getD, hk], decide_eq_true h⟩)
theorem greatA_none {rs : List (List UInt8)} (h : rs.length ≤ 40) (hr : ∀ k, k < rs.length → (rs.getD k []).length ≤ 3000) : greatA rs = false := by
  unfold greatA
  rw [Bool.or_eq_false_iff]
  refine ⟨decide_eq_false (by omega), List.any_eq_false.2 fun r hm => ?_⟩
  obtain ⟨k, hk, rfl⟩ := List.getElem_of_mem hm
  have := hr k hk
  simp [List.getD, hk] at this
  simp
  omega

set_option maxHeartbeats 4000000 in
theorem greatA_any (B : Nat) (rs : List (List UInt8)) (A : Option Addr) (n c : Nat) (w : World) (hn : rs.length = n) (hc : n ≤ c) (hm : c ≤ 9223372036854775807) (hrs : RowsAt w B A rs) :
    Calls Try.prog 19 #[.slice A n c] w fun e w' => e = .returned (.bool (greatA rs)) ∧ w' = w := by
  by_cases h70 : 40 < n
  · have hd : decide ((40 : Int) < (n : Int)) = true := by simp; omega
    have hg := Lib.hid (greatA_many (rs := rs) (by omega))
    have Hn := Lib.hid hn
    clear hn
    go_enter Try.func19, Try.ntmps19
    go_wp2
    go_ret
    exact ⟨by rw [hg.out]; rfl, rfl⟩
  · have hd : decide ((40 : Int) < (n : Int)) = false := by simp; omega
    have Hn := Lib.hid hn
    clear hn
    go_enter Try.func19, Try.ntmps19
    go_wp2
    go_loop [10] (fun i => ∃ k : Nat, k ≤ n ∧ i = .int .i64 k ∧ Hid (∀ j, j < k → (rs.getD j []).length ≤ 3000)) (fun i => n - (intOf i).toNat)
    case atStart => exact ⟨0, Nat.zero_le _, rfl, fun j hj => by omega⟩
    case round =>
      obtain ⟨k, hk, rfl, Hr⟩ := hrel
      by_cases hlt : k < n
      · have hkr : k < rs.length := by rw [Hn.out]; exact hlt
        obtain ⟨blk, off, rfl, hblk, hrow⟩ := hrs (by omega)
        obtain ⟨A', c', hcell, hlc, hcm, hbs⟩ := hrow k hkr
        obtain ⟨l, hl⟩ : ∃ l, (rs.getD k []).length = l := ⟨_, rfl⟩
        rw [hl] at hcell hlc
        have Hl := Lib.hid hl
        clear hl hrow hbs
        by_cases hlong : 3000 < l
        · have hd2 : decide ((3000 : Int) < (l : Int)) = true := by simp; omega
          have hg := Lib.hid (greatA_long hkr (by rw [Hl.out]; exact hlong))
          go_wp2
          go_ret
          exact ⟨by rw [hg.out]; rfl, rfl⟩
        · have hd2 : decide ((3000 : Int) < (l : Int)) = false := by simp; omega
          have Hr' := Lib.hid (show ∀ j, j < k + 1 → (rs.getD j []).length ≤ 3000 from fun j hj => by
            by_cases e : j = k
            · subst e; rw [Hl.out]; omega
            · exact Hr.out j (by omega))
          go_wp2
          go_round
          case rel => exact ⟨k + 1, by omega, by go_num, Hr'.out⟩
          case measure => simp [intOf]; omega
      · have hg := Lib.hid (greatA_none (rs := rs) (by rw [Hn.out]; omega) (fun j hj => Hr.out j (by rw [Hn.out] at hj; omega)))
        go_wp2
        go_ret
        exact ⟨by rw [hg.out]; rfl, rfl⟩

end Go.Proofs.Ytlfddijmanlneaa

namespace Go.Proofs.Ytlfddijmanlneaa
open Go.RowKit Go.Shelf
set_option linter.unusedVariables false
set_option linter.unusedSimpArgs false

/-- What a Check answers, ra a row of cells and a number. -/
theorem chk_parts {ep : Nat} {root : List UInt8} {bs : List (List UInt8)} {w W' : World} {e : Ending} (h : ChkPost ep root bs w e W') : ∃ (SL : List Value) (k : Int), e = .returned (.tuple #[.agg SL.toArray, .int .i64 k]) ∧ SL.length = 3 ∧ SL.toArray.all (·.oneCell') = true ∧ ((k = 0 ∧ ∃ cs, ToldP ep root bs cs) ∨ k = 3) ∧ Below w.heap.size w W' := by
  obtain ⟨hb, ⟨cs, vs, ve, B, h1, rfl, _, h2, h3⟩ | ⟨h1, rfl⟩⟩ := h
  · refine ⟨[.int .u64 ep, vs, ve], 0, rfl, rfl, ?_, .inl ⟨rfl, cs, h1⟩, hb⟩
    obtain ⟨A1, c1, rfl, _⟩ := h2.slice
    obtain ⟨A2, c2, rfl, _⟩ := h3.sliceA
    rw [List.all_toArray, List.all_eq_true]
    intro v hv
    simp only [List.mem_cons, List.not_mem_nil, or_false] at hv
    rcases hv with rfl | rfl | rfl <;> rfl
  · refine ⟨stZ, 3, rfl, rfl, ?_, .inr rfl, hb⟩
    rw [List.all_toArray, List.all_eq_true]
    intro v hv
    simp only [stZ, List.mem_cons, List.not_mem_nil, or_false] at hv
    rcases hv with rfl | rfl | rfl <;> rfl
theorem RowsAt.at_ {w : World} {B : Nat} {A : Option Addr} {rs : List (List UInt8)} (h : RowsAt w B A rs) {i : Nat} (hi : i < rs.length) : ∃ b o A' c x, A = some ⟨b, o, none⟩ ∧ b < B ∧ rs.getD i [] = x ∧ x ∈ rs ∧ w.cell? ⟨b, o + i, none⟩ = some (.slice A' x.length c) ∧ x.length ≤ c ∧ c ≤ maxLen ∧ Bs w B A' x := by
  obtain ⟨b, o, e, hb, hc⟩ := h (by omega)
  obtain ⟨A', c, q1, q2, q3, q4⟩ := hc i hi
  have hx : rs.getD i [] = rs[i] := by rw [List.getD_eq_getElem?_getD, List.getElem?_eq_getElem hi]; rfl
  exact ⟨b, o, A', c, rs.getD i [], e, hb, rfl, by rw [hx]; exact List.getElem_mem hi, q1, q2, q3, q4⟩
theorem storySize {SL : List Value} (h : SL.length = 3) : (Try.prog.info? 50).map (·.size) = some SL.toArray.size ∧ stZ.toArray.size = SL.toArray.size := by
  refine ⟨?_, by rw [List.size_toArray, List.size_toArray, h]; rfl⟩
  rw [List.size_toArray, h]
  kernel_rfl

set_option maxHeartbeats 16000000 in
set_option maxRecDepth 100000 in
theorem afork_walk (ep : Nat) (hep : ep < 18446744073709551616) (root : List UInt8) (hr : root.length = 32) (RL : List Value) (hRL : RL = Lib.byteCells root) (ra bs : List (List UInt8)) (Aa Ab : Option Addr) (na ca nb cb : Nat) (hna : ra.length = na) (hca : na ≤ ca) (hma : ca ≤ maxLen) (hnb : bs.length = nb) (hcb : nb ≤ cb) (hmb : cb ≤ maxLen) (w : World) (ha : RowsAt w w.heap.size Aa ra) (hb : RowsAt w w.heap.size Ab bs) :
    Calls Try.prog 6 #[.int .u64 ep, .agg RL.toArray, .slice Aa na ca, .slice Ab nb cb] w fun e w' => e = .returned (.bool true) ∧ Below w.heap.size w w' := by
  have hma' : ca ≤ 9223372036854775807 := by unfold maxLen at hma; exact hma
  have hmb' : cb ≤ 9223372036854775807 := by unfold maxLen at hmb; exact hmb
  have hRl : RL.length = 32 := by rw [hRL, Lib.byteCells_length, hr]
  have Hki := Lib.hid (show (Try.prog.info? 24).map (·.size) = some RL.toArray.size by rw [List.size_toArray, hRl]; exact digInfo)
  have HR1 := Lib.hid (show RL.toArray.all (·.oneCell') = true by rw [hRL]; exact dig_one _)
  have Hrr := Lib.hid (show root.length = 32 ∧ RL = Lib.byteCells root from ⟨hr, hRL⟩)
  have Hna := Lib.hid hna
  have Hnb := Lib.hid hnb
  have Hm := Lib.hid (show ca ≤ maxLen ∧ cb ≤ maxLen from ⟨hma, hmb⟩)
  obtain ⟨W0, hW0⟩ : ∃ z, z = w.alloc (.cells RL.toArray 24) := ⟨_, rfl⟩
  have hA0 : Arr W0 w.heap.size 24 RL := by rw [hW0]; exact Arr.new w _ _
  have hB0 : Below w.heap.size w W0 := by rw [hW0]; exact (Below.refl _ w).alloc (Nat.le_refl _) _
  have HW0 := Lib.hid hW0
  have Ha := Lib.hid ha
  have Hb := Lib.hid hb
  clear hW0 hma hmb hRL hr hna hnb hRl ha hb
  go_enter Try.func6, Try.ntmps6
  go_wp2_with fail
  change Calls _ _ _ (w.alloc (.cells RL.toArray 24)) _
  rw [← HW0.out]
  refine Calls.mono (speaks17_any _) ?_
  rintro e w1 ⟨rfl, hb1⟩
  have hB1 := hB0.trans (hb1.mono hB0.size)
  have hA1 := hA0.up hb1
  go_wp2_with fail
  refine Calls.mono (greatA_any w.heap.size ra Aa na ca w1 Hna.out hca hma' (Ha.out.below hB1 (Nat.le_refl _))) ?_
  rintro e w2 ⟨rfl, rfl⟩
  cases hga : greatA ra with
  | true =>
    clear hb1 hA1 hA0 hB0
    go_wp2_with fail
    go_ret
    exact ⟨rfl, hB1⟩
  | false =>
  go_wp2_with fail
  refine Calls.mono (greatA_any w.heap.size bs Ab nb cb w2 Hnb.out hcb hmb' (Hb.out.below hB1 (Nat.le_refl _))) ?_
  rintro e w1 ⟨rfl, rfl⟩
  cases hgb : greatA bs with
  | true =>
    clear hb1 hA1 hA0 hB0
    go_wp2_with fail
    go_ret
    exact ⟨rfl, hB1⟩
  | false =>
  obtain ⟨ha40, ha3⟩ := greatA_no hga
  obtain ⟨hb40, hb3⟩ := greatA_no hgb
  have Hla := Lib.hid ha3
  have Hlb := Lib.hid hb3
  have H40 := Lib.hid (show ra.length ≤ 40 ∧ bs.length ≤ 40 from ⟨ha40, hb40⟩)
  clear hga hgb ha40 hb40 ha3 hb3 hb1 hA0 hB0
  obtain ⟨g0, hg0⟩ : ∃ z, z = w.heap.size := ⟨_, rfl⟩
  have hA1' : w1.heap[w.heap.size]? = some (.cells RL.toArray 24 (0, 0)) := hA1
  have Hs1 := Lib.hid hB1.size
  go_wp2_with (first | ((with_reducible refine wpList_atA 24 (by rfl) ?_); refine wpList_load_row rfl _ _ rfl w.heap.size rfl 24 RL.toArray (0, 0) _ hA1' Try.underlying24 rfl Hki.out ?_))
  refine Calls.mono (check_any ep hep root Hrr.out.1 RL Hrr.out.2 ra H40.out.1 Aa na ca Hna.out hca Hm.out.1 Hla.out w1 ((Ha.out.below hB1 (Nat.le_refl _)).more hB1.size)) ?_
  intro e w3 hp
  obtain ⟨S1, k1, rfl, hS1l, hS1o, hk1, hb3⟩ := chk_parts hp
  clear hp
  have HS1 := Lib.hid (storySize hS1l)
  obtain ⟨w4, hw4⟩ : ∃ z, z = (w3.alloc (.cells stZ.toArray 50)).setRow w3.heap.size S1.toArray := ⟨_, rfl⟩
  obtain ⟨hR4, hb4⟩ := alloc_row w3 50 stZ.toArray S1
  rw [← hw4] at hR4 hb4
  have HW4 := Lib.hid hw4
  have HB4 := Lib.hid (show Below w.heap.size w w4 from (hB1.trans (hb3.mono hB1.size)).trans (hb4.mono (Nat.le_trans hB1.size hb3.size)))
  have hA4 : w4.heap[w.heap.size]? = some (.cells RL.toArray 24 (0, 0)) := (hA1.up hb3).up hb4
  have hk1' : k1 = 0 ∨ k1 = 3 := by rcases hk1 with ⟨h, _⟩ | h; exact .inl h; exact .inr h
  have Hk1 := Lib.hid hk1
  clear hw4 hb3 hb4 hR4 hA1 hA1' hB1 hk1
  go_upto_region 6 with (change wpList _ _ _ _ _ (w3.alloc (.cells stZ.toArray 50)); refine wpList_store_row rfl _ _ _ rfl w3.heap.size S1.toArray rfl rfl 50 stZ.toArray (heap_alloc_new w3 _) HS1.out.1 HS1.out.2 hS1o ?_; rw [← HW4.out])
  have hk1i : -9223372036854775808 ≤ k1 ∧ k1 ≤ 9223372036854775807 := by rcases hk1' with rfl | rfl <;> omega
  go_wp2_with (first | ((with_reducible refine wpList_atA 31 (by rfl) ?_); refine wpList_load_row rfl _ _ rfl w.heap.size rfl 24 RL.toArray (0, 0) _ hA4 Try.underlying24 rfl Hki.out ?_))
  refine Calls.mono (check_any ep hep root Hrr.out.1 RL Hrr.out.2 bs H40.out.2 Ab nb cb Hnb.out hcb Hm.out.2 Hlb.out w4 ((Hb.out.below HB4.out (Nat.le_refl _)).more HB4.out.size)) ?_
  intro e w5 hp
  obtain ⟨S2, k2, rfl, hS2l, hS2o, hk2, hb5⟩ := chk_parts hp
  clear hp
  have HS2 := Lib.hid (storySize hS2l)
  obtain ⟨w6, hw6⟩ : ∃ z, z = (w5.alloc (.cells stZ.toArray 50)).setRow w5.heap.size S2.toArray := ⟨_, rfl⟩
  obtain ⟨hR6, hb6⟩ := alloc_row w5 50 stZ.toArray S2
  rw [← hw6] at hR6 hb6
  have HW6 := Lib.hid hw6
  have HB6 := Lib.hid (show Below w.heap.size w w6 from (HB4.out.trans (hb5.mono HB4.out.size)).trans (hb6.mono (Nat.le_trans HB4.out.size hb5.size)))
  have hk2' : k2 = 0 ∨ k2 = 3 := by rcases hk2 with ⟨h, _⟩ | h; exact .inl h; exact .inr h
  have Hk2 := Lib.hid hk2
  clear hw6 hb5 hb6 hR6 hA4 hk2
  go_upto_region 7 with (change wpList _ _ _ _ _ (w5.alloc (.cells stZ.toArray 50)); refine wpList_store_row rfl _ _ _ rfl w5.heap.size S2.toArray rfl rfl 50 stZ.toArray (heap_alloc_new w5 _) HS2.out.1 HS2.out.2 hS2o ?_; rw [← HW6.out])
  by_cases hk0 : k1 = 3 ∨ k2 = 3
  · have q0 : ((0 : Int) != 0) = false := by simp
    have q3 : ((3 : Int) != 0) = true := by simp
    clear hk1i Hk1 Hk2
    rcases hk1' with rfl | rfl
    · obtain rfl : k2 = 3 := by rcases hk0 with h | h; exact absurd h (by omega); exact h
      clear hk0 hk2'
      go_wp2_with fail
      go_ret
      exact ⟨rfl, HB6.out⟩
    · clear hk0
      rcases hk2' with rfl | rfl
      all_goals
        go_wp2_with fail
        go_ret
        exact ⟨rfl, HB6.out⟩
  obtain rfl : k1 = 0 := by omega
  obtain rfl : k2 = 0 := by omega
  clear hk0 hk1' hk2' hk1i
  obtain ⟨cs, hcs⟩ : ∃ cs, ToldP ep root ra cs := by rcases Hk1.out with ⟨_, h⟩ | h; exact h; omega
  obtain ⟨ds, hds⟩ : ∃ cs, ToldP ep root bs cs := by rcases Hk2.out with ⟨_, h⟩ | h; exact h; omega
  obtain rfl : na = nb := by rw [← Hna.out, ← Hnb.out, hcs.1, hds.1]
  have Hfk := Lib.hid (fun (i : Nat) (h1 : i < ra.length) (h2 : i < bs.length) h => chain_fork i hcs.2.1 hds.2.1 h1 h2 h)
  clear hcs hds cs ds Hk1 Hk2
  have q0 : ((0 : Int) != 0) = false := by simp
  have q1 : ((na : Int) != (na : Int)) = false := by simp
  obtain ⟨Ra, hRa⟩ : ∃ z, z = Ha.out.below HB6.out (Nat.le_refl _) := ⟨_, rfl⟩
  clear hRa
  obtain ⟨Rb, hRb⟩ : ∃ z, z = Hb.out.below HB6.out (Nat.le_refl _) := ⟨_, rfl⟩
  clear hRb
  have Hra := Lib.hid Ra
  have Hrb := Lib.hid Rb
  clear Ra Rb
  have HBs := Lib.hid (Below.refl w6.heap.size w6)
  go_wp2_with fail
  go_loopw [49] (fun p wr => ∃ i : Nat, i ≤ na ∧ p = .int .i64 i ∧ (∀ j, j < i → ra.getD j [] = bs.getD j []) ∧ Below w6.heap.size w6 wr) (fun p _ => na - (intOf p).toNat)
  case atStart => exact ⟨0, Nat.zero_le _, rfl, (fun j hj => absurd hj (Nat.not_lt_zero _)), HBs.out⟩
  case round =>
    obtain ⟨i, hi, rfl, hall, hbw⟩ := hrel
    by_cases hlt : i < na
    · have hia : i < ra.length := by rw [Hna.out]; exact hlt
      have hib : i < bs.length := by rw [Hnb.out]; exact hlt
      have HBw := Lib.hid (HB6.out.trans (hbw.mono HB6.out.size))
      obtain ⟨ba, oa, A1, c1, x, rfl, hba, hx, hxm, hxc, hx1, hx2, hxb⟩ := (Hra.out.below hbw HB6.out.size).at_ hia
      obtain ⟨bb, ob, A2, c2, y, rfl, hbb, hy, hym, hyc, hy1, hy2, hyb⟩ := (Hrb.out.below hbw HB6.out.size).at_ hib
      have Hx := Lib.hid hx
      have Hy := Lib.hid hy
      have hx3 : x.length ≤ 3000 := Hla.out x hxm
      have hy3 : y.length ≤ 3000 := Hlb.out y hym
      have hdg := Lib.hid (show blobDig x = blobDig y from by
        have h := Hfk.out i hia hib hall
        rw [hx, hy] at h
        exact h)
      have Hall := Lib.hid hall
      have Hbw := Lib.hid hbw
      have hws := hbw.size
      have hw6 := HB6.out.size
      obtain ⟨nx, hnx⟩ : ∃ z, z = x.length := ⟨_, rfl⟩
      obtain ⟨ny, hny⟩ : ∃ z, z = y.length := ⟨_, rfl⟩
      have HSm := Lib.hid (fun wz : World => same_any w.heap.size w.heap.size A1 A2 c1 c2 x y wz)
      rw [← hnx] at hxc hx1 hx3 HSm
      rw [← hny] at hyc hy1 hy3 HSm
      have Hnx := Lib.hid hnx
      have Hny := Lib.hid hny
      have hi1 : (i : Int) < (na : Int) := by omega
      have hm1 : c1 ≤ 9223372036854775807 := by unfold maxLen at hx2; exact hx2
      have hm2 : c2 ≤ 9223372036854775807 := by unfold maxLen at hy2; exact hy2
      have Hc := Lib.hid (show c1 ≤ maxLen ∧ c2 ≤ maxLen from ⟨hx2, hy2⟩)
      have Hbx := Lib.hid hxb
      have Hby := Lib.hid hyb
      clear hx hy hxm hym hall hbw hnx hny hx2 hy2 hxb hyb
      go_wp2_with fail
      have hxc' : wr.drew.cell? ⟨ba, oa + i, none⟩ = some (.slice A1 nx c1) := hxc
      have hyc' : wr.drew.cell? ⟨bb, ob + i, none⟩ = some (.slice A2 ny c2) := hyc
      refine wp_region_held_drew (S := fun w' => w'.cell? ⟨ba, oa + i, none⟩ = some (.slice A1 nx c1) ∧ w'.cell? ⟨bb, ob + i, none⟩ = some (.slice A2 ny c2)) (by kernel_rfl) ⟨hxc', hyc'⟩ (fun hHeld => ?_)
      refine anyH_take (i := 0) (v := .slice (some ⟨ba, oa, none⟩) na ca) (some 52) rfl rfl (by kernel_rfl) (by kernel_rfl) (by kernel_rfl) (fun _ _ _ h => h) (Or.inl ⟨by rfl, fun w' hw => by rfl⟩) (by assumption) ?_
      simp only [Act.put, List.setIfInBounds_toArray, List.set_cons_zero, List.set_cons_succ]
      refine anyH_take (i := 1) (v := .int .i64 (i : Nat)) (some 53) rfl rfl (by kernel_rfl) (by kernel_rfl) (by kernel_rfl) (fun _ _ _ h => h) (Or.inl ⟨by rfl, fun w' hw => by rfl⟩) (by assumption) ?_
      simp only [Act.put, List.setIfInBounds_toArray, List.set_cons_zero, List.set_cons_succ]
      refine anyH_take (i := 2) (v := .pointer (some ⟨ba, oa + i, none⟩)) (some 54) rfl rfl (by kernel_rfl) (by kernel_rfl) (by kernel_rfl) (fun _ _ _ h => h) (Or.inl ⟨by rfl, fun w' hw => by go_simp⟩) (by assumption) ?_
      simp only [Act.put, List.setIfInBounds_toArray, List.set_cons_zero, List.set_cons_succ]
      refine anyH_take (i := 3) (v := .slice A1 nx c1) (some 55) rfl rfl (by kernel_rfl) (by kernel_rfl) (by kernel_rfl) (fun _ _ _ h => h) (Or.inl ⟨by rfl, fun w' hw => by (have hc := hw.1; go_simp)⟩) (by assumption) ?_
      simp only [Act.put, List.setIfInBounds_toArray, List.set_cons_zero, List.set_cons_succ]
      refine anyH_take (i := 4) (v := .slice (some ⟨bb, ob, none⟩) na cb) (some 56) rfl rfl (by kernel_rfl) (by kernel_rfl) (by kernel_rfl) (fun _ _ _ h => h) (Or.inl ⟨by rfl, fun w' hw => by rfl⟩) (by assumption) ?_
      simp only [Act.put, List.setIfInBounds_toArray, List.set_cons_zero, List.set_cons_succ]
      refine anyH_take (i := 5) (v := .int .i64 (i : Nat)) (some 57) rfl rfl (by kernel_rfl) (by kernel_rfl) (by kernel_rfl) (fun _ _ _ h => h) (Or.inl ⟨by rfl, fun w' hw => by rfl⟩) (by assumption) ?_
      simp only [Act.put, List.setIfInBounds_toArray, List.set_cons_zero, List.set_cons_succ]
      refine anyH_take (i := 6) (v := .pointer (some ⟨bb, ob + i, none⟩)) (some 58) rfl rfl (by kernel_rfl) (by kernel_rfl) (by kernel_rfl) (fun _ _ _ h => h) (Or.inl ⟨by rfl, fun w' hw => by go_simp⟩) (by assumption) ?_
      simp only [Act.put, List.setIfInBounds_toArray, List.set_cons_zero, List.set_cons_succ]
      refine anyH_take (i := 7) (v := .slice A2 ny c2) (some 59) rfl rfl (by kernel_rfl) (by kernel_rfl) (by kernel_rfl) (fun _ _ _ h => h) (Or.inl ⟨by rfl, fun w' hw => by (have hc := hw.2; go_simp)⟩) (by assumption) ?_
      simp only [Act.put, List.setIfInBounds_toArray, List.set_cons_zero, List.set_cons_succ]
      refine wpAnyH_ready (rs := [8]) (by kernel_rfl) (by simp) ?_
      refine AllReadyH.cons rfl (fun K hK => ?_) AllReadyH.nil
      go_simp
      go_at_call 13
      refine Calls.mono (HSm.out wr.drew (Hbx.out.below (below_drewD w.heap.size wr) (Nat.le_refl _)) (Hby.out.below (below_drewD w.heap.size wr) (Nat.le_refl _)) (by have := Hc.out.1; omega) (by have := Hc.out.2; omega)) ?_
      rintro e wd ⟨rfl, kd, rfl⟩
      go_wp2_with fail
      refine hK.out _ _ ⟨hxc', hyc'⟩ (fun hHeldx => ?_)
      clear hK K
      try simp only [Act.put, List.setIfInBounds_toArray, List.set_cons_zero, List.set_cons_succ]
      obtain ⟨q, hq⟩ : ∃ q, decide (x = y) = q := ⟨_, rfl⟩
      rw [hq]
      have Hq := Lib.hid hq
      clear hq
      refine anyH_take (i := 9) (v := .bool (!q)) (some 61) rfl rfl (by kernel_rfl) (by kernel_rfl) (by kernel_rfl) (fun _ _ _ h => h) (Or.inl ⟨by rfl, fun w' hw => by go_simp⟩) (by assumption) ?_
      simp only [Act.put, List.setIfInBounds_toArray, List.set_cons_zero, List.set_cons_succ]
      refine wpAnyH_done (by kernel_rfl) ?_ _
      have HBd := Lib.hid (fun nd => show Below w6.heap.size w6 (wr.drewN nd) from ⟨Hbw.out.os, Hbw.out.tape, Hbw.out.output, Hbw.out.size, Hbw.out.block⟩)
      cases q with
      | true =>
        go_wp2_with fail
        go_roundw
        case rel => exact ⟨i + 1, by omega, by go_num, (fun j hj => by
          rcases Nat.lt_or_ge j i with h | h
          · exact Hall.out j h
          · obtain rfl : j = i := by omega
            rw [Hx.out, Hy.out]
            exact of_decide_eq_true Hq.out), HBd.out _⟩
        case measure => simp [intOf]; omega
      | false =>
        obtain ⟨F1, hF1⟩ : ∃ z, z = refC (blobDig x) (0 : Nat) nx := ⟨_, rfl⟩
        obtain ⟨F2, hF2⟩ : ∃ z, z = refC (blobDig y) (0 : Nat) ny := ⟨_, rfl⟩
        obtain ⟨D1, hD1⟩ : ∃ z, z = Lib.byteCells (blobDig x) := ⟨_, rfl⟩
        have hD2 : D1 = Lib.byteCells (blobDig y) := by rw [hD1, hdg.out]
        have hfd1 : ∀ w, (Instr.field 26 (.agg F1.toArray) 0).run Try.prog w = .ok (.agg D1.toArray) w := fun w => ref_field0 (blobDig_length _) _ _ F1 D1 hF1 hD1 w
        have hfd2 : ∀ w, (Instr.field 26 (.agg F2.toArray) 0).run Try.prog w = .ok (.agg D1.toArray) w := fun w => ref_field0 (blobDig_length _) _ _ F2 D1 hF2 hD2 w
        have Hdq := Lib.hid (fun w : World => show (Op.equalIn 10000 24 (.agg D1.toArray) (.agg D1.toArray)).run Try.prog w = .ok true w by rw [dig_eqvC (blobDig_length _) (blobDig_length _) hD1 hD1 w, decide_eq_true rfl])
        have HO1 := Lib.hid (fun (wz : World) (h : Bs wz wz.heap.size A1 x) => rof_any 0 x F1 A1 nx c1 wz Hnx.out.symm (by omega) hx1 Hc.out.1 h (by omega) (by omega) hF1)
        have HO2 := Lib.hid (fun (wz : World) (h : Bs wz wz.heap.size A2 y) => rof_any 0 y F2 A2 ny c2 wz Hny.out.symm (by omega) hy1 Hc.out.2 h (by omega) (by omega) hF2)
        clear hF1 hF2 hD1 hD2
        go_wp2_with fail
        obtain ⟨wq, hwq⟩ : ∃ z, z = wr.drewN (1 + kd) := ⟨_, rfl⟩
        have hsq : wq.drew.heap.size = wr.heap.size := by rw [hwq]; rfl
        have hxq : wq.drew.cell? ⟨ba, oa + i, none⟩ = some (.slice A1 nx c1) := by rw [hwq]; exact hxc
        have hyq : wq.drew.cell? ⟨bb, ob + i, none⟩ = some (.slice A2 ny c2) := by rw [hwq]; exact hyc
        have Hbq := Lib.hid (show Below w6.heap.size w6 wq.drew by rw [hwq]; exact HBd.out (1 + kd + 1))
        have Hxq := Lib.hid (show Bs wq.drew wq.drew.heap.size A1 x by
          rw [hwq]; exact (Hbx.out.below (show Below w.heap.size wr (wr.drewN (1 + kd + 1)) from ⟨rfl, rfl, rfl, Nat.le_refl _, fun _ _ => rfl⟩) (Nat.le_refl _)).more (by show w.heap.size ≤ wr.heap.size; omega))
        have Hyq := Lib.hid (show Bs wq.drew wq.drew.heap.size A2 y by
          rw [hwq]; exact (Hby.out.below (show Below w.heap.size wr (wr.drewN (1 + kd + 1)) from ⟨rfl, rfl, rfl, Nat.le_refl _, fun _ _ => rfl⟩) (Nat.le_refl _)).more (by show w.heap.size ≤ wr.heap.size; omega))
        try rw [← hwq]
        clear hwq
        refine wp_region_held_drew (S := fun w' => w'.cell? ⟨ba, oa + i, none⟩ = some (.slice A1 nx c1) ∧ w'.cell? ⟨bb, ob + i, none⟩ = some (.slice A2 ny c2)) (by kernel_rfl) ⟨hxq, hyq⟩ (fun hHeld => ?_)
        refine anyH_take (i := 0) (v := .slice (some ⟨ba, oa, none⟩) na ca) (some 62) rfl rfl (by kernel_rfl) (by kernel_rfl) (by kernel_rfl) (fun _ _ _ h => h) (Or.inl ⟨by rfl, fun w' hw => by rfl⟩) (by assumption) ?_
        simp only [Act.put, List.setIfInBounds_toArray, List.set_cons_zero, List.set_cons_succ]
        refine anyH_take (i := 1) (v := .int .i64 (i : Nat)) (some 63) rfl rfl (by kernel_rfl) (by kernel_rfl) (by kernel_rfl) (fun _ _ _ h => h) (Or.inl ⟨by rfl, fun w' hw => by rfl⟩) (by assumption) ?_
        simp only [Act.put, List.setIfInBounds_toArray, List.set_cons_zero, List.set_cons_succ]
        refine anyH_take (i := 2) (v := .pointer (some ⟨ba, oa + i, none⟩)) (some 64) rfl rfl (by kernel_rfl) (by kernel_rfl) (by kernel_rfl) (fun _ _ _ h => h) (Or.inl ⟨by rfl, fun w' hw => by go_simp⟩) (by assumption) ?_
        simp only [Act.put, List.setIfInBounds_toArray, List.set_cons_zero, List.set_cons_succ]
        refine anyH_take (i := 3) (v := .slice A1 nx c1) (some 65) rfl rfl (by kernel_rfl) (by kernel_rfl) (by kernel_rfl) (fun _ _ _ h => h) (Or.inl ⟨by rfl, fun w' hw => by (have hc := hw.1; go_simp)⟩) (by assumption) ?_
        simp only [Act.put, List.setIfInBounds_toArray, List.set_cons_zero, List.set_cons_succ]
        refine anyH_take (i := 6) (v := .slice (some ⟨bb, ob, none⟩) na cb) (some 68) rfl rfl (by kernel_rfl) (by kernel_rfl) (by kernel_rfl) (fun _ _ _ h => h) (Or.inl ⟨by rfl, fun w' hw => by rfl⟩) (by assumption) ?_
        simp only [Act.put, List.setIfInBounds_toArray, List.set_cons_zero, List.set_cons_succ]
        refine anyH_take (i := 7) (v := .int .i64 (i : Nat)) (some 69) rfl rfl (by kernel_rfl) (by kernel_rfl) (by kernel_rfl) (fun _ _ _ h => h) (Or.inl ⟨by rfl, fun w' hw => by rfl⟩) (by assumption) ?_
        simp only [Act.put, List.setIfInBounds_toArray, List.set_cons_zero, List.set_cons_succ]
        refine anyH_take (i := 8) (v := .pointer (some ⟨bb, ob + i, none⟩)) (some 70) rfl rfl (by kernel_rfl) (by kernel_rfl) (by kernel_rfl) (fun _ _ _ h => h) (Or.inl ⟨by rfl, fun w' hw => by go_simp⟩) (by assumption) ?_
        simp only [Act.put, List.setIfInBounds_toArray, List.set_cons_zero, List.set_cons_succ]
        refine anyH_take (i := 9) (v := .slice A2 ny c2) (some 71) rfl rfl (by kernel_rfl) (by kernel_rfl) (by kernel_rfl) (fun _ _ _ h => h) (Or.inl ⟨by rfl, fun w' hw => by (have hc := hw.2; go_simp)⟩) (by assumption) ?_
        simp only [Act.put, List.setIfInBounds_toArray, List.set_cons_zero, List.set_cons_succ]
        refine wpAnyH_ready (rs := [4]) (by kernel_rfl) (by simp) ?_
        refine AllReadyH.cons rfl (fun K hK => ?_) AllReadyH.nil
        go_simp
        go_at_call 16
        refine Calls.mono (HO1.out _ Hxq.out) ?_
        rintro e we ⟨rfl, hbe⟩
        have hxe : we.cell? ⟨ba, oa + i, none⟩ = some (.slice A1 nx c1) := (hbe.cell (p := ⟨ba, _, none⟩) (by show ba < wq.drew.heap.size; omega)).trans hxq
        have hye : we.cell? ⟨bb, ob + i, none⟩ = some (.slice A2 ny c2) := (hbe.cell (p := ⟨bb, _, none⟩) (by show bb < wq.drew.heap.size; omega)).trans hyq
        have Hbe := Lib.hid (Hbq.out.trans (hbe.mono Hbq.out.size))
        have Hye := Lib.hid ((Hyq.out.below hbe (Nat.le_refl _)).more hbe.size)
        have hse := hbe.size
        go_wp2_with fail
        refine hK.out _ _ ⟨hxe, hye⟩ (fun hHeldx => ?_)
        clear hK K
        try simp only [Act.put, List.setIfInBounds_toArray, List.set_cons_zero, List.set_cons_succ]
        refine anyH_take (i := 5) (v := .agg D1.toArray) (some 67) rfl rfl (by kernel_rfl) (by kernel_rfl) (by kernel_rfl) (fun _ _ _ h => h) (Or.inl ⟨by rfl, fun w' hw => by (simp only [Oper.semAt_some, execOp, Sem.run_bind]; go_simp)⟩) (by assumption) ?_
        simp only [Act.put, List.setIfInBounds_toArray, List.set_cons_zero, List.set_cons_succ]
        refine wpAnyH_ready (rs := [10]) (by kernel_rfl) (by simp) ?_
        refine AllReadyH.cons rfl (fun K hK => ?_) AllReadyH.nil
        go_simp
        go_at_call 16
        refine Calls.mono (HO2.out _ Hye.out) ?_
        rintro e wf ⟨rfl, hbf⟩
        have hxf : wf.cell? ⟨ba, oa + i, none⟩ = some (.slice A1 nx c1) := (hbf.cell (p := ⟨ba, _, none⟩) (by show ba < we.heap.size; omega)).trans hxe
        have hyf : wf.cell? ⟨bb, ob + i, none⟩ = some (.slice A2 ny c2) := (hbf.cell (p := ⟨bb, _, none⟩) (by show bb < we.heap.size; omega)).trans hye
        have Hbf := Lib.hid (Hbe.out.trans (hbf.mono Hbe.out.size))
        go_wp2_with fail
        refine hK.out _ _ ⟨hxf, hyf⟩ (fun hHeldx => ?_)
        clear hK K
        try simp only [Act.put, List.setIfInBounds_toArray, List.set_cons_zero, List.set_cons_succ]
        refine anyH_take (i := 11) (v := .agg D1.toArray) (some 73) rfl rfl (by kernel_rfl) (by kernel_rfl) (by kernel_rfl) (fun _ _ _ h => h) (Or.inl ⟨by rfl, fun w' hw => by go_simp⟩) (by assumption) ?_
        simp only [Act.put, List.setIfInBounds_toArray, List.set_cons_zero, List.set_cons_succ]
        refine anyH_take (i := 12) (v := .bool true) (some 74) rfl rfl (by kernel_rfl) (by kernel_rfl) (by kernel_rfl) (fun _ _ _ h => h) (Or.inl ⟨by rfl, fun w' hw => by (have hd := Hdq.out w'; go_simp)⟩) (by assumption) ?_
        simp only [Act.put, List.setIfInBounds_toArray, List.set_cons_zero, List.set_cons_succ]
        refine anyH_take (i := 13) (v := .bool true) (some 8) rfl rfl (by kernel_rfl) (by kernel_rfl) (by kernel_rfl) (fun _ _ _ h => h) (Or.inl ⟨by rfl, fun w' hw => by rfl⟩) (by assumption) ?_
        simp only [Act.put, List.setIfInBounds_toArray, List.set_cons_zero, List.set_cons_succ]
        refine wpAnyH_done (by kernel_rfl) ?_ _
        go_wp2_with fail
        go_ret
        exact ⟨rfl, HB6.out.trans (Hbf.out.mono HB6.out.size)⟩
    · have hin : i = na := by omega
      subst hin
      have HBw := Lib.hid (HB6.out.trans (hbw.mono HB6.out.size))
      have hd : decide ((i : Int) < (i : Int)) = false := decide_eq_false (by omega)
      clear hall hbw
      go_wp2_with fail
      go_ret
      exact ⟨rfl, HBw.out⟩

theorem afork_any (ep : Nat) (hep : ep < 18446744073709551616) (root : List UInt8) (Aa : Option Addr) (na ca : Nat) (ra : List (List UInt8)) (hna : ra.length = na) (hca : na ≤ ca) (hma : ca ≤ maxLen) (Ab : Option Addr) (nb cb : Nat) (bs : List (List UInt8)) (hnb : bs.length = nb) (hcb : nb ≤ cb) (hmb : cb ≤ maxLen) (w : World) (hr : root.length = 32) (ha : RowsAt w w.heap.size Aa ra) (hb : RowsAt w w.heap.size Ab bs) :
    Calls Try.prog 6 #[.int .u64 ep, .agg (Lib.byteCells root).toArray, .slice Aa na ca, .slice Ab nb cb] w fun e w' => e = .returned (.bool true) ∧ Below w.heap.size w w' :=
  afork_walk ep hep root hr _ rfl ra bs Aa Ab na ca nb cb hna hca hma hnb hcb hmb w ha hb

end Go.Proofs.Ytlfddijmanlneaa

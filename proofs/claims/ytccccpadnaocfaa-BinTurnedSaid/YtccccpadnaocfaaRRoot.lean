/-
  The document's Root.
-/
import Derived.Test.YtccccpadnaocfaaRoot
import Derived.Test.YtccccpadnaocfaaShaAt
namespace Go.Proofs.Ytccccpadnaocfaa
open Go.RowKit
set_option linter.unusedVariables false
set_option linter.unusedSimpArgs false

theorem rtagd_at (use : UInt8) (u : Int) (rs : List (List UInt8)) (SL : List Value) (A : Option Addr) (n c : Nat) (w : World) (hu : ((use.toNat : Nat) : Int) = u) (hS : SL = Lib.byteCells (shaF (tagF use rs))) (hn : rs.length = n) (hn2 : n ≤ 1000000) (hr : RowsAt w w.heap.size A rs) (hlim : (tagF use rs).length ≤ 1000000) :
    Calls Try.prog 33 #[.int .u8 u, .slice A n c] w fun e w' => e = .returned (.agg SL.toArray) ∧ Below w.heap.size w w' := by
  subst hS hu; exact rtagged_any use rs A n c w hn hn2 hr hlim

def RRootC (n : Nat) : Prop := ∀ (rs : List (List UInt8)) (RL : List Value) (A : Option Addr) (c : Nat) (w : World), rs.length = n → RL = Lib.byteCells (rootF rs) → n ≤ c → c ≤ 9223372036854775807 → (∀ r ∈ rs, r.length ≤ 300) → RowsAt w w.heap.size A rs →
    Calls Try.prog 35 #[.slice A n c] w fun e w' => e = .returned (.agg RL.toArray) ∧ Below w.heap.size w w'

set_option maxHeartbeats 4000000 in
set_option maxRecDepth 100000 in
theorem rroot_zero : RRootC 0 := by
  intro rs RL A c w hn hRL hc hm hr hrs
  have hf := rootF_zero hn
  rw [hf] at hRL
  have hrl : RL.length = 32 := by rw [hRL, Lib.byteCells_length]; exact shaF_length _
  have HDi := Lib.hid (show (Try.prog.info? 29).map (·.size) = some RL.toArray.size by rw [List.size_toArray, hrl]; exact digInfo)
  have HD1 := Lib.hid (show RL.toArray.all (·.oneCell') = true by rw [hRL]; exact dig_one _)
  have Hzs := Lib.hid (show (Lib.byteCells zeros).toArray.size = RL.toArray.size by rw [List.size_toArray, List.size_toArray, hrl]; rfl)
  have HRL := Lib.hid hRL
  obtain ⟨W, hW⟩ : ∃ W, W = w.alloc (.cells (Lib.byteCells zeros).toArray 29) := ⟨_, rfl⟩
  have hR : Arr W w.heap.size 29 (Lib.byteCells zeros) := by rw [hW]; exact Arr.new w _ _
  have hB : Below w.heap.size w W := by rw [hW]; exact (Below.refl _ w).alloc (Nat.le_refl _) _
  have HW := Lib.hid hW
  clear hW hf hRL hrl hn
  go_enter Try.func35, Try.ntmps35
  go_wp2_with fail
  change Calls _ _ _ (w.alloc (.cells (Lib.byteCells zeros).toArray 29)) _
  rw [← HW.out]
  refine Calls.mono (rtagd_at 2 2 [] RL none 0 0 W rfl HRL.out rfl (by omega) (rows_none _ _ _) (by decide)) ?_
  rintro e w5 ⟨rfl, hb5⟩
  have hR5 := Lib.hid (hR.up hb5)
  have hB5 := hB.trans (hb5.mono hB.size)
  go_wp2_with (refine wpList_store_row rfl _ _ _ rfl w.heap.size RL.toArray rfl rfl 29 _ hR5.out HDi.out Hzs.out HD1.out ?_)
  have hset : Hid ((w5.setRow w.heap.size RL.toArray).heap[w.heap.size]? = some (.cells RL.toArray 29 (0, 0))) := setRow_heap w5 w.heap.size _ RL.toArray _ _ hR5.out
  have hbf : Below w.heap.size w (w5.setRow w.heap.size RL.toArray) := hB5.trans (((Only.refl (fun k => k = w.heap.size) w5).setRow (.inl rfl) RL.toArray).below hB5.size (by rintro k rfl; omega))
  exact bodyPost_ret (v := .agg RL.toArray) (results_cell_row (by rfl) _ _ w.heap.size 29 RL.toArray (0, 0) _ (by rfl) hset.out Try.underlying29 rfl HDi.out) rfl ⟨rfl, hbf⟩

set_option maxHeartbeats 4000000 in
set_option maxRecDepth 100000 in
theorem rroot_one : RRootC 1 := by
  intro rs RL A c w hn hRL hc hm hr hrs
  have hf := rootF_one hn
  rw [hf] at hRL
  obtain ⟨blk, off, rfl, hblk, hrow⟩ := hrs (by omega)
  obtain ⟨A', c', hcell, hlc, hcm, hbs⟩ := hrow 0 (by omega)
  have hr0 : (rs.getD 0 []).length ≤ 300 := hr _ (by simp [List.getD, show 0 < rs.length by omega])
  obtain ⟨r, hre⟩ : ∃ r, rs.getD 0 [] = r := ⟨_, rfl⟩
  rw [hre] at hcell hlc hbs hRL hr0
  obtain ⟨l, hl⟩ : ∃ l, r.length = l := ⟨_, rfl⟩
  rw [hl] at hcell hlc
  rw [Nat.add_zero] at hcell
  have hrl : RL.length = 32 := by rw [hRL, Lib.byteCells_length]; exact shaF_length _
  have HDi := Lib.hid (show (Try.prog.info? 29).map (·.size) = some RL.toArray.size by rw [List.size_toArray, hrl]; exact digInfo)
  have HD1 := Lib.hid (show RL.toArray.all (·.oneCell') = true by rw [hRL]; exact dig_one _)
  have Hzs := Lib.hid (show (Lib.byteCells zeros).toArray.size = RL.toArray.size by rw [List.size_toArray, List.size_toArray, hrl]; rfl)
  have HRL := Lib.hid hRL
  have Hl := Lib.hid hl
  obtain ⟨W, hW⟩ : ∃ W, W = w.alloc (.cells (Lib.byteCells zeros).toArray 29) := ⟨_, rfl⟩
  have hR : Arr W w.heap.size 29 (Lib.byteCells zeros) := by rw [hW]; exact Arr.new w _ _
  have hB : Below w.heap.size w W := by rw [hW]; exact (Below.refl _ w).alloc (Nat.le_refl _) _
  have hcW : W.cell? ⟨blk, off, none⟩ = some (.slice A' l c') := (hB.cell (p := ⟨blk, off, none⟩) hblk).trans hcell
  have hbW : Bs W W.heap.size A' r := (hbs.below hB (Nat.le_refl _)).more hB.size
  have HW := Lib.hid hW
  have hWs : W.heap.size = w.heap.size + 1 := by rw [hW]; simp
  have HWs := Lib.hid hWs
  clear hW hf hRL hrl hn hrow hbs hcW hre hl hrs hWs
  go_enter Try.func35, Try.ntmps35
  go_wp2_with fail
  change Calls _ _ _ ((w.alloc (.cells (Lib.byteCells zeros).toArray 29)).alloc (.cells #[.slice A' l c'] 49)) _
  have hrow1 := rows_one (w := W) 49 Hl.out hlc hcm hbW (Nat.le_refl _)
  have hup : Below W.heap.size W (W.alloc (.cells #[.slice A' l c'] 49)) := (Below.refl _ W).alloc (Nat.le_refl _) _
  have hR4 := hR.up hup
  have hB4 := hB.trans (hup.mono hB.size)
  rw [HWs.out] at hrow1
  rw [← HW.out]
  refine Calls.mono (rtagd_at 0 0 [r] RL (some ⟨w.heap.size + 1, 0, none⟩) 1 1 _ rfl HRL.out rfl (by omega) (hrow1.more (by have := HWs.out; simp; omega)) (tag_one_le 0 hr0)) ?_
  rintro e w5 ⟨rfl, hb5⟩
  have hR5 := Lib.hid (hR4.up hb5)
  have hB5 := hB4.trans (hb5.mono hB4.size)
  clear hrow1 hup hR4 hB4
  go_wp2_with (refine wpList_store_row rfl _ _ _ rfl w.heap.size RL.toArray rfl rfl 29 _ hR5.out HDi.out Hzs.out HD1.out ?_)
  have hset : Hid ((w5.setRow w.heap.size RL.toArray).heap[w.heap.size]? = some (.cells RL.toArray 29 (0, 0))) := setRow_heap w5 w.heap.size _ RL.toArray _ _ hR5.out
  have hbf : Below w.heap.size w (w5.setRow w.heap.size RL.toArray) := hB5.trans (((Only.refl (fun k => k = w.heap.size) w5).setRow (.inl rfl) RL.toArray).below hB5.size (by rintro k rfl; omega))
  exact bodyPost_ret (v := .agg RL.toArray) (results_cell_row (by rfl) _ _ w.heap.size 29 RL.toArray (0, 0) _ (by rfl) hset.out Try.underlying29 rfl HDi.out) rfl ⟨rfl, hbf⟩

set_option maxHeartbeats 8000000 in
set_option maxRecDepth 100000 in
theorem rroot_two (n : Nat) (h2 : 2 ≤ n) (hn6 : n ≤ 1000000) (ih : ∀ m, m < n → RRootC m) : RRootC n := by
  intro rs JL A c' w hn hJL hc hcm63 hr hrs
  have hf := rootF_two (rs := rs) (by omega)
  have hsp := splitF_facts h2
  rw [hn] at hf
  have hfirst := fun w => rsplit_any n h2 (by omega) w
  obtain ⟨K, hK⟩ : ∃ K, splitF n = K := ⟨_, rfl⟩
  rw [hK] at hf hsp hfirst
  obtain ⟨hK0, hKn, _⟩ := hsp
  obtain ⟨blk, off, rfl, hblk, hrow⟩ := hrs (by omega)
  clear hrow
  have ihK := ih K hKn
  have ihN := ih (n - K) (by omega)
  obtain ⟨LL, hLL⟩ : ∃ V, V = Lib.byteCells (rootF (rs.take K)) := ⟨_, rfl⟩
  have HLLl := Lib.hid (show LL.length = 32 by rw [hLL, Lib.byteCells_length]; exact rootF_length _)
  have HLLi := Lib.hid (show (Try.prog.info? 29).map (·.size) = some LL.toArray.size by rw [List.size_toArray, HLLl.out]; exact digInfo)
  have HLL1 := Lib.hid (show LL.toArray.all (·.oneCell') = true by rw [hLL]; exact dig_one _)
  have HLLs := Lib.hid (show (Lib.byteCells zeros).toArray.size = LL.toArray.size by rw [List.size_toArray, List.size_toArray, HLLl.out]; rfl)
  have HLL := Lib.hid hLL
  clear hLL
  obtain ⟨RR, hRR⟩ : ∃ V, V = Lib.byteCells (rootF (rs.drop K)) := ⟨_, rfl⟩
  have HRRl := Lib.hid (show RR.length = 32 by rw [hRR, Lib.byteCells_length]; exact rootF_length _)
  have HRRi := Lib.hid (show (Try.prog.info? 29).map (·.size) = some RR.toArray.size by rw [List.size_toArray, HRRl.out]; exact digInfo)
  have HRR1 := Lib.hid (show RR.toArray.all (·.oneCell') = true by rw [hRR]; exact dig_one _)
  have HRRs := Lib.hid (show (Lib.byteCells zeros).toArray.size = RR.toArray.size by rw [List.size_toArray, List.size_toArray, HRRl.out]; rfl)
  have HRR := Lib.hid hRR
  clear hRR
  rw [hf] at hJL
  have HJLl := Lib.hid (show JL.length = 32 by rw [hJL, Lib.byteCells_length, joinF_length])
  have HJLi := Lib.hid (show (Try.prog.info? 29).map (·.size) = some JL.toArray.size by rw [List.size_toArray, HJLl.out]; exact digInfo)
  have HJL := Lib.hid hJL
  have Hlk := Lib.hid (show (rs.take K).length = K by rw [List.length_take]; omega)
  have Hld := Lib.hid (show (rs.drop K).length = n - K by rw [List.length_drop, hn])
  have Hrk := Lib.hid (show ∀ r ∈ rs.take K, r.length ≤ 300 from fun r h => hr r (List.mem_of_mem_take h))
  have Hrd := Lib.hid (show ∀ r ∈ rs.drop K, r.length ≤ 300 from fun r h => hr r (List.mem_of_mem_drop h))
  have hKrs : K < rs.length := by omega
  have hKc : K ≤ c' := by omega
  have hNc : n - K ≤ c' - K := by omega
  have hne : ¬ c' = K := by omega
  have hKn1 : K ≤ n := by omega
  obtain ⟨W, hW⟩ : ∃ W, W = w.alloc (.cells (Lib.byteCells zeros).toArray 29) := ⟨_, rfl⟩
  have hR : Arr W w.heap.size 29 (Lib.byteCells zeros) := by rw [hW]; exact Arr.new w _ _
  have hBw : Below w.heap.size w W := by rw [hW]; exact (Below.refl _ w).alloc (Nat.le_refl _) _
  have hrW : RowsAt W W.heap.size (some ⟨blk, off, none⟩) rs := (hrs.below hBw (Nat.le_refl _)).more hBw.size
  have HW := Lib.hid hW
  have Hn := Lib.hid hn
  have Hr := Lib.hid hr
  have HF := Lib.hid hfirst
  clear hW hf hn hK hr hJL hrs ih hfirst
  have hd0 : ((n : Int) == 0) = false := by rw [beq_eq_false_iff_ne]; omega
  have hd1 : ((n : Int) == 1) = false := by rw [beq_eq_false_iff_ne]; omega
  go_enter Try.func35, Try.ntmps35
  go_wp2_with fail
  change Calls _ _ _ (w.alloc (.cells (Lib.byteCells zeros).toArray 29)) _
  rw [← HW.out]
  refine Calls.mono (HF.out W) ?_
  rintro e w1 ⟨rfl, rfl⟩
  go_wp2_with fail
  obtain ⟨g, hg⟩ : ∃ g, g = w.heap.size := ⟨_, rfl⟩
  rw [← hg] at hR ⊢
  have hwg : w.heap.size ≤ g := by omega
  clear hg HW
  refine Calls.mono (ihK (rs.take K) LL _ c' _ Hlk.out HLL.out hKc hcm63 Hrk.out (hrW.take K)) ?_
  rintro e w2 ⟨rfl, hb2⟩
  have hrW2 := (hrW.below hb2 (Nat.le_refl _)).more hb2.size
  have hR2 := hR.up hb2
  have hBw2 := hBw.trans (hb2.mono hBw.size)
  clear hrW hR hBw hb2
  go_wp2_with (change wpList _ _ _ _ _ (w2.alloc (.cells (Lib.byteCells zeros).toArray 29)); refine wpList_store_row rfl _ _ _ rfl w2.heap.size LL.toArray rfl rfl 29 (Lib.byteCells zeros).toArray (heap_alloc_new w2 _) HLLi.out HLLs.out HLL1.out ?_; obtain ⟨w3, hww3⟩ : ∃ x, x = (w2.alloc (.cells (Lib.byteCells zeros).toArray 29)).setRow w2.heap.size LL.toArray := ⟨_, rfl⟩; rw [← hww3]; obtain ⟨hP3, hb3⟩ := alloc_row w2 29 (Lib.byteCells zeros).toArray LL; rw [← hww3] at hP3 hb3; clear hww3)
  have hrW3 := (hrW2.below hb3 (Nat.le_refl _)).more hb3.size
  have hR3 := hR2.up hb3
  have hBw3 := hBw2.trans (hb3.mono hBw2.size)
  clear hrW2 hR2 hBw2 hb3
  obtain ⟨g4, hg4⟩ : ∃ x, x = w2.heap.size := ⟨_, rfl⟩
  rw [← hg4] at hP3 ⊢
  clear hg4
  refine Calls.mono (ihN (rs.drop K) RR _ (c' - K) _ Hld.out HRR.out hNc (by omega) Hrd.out (hrW3.drop hKrs)) ?_
  rintro e w4 ⟨rfl, hb4⟩
  have hP4 := hP3.up hb4
  have hR4 := hR3.up hb4
  have hBw4 := hBw3.trans (hb4.mono hBw3.size)
  clear hrW3 hR3 hBw3 hb4 hP3
  go_wp2_with (change wpList _ _ _ _ _ (w4.alloc (.cells (Lib.byteCells zeros).toArray 29)); refine wpList_store_row rfl _ _ _ rfl w4.heap.size RR.toArray rfl rfl 29 (Lib.byteCells zeros).toArray (heap_alloc_new w4 _) HRRi.out HRRs.out HRR1.out ?_; obtain ⟨w5, hww5⟩ : ∃ x, x = (w4.alloc (.cells (Lib.byteCells zeros).toArray 29)).setRow w4.heap.size RR.toArray := ⟨_, rfl⟩; rw [← hww5]; obtain ⟨hQ5, hb5⟩ := alloc_row w4 29 (Lib.byteCells zeros).toArray RR; rw [← hww5] at hQ5 hb5; clear hww5)
  have hP5 := hP4.up hb5
  have hR5 := hR4.up hb5
  have hBw5 := hBw4.trans (hb5.mono hBw4.size)
  obtain ⟨g5, hg5⟩ : ∃ x, x = w4.heap.size := ⟨_, rfl⟩
  rw [← hg5] at hQ5 ⊢
  clear hg5 hR4 hBw4 hb5 hP4
  rw [HLL.out] at hP5
  rw [HRR.out] at hQ5
  have hr8 := rows_two (w := w5.drew) 49 (rootF_length _) (rootF_length _) (Nat.le_refl 32) (by unfold maxLen; omega) (Nat.le_refl 32) (by unfold maxLen; omega) (Arr.drewN hP5 1).bs (Arr.drewN hQ5 1).bs (Nat.le_refl _)
  have hBb := (below_drew w5.heap.size w5).trans ((Below.refl _ w5.drew).alloc (Nat.le_refl _) (.cells #[.slice (some ⟨g4, 0, none⟩) 32 32, .slice (some ⟨g5, 0, none⟩) 32 32] 49))
  have hB0 : Below w5.heap.size w5 w5.drew := below_drew _ _
  refine wp_region_held_drew (S := fun _ => True) (by kernel_rfl) trivial (fun hHeld => ?_)
  refine anyH_take (i := 0) (v := .slice (some ⟨g4, 0, none⟩) 32 32) (some 29) rfl rfl (by kernel_rfl) (by kernel_rfl) (by kernel_rfl) (fun _ _ _ h => h) (Or.inl ⟨by rfl, fun _ _ => by go_simp⟩) (by assumption) ?_
  simp only [Act.put, List.setIfInBounds_toArray, List.set_cons_zero, List.set_cons_succ]
  refine anyH_take (i := 1) (v := .slice (some ⟨g5, 0, none⟩) 32 32) (some 30) rfl rfl (by kernel_rfl) (by kernel_rfl) (by kernel_rfl) (fun _ _ _ h => h) (Or.inl ⟨by rfl, fun _ _ => by go_simp⟩) (by assumption) ?_
  simp only [Act.put, List.setIfInBounds_toArray, List.set_cons_zero, List.set_cons_succ]
  refine wpAnyH_ready (rs := [2]) (by kernel_rfl) (by simp) ?_
  refine AllReadyH.cons rfl (fun KC hKC => ?_) AllReadyH.nil
  go_simp
  refine hKC.out _ _ trivial (fun hHeld8 => ?_)
  clear hKC KC
  try simp only [Act.put, List.setIfInBounds_toArray, List.set_cons_zero, List.set_cons_succ]
  refine wpAnyH_ready (rs := [3]) (by kernel_rfl) (by simp) ?_
  refine AllReadyH.cons rfl (fun KC hKC => ?_) AllReadyH.nil
  go_simp
  go_at_call 33
  refine Calls.mono (rtagd_at 1 1 [rootF (rs.take K), rootF (rs.drop K)] JL (some ⟨w5.heap.size, 0, none⟩) 2 2 _ rfl HJL.out rfl (by omega) (hr8.more (Nat.le_of_eq (by simp))) (tag_two_le 1 (rootF_length _) (rootF_length _))) ?_
  rintro e w9 ⟨rfl, hb9⟩
  have hB9 := hBb.trans (hb9.mono hBb.size)
  go_wp2_with fail
  refine hKC.out _ _ trivial (fun hHeld9 => ?_)
  clear hKC KC
  try simp only [Act.put, List.setIfInBounds_toArray, List.set_cons_zero, List.set_cons_succ]
  refine wpAnyH_ready (rs := [4]) (by kernel_rfl) (by simp) ?_
  refine AllReadyH.cons rfl (fun KC hKC => ?_) AllReadyH.nil
  rw [if_pos (by rfl)]
  obtain ⟨hth, hset10, hons10⟩ := put_arr (Arr.below hR5 hB9 (Arr.lt hR5)) (show (Lib.byteCells zeros).length = JL.length by rw [HJLl.out]; rfl)
  refine wp_store_mid 29 _ _ rfl g 0 JL.toArray rfl rfl (by rw [List.size_toArray]; exact hth) HJLi.out (all_oneCell_toArray (by rw [HJL.out]; exact byteCells_one _)) ?_
  refine hKC.out _ _ trivial (fun hHeld10 => ?_)
  clear hKC KC
  try simp only [Act.put, List.setIfInBounds_toArray, List.set_cons_zero, List.set_cons_succ]
  refine wpAnyH_done (by kernel_rfl) ?_ _
  have hfin := hBw5.trans ((hB9.mono (hBw5.size)).trans (hons10.below (Nat.le_trans hBw5.size hB9.size) (by rintro i rfl; exact hwg)))
  try rw [show JL.toArray.toList = JL from rfl]
  clear hHeld
  go_wp2_with fail
  exact bodyPost_ret (v := .agg JL.toArray) (results_cell_row (by rfl) _ _ g 29 JL.toArray (0, 0) _ (by rfl) hset10 Try.underlying29 rfl HJLi.out) rfl ⟨rfl, hfin⟩

theorem rroot_all : ∀ (n : Nat), n ≤ 1000000 → RRootC n := by
  intro n
  induction n using Nat.strongRecOn with
  | ind n ih =>
    intro hn
    by_cases h0 : n = 0
    · subst h0; exact rroot_zero
    · by_cases h1 : n = 1
      · subst h1; exact rroot_one
      · exact rroot_two n (by omega) hn fun m hm => ih m hm (by omega)

theorem rroot_at (rs : List (List UInt8)) (RL : List Value) (A : Option Addr) (n c : Nat) (w : World) (hn : rs.length = n) (hRL : RL = Lib.byteCells (rootF rs)) (hn6 : n ≤ 1000000) (hc : n ≤ c) (hm : c ≤ 9223372036854775807) (hr : ∀ r ∈ rs, r.length ≤ 300) (hrs : RowsAt w w.heap.size A rs) :
    Calls Try.prog 35 #[.slice A n c] w fun e w' => e = .returned (.agg RL.toArray) ∧ Below w.heap.size w w' := rroot_all n hn6 rs RL A c w hn hRL hc hm hr hrs

end Go.Proofs.Ytccccpadnaocfaa

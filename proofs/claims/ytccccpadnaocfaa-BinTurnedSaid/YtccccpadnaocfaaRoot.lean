/-
  merkle.Root.
-/
import Derived.Test.YtccccpadnaocfaaRootMath
namespace Go.Proofs.Ytccccpadnaocfaa
open Go.RowKit
set_option linter.unusedVariables false
set_option linter.unusedSimpArgs false

/-- A row of one row of bytes, new. -/
theorem rows_one {w : World} {B : Nat} {A : Option Addr} {l : List UInt8} {n c : Nat} (T : TypeId) (hn : l.length = n) (hc : n ≤ c) (hm : c ≤ maxLen) (h : Bs w B A l) (hB : B ≤ w.heap.size) :
    RowsAt (w.alloc (.cells #[.slice A n c] T)) (w.heap.size + 1) (some ⟨w.heap.size, 0, none⟩) [l] := fun _ => by
  subst hn
  have ha := Arr.new w T [.slice A l.length c]
  have hb : Below w.heap.size w (w.alloc (.cells #[.slice A l.length c] T)) := (Below.refl _ w).alloc (Nat.le_refl _) _
  refine ⟨w.heap.size, 0, rfl, by omega, fun i hi => ?_⟩
  obtain rfl : i = 0 := by simp at hi; omega
  exact ⟨A, c, ha.cell 0, hc, hm, (h.below hb hB).more (by omega)⟩

theorem rows_none (w : World) (B : Nat) (A : Option Addr) : RowsAt w B A [] := fun h => absurd h (by simp)
theorem tag_one_le (u : UInt8) {r : List UInt8} (h : r.length ≤ 300) : (tagF u [r]).length ≤ 1000000 := by
  unfold tagF
  have e1 := Lib.uvarint_length64 (x := r.length) (by omega)
  simp only [List.length_cons, List.flatMap_cons, List.flatMap_nil, List.length_append, List.length_nil]
  omega
theorem tag_two_le (u : UInt8) {x y : List UInt8} (hx : x.length = 32) (hy : y.length = 32) : (tagF u [x, y]).length ≤ 1000000 := by
  unfold tagF
  have e1 := Lib.uvarint_length64 (x := x.length) (by omega)
  have e2 := Lib.uvarint_length64 (x := y.length) (by omega)
  simp only [List.length_cons, List.flatMap_cons, List.flatMap_nil, List.length_append, List.length_nil]
  omega
theorem below_drew (B : Nat) (w : World) : Below B w w.drew := ⟨rfl, rfl, rfl, Nat.le_refl _, fun _ _ => rfl⟩

def RootC (n : Nat) : Prop := ∀ (rs : List (List UInt8)) (RL : List Value) (A : Option Addr) (c : Nat) (w : World), rs.length = n → RL = Lib.byteCells (rootF rs) → n ≤ c → c ≤ 9223372036854775807 → (∀ r ∈ rs, r.length ≤ 300) → RowsAt w w.heap.size A rs →
    Calls Try.prog 47 #[.slice A n c] w fun e w' => e = .returned (.agg RL.toArray) ∧ Below w.heap.size w w'

set_option maxHeartbeats 4000000 in
set_option maxRecDepth 100000 in
theorem root_zero : RootC 0 := by
  intro rs RL A c w hn hRL hc hm hr hrs
  have hf := rootF_zero hn
  rw [hf] at hRL
  have hrl : RL.length = 32 := by rw [hRL, Lib.byteCells_length]; exact shaF_length _
  have HDi := Lib.hid (show (Try.prog.info? 29).map (·.size) = some RL.toArray.size by rw [List.size_toArray, hrl]; exact digInfo)
  have HD1 := Lib.hid (show RL.toArray.all (·.oneCell') = true by rw [hRL]; exact dig_one _)
  have Hzs := Lib.hid (show (Lib.byteCells zeros).toArray.size = RL.toArray.size by rw [List.size_toArray, List.size_toArray, hrl]; rfl)
  have HRL := Lib.hid hRL
  obtain ⟨W, hW⟩ : ∃ W, W = w.alloc (.cells (Lib.byteCells zeros).toArray 29) := ⟨_, rfl⟩
  have hR : Arr W w.heap.size 29 (Lib.byteCells zeros) := by rw [hW]; exact Arr.new w _ _
  have hB : Below w.heap.size w W := by rw [hW]; exact (Below.refl _ w).alloc (Nat.le_refl _) _
  have HW := Lib.hid hW
  clear hW hf hRL hrl hn
  go_enter Try.func47, Try.ntmps47
  go_wp2_with fail
  change Calls _ _ _ (w.alloc (.cells (Lib.byteCells zeros).toArray 29)) _
  rw [← HW.out]
  refine Calls.mono (tagged_at 2 2 [] RL none 0 0 W rfl HRL.out rfl (by omega) (rows_none _ _ _) (by decide)) ?_
  rintro e w5 ⟨rfl, hb5⟩
  have hR5 := Lib.hid (hR.up hb5)
  have hB5 := hB.trans (hb5.mono hB.size)
  go_wp2_with (refine wpList_store_row rfl _ _ _ rfl w.heap.size RL.toArray rfl rfl 29 _ hR5.out HDi.out Hzs.out HD1.out ?_)
  have hset : Hid ((w5.setRow w.heap.size RL.toArray).heap[w.heap.size]? = some (.cells RL.toArray 29 (0, 0))) := setRow_heap w5 w.heap.size _ RL.toArray _ _ hR5.out
  have hbf : Below w.heap.size w (w5.setRow w.heap.size RL.toArray) := hB5.trans (((Only.refl (fun k => k = w.heap.size) w5).setRow (.inl rfl) RL.toArray).below hB5.size (by rintro k rfl; omega))
  exact bodyPost_ret (v := .agg RL.toArray) (results_cell_row (by rfl) _ _ w.heap.size 29 RL.toArray (0, 0) _ (by rfl) hset.out Try.underlying29 rfl HDi.out) rfl ⟨rfl, hbf⟩

set_option maxHeartbeats 4000000 in
set_option maxRecDepth 100000 in
theorem root_one : RootC 1 := by
  intro rs RL A c w hn hRL hc hm hr hrs
  have hf := rootF_one hn
  rw [hf] at hRL
  obtain ⟨blk, off, rfl, hblk, hrow⟩ := hrs (by omega)
  obtain ⟨A', c', hcell, hlc, hcm, hbs⟩ := hrow 0 (by omega)
  have hr0 : (rs.getD 0 []).length ≤ 300 := hr _ (by simp [List.getD, show 0 < rs.length by omega])
  obtain ⟨r, hre⟩ : ∃ r, rs.getD 0 [] = r := ⟨_, rfl⟩
  rw [hre] at hcell hlc hbs hRL hr0
  obtain ⟨l, hl⟩ : ∃ l, r.length = l := ⟨_, rfl⟩
  rw [hl] at hcell hlc
  rw [Nat.add_zero] at hcell
  have hrl : RL.length = 32 := by rw [hRL, Lib.byteCells_length]; exact shaF_length _
  have HDi := Lib.hid (show (Try.prog.info? 29).map (·.size) = some RL.toArray.size by rw [List.size_toArray, hrl]; exact digInfo)
  have HD1 := Lib.hid (show RL.toArray.all (·.oneCell') = true by rw [hRL]; exact dig_one _)
  have Hzs := Lib.hid (show (Lib.byteCells zeros).toArray.size = RL.toArray.size by rw [List.size_toArray, List.size_toArray, hrl]; rfl)
  have HRL := Lib.hid hRL
  have Hl := Lib.hid hl
  obtain ⟨W, hW⟩ : ∃ W, W = w.alloc (.cells (Lib.byteCells zeros).toArray 29) := ⟨_, rfl⟩
  have hR : Arr W w.heap.size 29 (Lib.byteCells zeros) := by rw [hW]; exact Arr.new w _ _
  have hB : Below w.heap.size w W := by rw [hW]; exact (Below.refl _ w).alloc (Nat.le_refl _) _
  have hcW : W.cell? ⟨blk, off, none⟩ = some (.slice A' l c') := (hB.cell (p := ⟨blk, off, none⟩) hblk).trans hcell
  have hbW : Bs W W.heap.size A' r := (hbs.below hB (Nat.le_refl _)).more hB.size
  have HW := Lib.hid hW
  have hWs : W.heap.size = w.heap.size + 1 := by rw [hW]; simp
  have HWs := Lib.hid hWs
  clear hW hf hRL hrl hn hrow hbs hcW hre hl hrs hWs
  go_enter Try.func47, Try.ntmps47
  go_wp2_with fail
  change Calls _ _ _ ((w.alloc (.cells (Lib.byteCells zeros).toArray 29)).alloc (.cells #[.slice A' l c'] 49)) _
  have hrow1 := rows_one (w := W) 49 Hl.out hlc hcm hbW (Nat.le_refl _)
  have hup : Below W.heap.size W (W.alloc (.cells #[.slice A' l c'] 49)) := (Below.refl _ W).alloc (Nat.le_refl _) _
  have hR4 := hR.up hup
  have hB4 := hB.trans (hup.mono hB.size)
  rw [HWs.out] at hrow1
  rw [← HW.out]
  refine Calls.mono (tagged_at 0 0 [r] RL (some ⟨w.heap.size + 1, 0, none⟩) 1 1 _ rfl HRL.out rfl (by omega) (hrow1.more (by have := HWs.out; simp; omega)) (tag_one_le 0 hr0)) ?_
  rintro e w5 ⟨rfl, hb5⟩
  have hR5 := Lib.hid (hR4.up hb5)
  have hB5 := hB4.trans (hb5.mono hB4.size)
  clear hrow1 hup hR4 hB4
  go_wp2_with (refine wpList_store_row rfl _ _ _ rfl w.heap.size RL.toArray rfl rfl 29 _ hR5.out HDi.out Hzs.out HD1.out ?_)
  have hset : Hid ((w5.setRow w.heap.size RL.toArray).heap[w.heap.size]? = some (.cells RL.toArray 29 (0, 0))) := setRow_heap w5 w.heap.size _ RL.toArray _ _ hR5.out
  have hbf : Below w.heap.size w (w5.setRow w.heap.size RL.toArray) := hB5.trans (((Only.refl (fun k => k = w.heap.size) w5).setRow (.inl rfl) RL.toArray).below hB5.size (by rintro k rfl; omega))
  exact bodyPost_ret (v := .agg RL.toArray) (results_cell_row (by rfl) _ _ w.heap.size 29 RL.toArray (0, 0) _ (by rfl) hset.out Try.underlying29 rfl HDi.out) rfl ⟨rfl, hbf⟩

set_option maxHeartbeats 8000000 in
set_option maxRecDepth 100000 in
theorem root_two (n : Nat) (h2 : 2 ≤ n) (hn6 : n ≤ 1000000) (ih : ∀ m, m < n → RootC m) : RootC n := by
  intro rs JL A c' w hn hJL hc hcm63 hr hrs
  have hf := rootF_two (rs := rs) (by omega)
  have hsp := splitF_facts h2
  rw [hn] at hf
  have hfirst := fun w => first_any n h2 (by omega) w
  obtain ⟨K, hK⟩ : ∃ K, splitF n = K := ⟨_, rfl⟩
  rw [hK] at hf hsp hfirst
  obtain ⟨hK0, hKn, _⟩ := hsp
  obtain ⟨blk, off, rfl, hblk, hrow⟩ := hrs (by omega)
  clear hrow
  have ihK := ih K hKn
  have ihN := ih (n - K) (by omega)
  obtain ⟨LL, hLL⟩ : ∃ V, V = Lib.byteCells (rootF (rs.take K)) := ⟨_, rfl⟩
  obtain ⟨RR, hRR⟩ : ∃ V, V = Lib.byteCells (rootF (rs.drop K)) := ⟨_, rfl⟩
  rw [hf] at hJL
  have hjl : JL.length = 32 := by rw [hJL, Lib.byteCells_length, joinF_length]
  have HDi := Lib.hid (show (Try.prog.info? 29).map (·.size) = some JL.length by rw [hjl]; exact digInfo)
  have HD1 := Lib.hid (show ∀ v ∈ JL, v.oneCell' = true by rw [hJL]; exact byteCells_one _)
  have HZL := Lib.hid (show (Lib.byteCells zeros).length = JL.length by rw [hjl]; rfl)
  have HJL := Lib.hid hJL
  have HLL := Lib.hid hLL
  have HRR := Lib.hid hRR
  have Hlk := Lib.hid (show (rs.take K).length = K by rw [List.length_take]; omega)
  have Hld := Lib.hid (show (rs.drop K).length = n - K by rw [List.length_drop, hn])
  have Hrk := Lib.hid (show ∀ r ∈ rs.take K, r.length ≤ 300 from fun r h => hr r (List.mem_of_mem_take h))
  have Hrd := Lib.hid (show ∀ r ∈ rs.drop K, r.length ≤ 300 from fun r h => hr r (List.mem_of_mem_drop h))
  have hKrs : K < rs.length := by omega
  have hKc : K ≤ c' := by omega
  have hNc : n - K ≤ c' - K := by omega
  have hne : ¬ c' = K := by omega
  have hKn1 : K ≤ n := by omega
  obtain ⟨W, hW⟩ : ∃ W, W = w.alloc (.cells (Lib.byteCells zeros).toArray 29) := ⟨_, rfl⟩
  have hR : Arr W w.heap.size 29 (Lib.byteCells zeros) := by rw [hW]; exact Arr.new w _ _
  have hBw : Below w.heap.size w W := by rw [hW]; exact (Below.refl _ w).alloc (Nat.le_refl _) _
  have hrW : RowsAt W W.heap.size (some ⟨blk, off, none⟩) rs := (hrs.below hBw (Nat.le_refl _)).more hBw.size
  have HW := Lib.hid hW
  have Hn := Lib.hid hn
  have Hr := Lib.hid hr
  have HF := Lib.hid hfirst
  clear hW hf hn hK hr hjl hJL hLL hRR hrs ih hfirst
  have hd0 : ((n : Int) == 0) = false := by rw [beq_eq_false_iff_ne]; omega
  have hd1 : ((n : Int) == 1) = false := by rw [beq_eq_false_iff_ne]; omega
  go_enter Try.func47, Try.ntmps47
  go_wp2_with fail
  change Calls _ _ _ (w.alloc (.cells (Lib.byteCells zeros).toArray 29)) _
  rw [← HW.out]
  refine Calls.mono (HF.out W) ?_
  rintro e w1 ⟨rfl, rfl⟩
  go_wp2_with fail
  obtain ⟨g, hg⟩ : ∃ g, g = w.heap.size := ⟨_, rfl⟩
  rw [← hg] at hR ⊢
  have hwg : w.heap.size ≤ g := by omega
  clear hg HW
  have hB0 : Below w1.heap.size w1 w1.drew := below_drew _ _
  have hRW := hR
  have hgW := hR.lt
  clear hR
  have Hne := Lib.hid hne
  refine wp_region_held_drew (S := fun _ => True) (by kernel_rfl) trivial (fun hHeld => ?_)
  refine anyH_take (i := 0) (v := .slice (some ⟨blk, off, none⟩) n c') (some 19) rfl rfl (by kernel_rfl) (by kernel_rfl) (by kernel_rfl) (fun _ _ _ h => h) (Or.inl ⟨by rfl, fun _ _ => by rfl⟩) (by assumption) ?_
  simp only [Act.put, List.setIfInBounds_toArray, List.set_cons_zero, List.set_cons_succ]
  refine anyH_take (i := 1) (v := .int .i64 (K : Nat)) (some 20) rfl rfl (by kernel_rfl) (by kernel_rfl) (by kernel_rfl) (fun _ _ _ h => h) (Or.inl ⟨by rfl, fun _ _ => by rfl⟩) (by assumption) ?_
  simp only [Act.put, List.setIfInBounds_toArray, List.set_cons_zero, List.set_cons_succ]
  refine anyH_take (i := 2) (v := .slice (some ⟨blk, off, none⟩) K c') (some 21) rfl rfl (by kernel_rfl) (by kernel_rfl) (by kernel_rfl) (fun _ _ _ h => h) (Or.inl ⟨by rfl, fun _ _ => by go_simp⟩) (by assumption) ?_
  simp only [Act.put, List.setIfInBounds_toArray, List.set_cons_zero, List.set_cons_succ]
  refine anyH_take (i := 4) (v := .slice (some ⟨blk, off, none⟩) n c') (some 23) rfl rfl (by kernel_rfl) (by kernel_rfl) (by kernel_rfl) (fun _ _ _ h => h) (Or.inl ⟨by rfl, fun _ _ => by rfl⟩) (by assumption) ?_
  simp only [Act.put, List.setIfInBounds_toArray, List.set_cons_zero, List.set_cons_succ]
  refine anyH_take (i := 5) (v := .int .i64 (K : Nat)) (some 24) rfl rfl (by kernel_rfl) (by kernel_rfl) (by kernel_rfl) (fun _ _ _ h => h) (Or.inl ⟨by rfl, fun _ _ => by rfl⟩) (by assumption) ?_
  simp only [Act.put, List.setIfInBounds_toArray, List.set_cons_zero, List.set_cons_succ]
  refine anyH_take (i := 6) (v := .slice (some ⟨blk, off + K, none⟩) (n - K) (c' - K)) (some 25) rfl rfl (by kernel_rfl) (by kernel_rfl) (by kernel_rfl) (fun _ _ _ h => h) (Or.inl ⟨by rfl, fun _ _ => by go_simp⟩) (by assumption) ?_
  simp only [Act.put, List.setIfInBounds_toArray, List.set_cons_zero, List.set_cons_succ]
  refine wpAnyH_ready (rs := [3]) (by kernel_rfl) (by simp) ?_
  refine AllReadyH.cons rfl (fun KC hKC => ?_) AllReadyH.nil
  go_simp
  go_at_call 47
  refine Calls.mono (ihK (rs.take K) LL _ c' _ Hlk.out HLL.out hKc hcm63 Hrk.out (((hrW.below hB0 (Nat.le_refl _)).take K).more hB0.size)) ?_
  rintro e w8 ⟨rfl, hb8⟩
  have hB8 := hB0.trans (hb8.mono hB0.size)
  go_wp2_with fail
  refine hKC.out _ _ trivial (fun hHeld8 => ?_)
  clear hKC KC
  try simp only [Act.put, List.setIfInBounds_toArray, List.set_cons_zero, List.set_cons_succ]
  refine wpAnyH_ready (rs := [7]) (by kernel_rfl) (by simp) ?_
  refine AllReadyH.cons rfl (fun KC hKC => ?_) AllReadyH.nil
  go_simp
  go_at_call 47
  refine Calls.mono (ihN (rs.drop K) RR _ (c' - K) _ Hld.out HRR.out hNc (by omega) Hrd.out (((hrW.below hB8 (Nat.le_refl _)).drop hKrs).more hB8.size)) ?_
  rintro e w9 ⟨rfl, hb9⟩
  have hB9 := hB8.trans (hb9.mono hB8.size)
  go_wp2_with fail
  refine hKC.out _ _ trivial (fun hHeld9 => ?_)
  clear hKC KC
  try simp only [Act.put, List.setIfInBounds_toArray, List.set_cons_zero, List.set_cons_succ]
  refine wpAnyH_ready (rs := [8]) (by kernel_rfl) (by simp) ?_
  refine AllReadyH.cons rfl (fun KC hKC => ?_) AllReadyH.nil
  go_simp
  go_at_call 59
  refine Calls.mono (joined_any _ _ LL RR JL _ (rootF_length _) (rootF_length _) HLL.out HRR.out HJL.out) ?_
  rintro e w10 ⟨rfl, hb10⟩
  have hB10 := hB9.trans (hb10.mono hB9.size)
  go_wp2_with fail
  refine hKC.out _ _ trivial (fun hHeld10 => ?_)
  clear hKC KC
  try simp only [Act.put, List.setIfInBounds_toArray, List.set_cons_zero, List.set_cons_succ]
  refine wpAnyH_ready (rs := [9]) (by kernel_rfl) (by simp) ?_
  refine AllReadyH.cons rfl (fun KC hKC => ?_) AllReadyH.nil
  rw [if_pos (by rfl)]
  obtain ⟨hth, hset11, hons11⟩ := put_arr (Arr.below hRW hB10 hgW) HZL.out
  refine wp_store_mid 29 _ _ rfl g 0 JL.toArray rfl rfl (by rw [List.size_toArray]; exact hth) (by rw [List.size_toArray]; exact HDi.out) (all_oneCell_toArray HD1.out) ?_
  refine hKC.out _ _ trivial (fun hHeld11 => ?_)
  clear hKC KC
  try simp only [Act.put, List.setIfInBounds_toArray, List.set_cons_zero, List.set_cons_succ]
  refine wpAnyH_done (by kernel_rfl) ?_ _
  have hfin := hBw.trans ((hB10.mono (hBw.size)).trans (hons11.below (Nat.le_trans hBw.size hB10.size) (by rintro i rfl; exact hwg)))
  try rw [show JL.toArray.toList = JL from rfl]
  clear hHeld
  go_wp2_with fail
  exact bodyPost_ret (v := .agg JL.toArray) (results_cell_row (by rfl) _ _ g 29 JL.toArray (0, 0) _ (by rfl) hset11 Try.underlying29 rfl (by rw [List.size_toArray]; exact HDi.out)) rfl ⟨rfl, hfin⟩

theorem root_all : ∀ (n : Nat), n ≤ 1000000 → RootC n := by
  intro n
  induction n using Nat.strongRecOn with
  | ind n ih =>
    intro hn
    by_cases h0 : n = 0
    · subst h0; exact root_zero
    · by_cases h1 : n = 1
      · subst h1; exact root_one
      · exact root_two n (by omega) hn fun m hm => ih m hm (by omega)

theorem root_at (rs : List (List UInt8)) (RL : List Value) (A : Option Addr) (n c : Nat) (w : World) (hn : rs.length = n) (hRL : RL = Lib.byteCells (rootF rs)) (hn6 : n ≤ 1000000) (hc : n ≤ c) (hm : c ≤ 9223372036854775807) (hr : ∀ r ∈ rs, r.length ≤ 300) (hrs : RowsAt w w.heap.size A rs) :
    Calls Try.prog 47 #[.slice A n c] w fun e w' => e = .returned (.agg RL.toArray) ∧ Below w.heap.size w w' := root_all n hn6 rs RL A c w hn hRL hc hm hr hrs

end Go.Proofs.Ytccccpadnaocfaa

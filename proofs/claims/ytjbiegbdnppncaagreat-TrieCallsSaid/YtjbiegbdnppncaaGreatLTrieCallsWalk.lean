/-
  The walk of TrieCalls. Written by gen_tcalls.py.
-/
import Derived.Test.YtjbiegbdnppncaaGreatLTrieKeys
import Derived.Test.YtjbiegbdnppncaaGreatLDigSame
import Derived.Test.YtjbiegbdnppncaaGreatLTrieDropsWalk
import Derived.Test.YtjbiegbdnppncaaGreatLRowsSame
namespace Go.Proofs.YtjbiegbdnppncaaGreat
open Go.RowKit
set_option linter.unusedVariables false
set_option linter.unusedSimpArgs false

set_option maxHeartbeats 8000000 in
set_option maxRecDepth 100000 in
theorem tcalls_great (A : Option Addr) (n c : Nat) (cs : List Cl8) (hn : cs.length = n) (hc : n ≤ c) (hm : c ≤ maxLen) (key : List UInt8) (w : World) (hcs : Cls8 w w.heap.size A cs) (hk : key.length = 32) (hg : great8 cs = true) :
    Calls Tryz.prog 3 #[.slice A n c, .agg (Lib.byteCells key).toArray] w fun e w' => e = .returned (.bool true) ∧ Below w.heap.size w w' := by
  have Hg := Lib.hid hg
  clear hg
  obtain ⟨KL, hKL⟩ : ∃ KL, KL = Lib.byteCells key := ⟨_, rfl⟩
  rw [← hKL]
  obtain ⟨W2, hW2⟩ : ∃ W2, W2 = w.alloc (.cells KL.toArray 24) := ⟨_, rfl⟩
  have hb2 : Below w.heap.size w W2 := by rw [hW2]; exact (Below.refl _ w).alloc (Nat.le_refl _) _
  have hK2 : Arr W2 w.heap.size 24 KL := by rw [hW2]; exact Arr.new w _ _
  have HKm := Lib.hid (show (Tryz.prog.info? 24).map (·.size) = some KL.length by rw [hKL, Lib.byteCells_length, hk]; kernel_rfl)
  have HKi := Lib.hid (show (Tryz.prog.info? 24).map (·.size) = some KL.toArray.size by rw [hKL, dig_size hk]; kernel_rfl)
  have HKL := Lib.hid hKL
  have HW2 := Lib.hid hW2
  have Hn := Lib.hid hn
  have Hcs := Lib.hid hcs
  have Hk := Lib.hid hk
  have Hmc := Lib.hid hm
  unfold maxLen at hm
  clear hW2 hn hcs hKL hk
  go_enter Tryz.func3, Tryz.ntmps3
  go_upto_region 1 with fail
  change Code.wp _ _ _ _ (w.alloc (.cells KL.toArray 24))
  rw [← HW2.out]
  clear HW2
  go_wp2_with fail
  go_at_call 9
  refine Calls.mono (speaks8_run W2) ?_
  rintro e w3 ⟨rfl, hb23⟩
  have hb3 := hb2.trans (hb23.mono hb2.size)
  have hK3 := hK2.below hb23 hK2.lt
  clear hb23 hb2 hK2
  dsimp only
  go_wp2_with fail
  go_at_call 10
  refine Calls.mono (great8_any cs A n c w3 Hn.out hc hm (Hcs.out.base hb3)) ?_
  rintro e w4 ⟨rfl, hb34⟩
  have hb4 := hb3.trans (hb34.mono hb3.size)
  have hK4 := hK3.below hb34 hK3.lt
  clear hb34 hb3 hK3
  rw [Hg.out]
  dsimp only
  go_wp2_with fail
  go_ret
  exact ⟨rfl, hb4⟩

theorem grown_onlyR {w w' : World} {row : Option Nat} (h : w.grownBy w' row) : Only (fun k => row = some k) w w' := ⟨h.os, h.tape, h.output, h.size, fun k hk hn => h.block k hk (fun e => hn e.symm)⟩
theorem DRow.apartT {w : World} {B : Nat} {v : Value} {ds : List (List UInt8)} (h : DRow w B v ds) {g : Nat} {T : TypeId} {cs : List Value} (hg : Arr w g T cs) (hT : T ≠ 24) : ∀ k, v.ownBlock = some k → k ≠ g := by
  intro k hk e
  subst e
  rcases h.2.2 with ⟨rfl, _⟩ | ⟨g', cap, cur, rfl, _, hg', _⟩
  · cases hk
  · simp only [Value.ownBlock, Option.some.injEq] at hk
    subst hk
    have := hg.symm.trans hg'
    simp only [Option.some.injEq, Obj.cells.injEq] at this
    exact hT this.2.1
theorem Arr.onlyD {w w' : World} {B : Nat} {v : Value} {ds : List (List UInt8)} {g : Nat} {T : TypeId} {cs : List Value} (hg : Arr w g T cs) (h : DRow w B v ds) (hO : Only (fun k => v.ownBlock = some k) w w') (hT : T ≠ 24 := by decide) : Arr w' g T cs := hg.only hO (fun q => h.apartT hg hT g q rfl)
theorem IRow.grownD {w w' : World} {B B1 : Nat} {v u : Value} {ds : List (List UInt8)} {xs : List Itm} (hI : IRow w B1 u xs) (h : DRow w B v ds) (hg : w.grownBy w' v.ownBlock) : IRow w' B1 u xs := by
  refine ⟨hI.1, hI.2.1, ?_⟩
  rcases hI.2.2 with hn | ⟨g, cap, cur, rfl, h1, hgb, rest⟩
  · exact .inl hn
  · refine .inr ⟨g, cap, cur, rfl, h1, (hg.block g (Array.getElem?_eq_some_iff.1 hgb).1 fun e => ?_).trans hgb, rest⟩
    exact h.apartT (g := g) (T := 40) (cs := cur.toList) (show w.heap[g]? = some (.cells cur.toList.toArray _ (0, 0)) from by rw [hgb]) (by decide) g e.symm rfl

set_option maxHeartbeats 40000000 in
set_option maxRecDepth 100000 in
theorem tcalls_in (A : Option Addr) (n c : Nat) (cs : List Cl8) (hn : cs.length = n) (hc : n ≤ c) (hm : c ≤ maxLen) (key : List UInt8) (w : World) (hcs : Cls8 w w.heap.size A cs) (hk : key.length = 32) (hg : great8 cs = false) :
    Calls Tryz.prog 3 #[.slice A n c, .agg (Lib.byteCells key).toArray] w fun e w' => e = .returned (.bool true) ∧ Below w.heap.size w w' := by
  obtain ⟨L, hL⟩ : ∃ L, L = (playI cs).map Itm.it := ⟨_, rfl⟩
  have hLr : Rise L := by rw [hL]; exact (playI_rise cs (fun x hx => (hcs.1 x hx).k32)).1
  have hL32 : ∀ x ∈ L, x.1.length = 32 := by
    rw [hL]
    rintro x hx
    obtain ⟨y, hy, rfl⟩ := List.mem_map.1 hx
    exact (playI_rise cs (fun x hx => (hcs.1 x hx).k32)).2.1 y hy
  have hIt : ∀ y ∈ playI cs, ItOk w w.heap.size y ∧ y.val.length ≤ 200 := fun y hy => by
    obtain ⟨z, hz, rfl⟩ := (playI_facts cs).2.1 y hy
    exact ⟨hcs.1 z hz, (great8_no hg).2 z hz⟩
  have hGd : Good ((playI cs).map Itm.it) := by rw [← hL]; exact hLr.good hL32
  have hLn : L.length ≤ 50 := by
    rw [hL, List.length_map]
    exact Nat.le_trans (playI_facts cs).2.2 (great8_no hg).1
  have h50 : n ≤ 50 := by rw [← hn]; exact (great8_no hg).1
  have Hv200 := Lib.hid (great8_no hg).2
  obtain ⟨SL, hSL⟩ : ∃ SL, SL = Lib.byteCells (rootF L) := ⟨_, rfl⟩
  have hrl : (rootF L).length = 32 := by unfold rootF nodeD; split <;> exact shaF_length _
  have hgt := gt32
  have heS : ∀ w, (Op.equalIn 10000 24 (.agg SL.toArray) (.agg SL.toArray)).run Tryz.prog w = .ok true w := fun w => by
    rw [eqv_at Tryz.underlying24 _ _ hrl hrl SL SL hSL hSL w]; simp
  obtain ⟨P, hP⟩ : ∃ P, P = proveF key 65 L 0 := ⟨_, rfl⟩
  have HP := Lib.hid hP
  have HL := Lib.hid hL
  have HSL := Lib.hid hSL
  have HLr := Lib.hid hLr
  have HL32 := Lib.hid hL32
  have HLn := Lib.hid hLn
  have HIt := Lib.hid hIt
  have HGd := Lib.hid hGd
  have Hg8 := Lib.hid hg
  clear hSL hL hrl hLr hL32 hIt hg hLn hGd hP
  obtain ⟨IZ, hIZ⟩ : ∃ IZ, IZ = itZ := ⟨_, rfl⟩
  have HIZ := Lib.hid (fun w : World => show (zeroValue 40).run Tryz.prog w = .ok (.agg IZ.toArray) w by rw [hIZ]; kernel_rfl)
  have HIZl := Lib.hid (show IZ.length = 33 by rw [hIZ]; rfl)
  clear hIZ
  obtain ⟨KL, hKL⟩ : ∃ KL, KL = Lib.byteCells key := ⟨_, rfl⟩
  rw [← hKL]
  obtain ⟨W2, hW2⟩ : ∃ W2, W2 = w.alloc (.cells KL.toArray 24) := ⟨_, rfl⟩
  have hb2 : Below w.heap.size w W2 := by rw [hW2]; exact (Below.refl _ w).alloc (Nat.le_refl _) _
  have hK2 : Arr W2 w.heap.size 24 KL := by rw [hW2]; exact Arr.new w _ _
  have HKm := Lib.hid (show (Tryz.prog.info? 24).map (·.size) = some KL.length by rw [hKL, Lib.byteCells_length, hk]; kernel_rfl)
  have HKi := Lib.hid (show (Tryz.prog.info? 24).map (·.size) = some KL.toArray.size by rw [hKL, dig_size hk]; kernel_rfl)
  have HKL := Lib.hid hKL
  have HW2 := Lib.hid hW2
  have Hn := Lib.hid hn
  have Hcs := Lib.hid hcs
  have Hk := Lib.hid hk
  have Hmc := Lib.hid hm
  unfold maxLen at hm
  clear hW2 hn hcs hKL hk
  go_enter Tryz.func3, Tryz.ntmps3
  go_upto_region 1 with fail
  change Code.wp _ _ _ _ (w.alloc (.cells KL.toArray 24))
  rw [← HW2.out]
  clear HW2
  go_wp2_with fail
  go_at_call 9
  refine Calls.mono (speaks8_run W2) ?_
  rintro e w3 ⟨rfl, hb23⟩
  have hb3 := hb2.trans (hb23.mono hb2.size)
  have hK3 := hK2.below hb23 hK2.lt
  clear hb23 hb2 hK2
  dsimp only
  go_wp2_with fail
  go_at_call 10
  refine Calls.mono (great8_any cs A n c w3 Hn.out hc hm (Hcs.out.base hb3)) ?_
  rintro e w4 ⟨rfl, hb34⟩
  have hb4 := hb3.trans (hb34.mono hb3.size)
  have hK4 := hK3.below hb34 hK3.lt
  clear hb34 hb3 hK3
  rw [Hg8.out]
  dsimp only
  go_wp2_with fail
  go_at_call 11
  refine Calls.mono (forest_play w.heap.size [] cs A n c w4 (Forest.none _ _) hb4.size Hn.out h50 hc Hmc.out (Hcs.out.base hb4) Hv200.out) ?_
  rintro e w5 ⟨a, v5, rfl, ha5, hI5, hF5, hb45⟩
  rw [← HL.out] at hF5
  have hb5 := hb4.trans (hb45.mono hb4.size)
  have hK5 := hK4.below hb45 hK4.lt
  have hB5 := hb5.size
  obtain ⟨A5, c5, rfl, h5c, h5m, hIt5⟩ := hI5.slice
  obtain ⟨n5, hn5⟩ : ∃ n, (playI cs).length = n := ⟨_, rfl⟩
  have h5n : n5 ≤ 50 := by rw [← hn5]; have h := HLn.out; rw [HL.out, List.length_map] at h; exact h
  rw [hn5] at h5c hI5 ⊢
  have Hn5 := Lib.hid hn5
  obtain ⟨B4, hB4⟩ : ∃ B, w4.heap.size = B := ⟨_, rfl⟩
  rw [hB4] at hI5
  have Hfit := Lib.hid (fun (w' : World) (hI : IRow w' B4 (.slice A5 n5 c5) (playI cs)) (hb : Below w.heap.size w w') => fit_row hI Hn5.out h5c (by omega) hb HIt.out HGd.out)
  have h5c' : c5 ≤ 9223372036854775807 := by unfold maxLen at h5m; exact h5m
  clear hb45 hn5 hb4 hIt5 hK4 hB4 h5m
  dsimp only
  go_upto_region 6 with fail
  refine wp_region_held_drew (S := fun w' => Arr w' w.heap.size 24 KL) (by kernel_rfl) (hK5.drewN 1) (fun hHeld => ?_)
  refine anyH_take (i := 0) (v := .pointer (some ⟨a, 0, none⟩)) (some 23) rfl rfl (by kernel_rfl) (by kernel_rfl) (by kernel_rfl) (fun _ _ _ h => h) (Or.inl ⟨by rfl, fun w' hw => by rfl⟩) (by assumption) ?_
  simp only [Act.put, List.setIfInBounds_toArray, List.set_cons_zero, List.set_cons_succ]
  refine anyH_take (i := 1) (v := .bool false) (some 24) rfl rfl (by kernel_rfl) (by kernel_rfl) (by kernel_rfl) (fun _ _ _ h => h) (Or.inl ⟨by rfl, fun w' hw => by go_simp⟩) (by assumption) ?_
  simp only [Act.put, List.setIfInBounds_toArray, List.set_cons_zero, List.set_cons_succ]
  refine anyH_take (i := 2) (v := .bool false) (some 25) rfl rfl (by kernel_rfl) (by kernel_rfl) (by kernel_rfl) (fun _ _ _ h => h) (Or.inl ⟨by rfl, fun w' hw => by rfl⟩) (by assumption) ?_
  simp only [Act.put, List.setIfInBounds_toArray, List.set_cons_zero, List.set_cons_succ]
  refine anyH_take (i := 3) (v := .pointer (some ⟨a, 0, none⟩)) (some 26) rfl rfl (by kernel_rfl) (by kernel_rfl) (by kernel_rfl) (fun _ _ _ h => h) (Or.inl ⟨by rfl, fun w' hw => by rfl⟩) (by assumption) ?_
  simp only [Act.put, List.setIfInBounds_toArray, List.set_cons_zero, List.set_cons_succ]
  refine anyH_take (i := 5) (v := .slice A5 n5 c5) (some 28) rfl rfl (by kernel_rfl) (by kernel_rfl) (by kernel_rfl) (fun _ _ _ h => h) (Or.inl ⟨by rfl, fun w' hw => by rfl⟩) (by assumption) ?_
  simp only [Act.put, List.setIfInBounds_toArray, List.set_cons_zero, List.set_cons_succ]
  refine wpAnyH_ready (rs := [4]) (by kernel_rfl) (by simp) ?_
  refine AllReadyH.cons rfl (fun K hK => ?_) AllReadyH.nil
  go_simp
  go_at_call 12
  refine Calls.mono (forest_root w.heap.size a L [] SL HSL.out w5.drew (hF5.up (Below.dN (Below.refl _ _) 1))) ?_
  rintro e w6 ⟨rfl, hF6, hT6⟩
  have hb6 := (Below.dN hb5 1).trans (hT6.below hB5)
  have hK6 := hT6.arr (w := w5.drew) (hK5.drewN 1) (by decide) (by decide)
  have hI6 := hT6.irow (w := w5.drew) (hI5.up (Below.dN (Below.refl _ _) 1))
  refine hK.out _ _ hK6 (fun hHeldx => ?_)
  clear hK K
  try simp only [Act.put, List.setIfInBounds_toArray, List.set_cons_zero, List.set_cons_succ]
  refine wpAnyH_ready (rs := [6]) (by kernel_rfl) (by simp) ?_
  refine AllReadyH.cons rfl (fun K hK => ?_) AllReadyH.nil
  go_simp
  go_at_call 13
  refine Calls.mono (root_runI (playI cs) A5 n5 c5 w6 (Hfit.out w6 hI6 hb6) SL (by rw [← HL.out]; exact HSL.out)) ?_
  rintro e w7 ⟨rfl, hb67⟩
  have hb7 := hb6.trans (hb67.mono hb6.size)
  have hK7 := hK6.below hb67 hK6.lt
  have hI7 := hI6.up hb67
  have hF7 := hF6.up hb67
  clear hF6 hK6 hI6 hT6
  refine hK.out _ _ hK7 (fun hHeldx => ?_)
  clear hK K
  try simp only [Act.put, List.setIfInBounds_toArray, List.set_cons_zero, List.set_cons_succ]
  refine anyH_take (i := 7) (v := .bool false) (some 30) rfl rfl (by kernel_rfl) (by kernel_rfl) (by kernel_rfl) (fun _ _ _ h => h) (Or.inl ⟨by rfl, fun w' hw => by go_simp⟩) (by assumption) ?_
  simp only [Act.put, List.setIfInBounds_toArray, List.set_cons_zero, List.set_cons_succ]
  refine anyH_take (i := 8) (v := .bool false) (some 31) rfl rfl (by kernel_rfl) (by kernel_rfl) (by kernel_rfl) (fun _ _ _ h => h) (Or.inl ⟨by rfl, fun w' hw => by rfl⟩) (by assumption) ?_
  simp only [Act.put, List.setIfInBounds_toArray, List.set_cons_zero, List.set_cons_succ]
  refine anyH_take (i := 9) (v := .bool false) (some 32) rfl rfl (by kernel_rfl) (by kernel_rfl) (by kernel_rfl) (fun _ _ _ h => h) (Or.inl ⟨by rfl, fun w' hw => by rfl⟩) (by assumption) ?_
  simp only [Act.put, List.setIfInBounds_toArray, List.set_cons_zero, List.set_cons_succ]
  refine anyH_take (i := 10) (v := .pointer (some ⟨a, 0, none⟩)) (some 33) rfl rfl (by kernel_rfl) (by kernel_rfl) (by kernel_rfl) (fun _ _ _ h => h) (Or.inl ⟨by rfl, fun w' hw => by rfl⟩) (by assumption) ?_
  simp only [Act.put, List.setIfInBounds_toArray, List.set_cons_zero, List.set_cons_succ]
  refine anyH_take (i := 11) (some 34) rfl rfl (by kernel_rfl) (by kernel_rfl) (by kernel_rfl) (fun _ _ _ h => h) (yieldsIf_load_mid (by rfl) 24 (.tmp 3) rfl w.heap.size 0 rfl KL _ (fun w' h => (h).range) Tryz.underlying24 rfl HKm.out) (by assumption) ?_
  simp only [Act.put, List.setIfInBounds_toArray, List.set_cons_zero, List.set_cons_succ]
  refine anyH_take (i := 13) (v := .slice A5 n5 c5) (some 36) rfl rfl (by kernel_rfl) (by kernel_rfl) (by kernel_rfl) (fun _ _ _ h => h) (Or.inl ⟨by rfl, fun w' hw => by rfl⟩) (by assumption) ?_
  simp only [Act.put, List.setIfInBounds_toArray, List.set_cons_zero, List.set_cons_succ]
  refine anyH_take (i := 14) (some 37) rfl rfl (by kernel_rfl) (by kernel_rfl) (by kernel_rfl) (fun _ _ _ h => h) (yieldsIf_load_mid (by rfl) 24 (.tmp 3) rfl w.heap.size 0 rfl KL _ (fun w' h => (h).range) Tryz.underlying24 rfl HKm.out) (by assumption) ?_
  simp only [Act.put, List.setIfInBounds_toArray, List.set_cons_zero, List.set_cons_succ]
  refine wpAnyH_ready (rs := [12]) (by kernel_rfl) (by simp) ?_
  refine AllReadyH.cons rfl (fun K hK => ?_) AllReadyH.nil
  go_simp
  go_at_call 15
  refine Calls.mono (forest_prove w.heap.size a L [] key KL HKL.out Hk.out w7 hF7) ?_
  rintro e w8 ⟨v8, rfl, hP8, hF8, hT8, _⟩
  rw [← HP.out] at hP8
  have hb8 := hb7.trans (hT8.below hb7.size)
  have hK8 := hT8.arr hK7 (by decide) (by decide)
  have hI8 := hT8.irow hI7
  clear hF7 hK7 hI7 hT8
  obtain ⟨A8, c8, e8, _⟩ := hP8.toN.rows
  subst e8
  refine hK.out _ _ hK8 (fun hHeldx => ?_)
  clear hK K
  try simp only [Act.put, List.setIfInBounds_toArray, List.set_cons_zero, List.set_cons_succ]
  refine wpAnyH_ready (rs := [15]) (by kernel_rfl) (by simp) ?_
  refine AllReadyH.cons rfl (fun K hK => ?_) AllReadyH.nil
  go_simp
  go_at_call 16
  refine Calls.mono (prove_runI key Hk.out KL HKL.out (playI cs) A5 n5 c5 w8 (Hfit.out w8 hI8 hb8) P (by rw [← HL.out]; exact HP.out.symm)) ?_
  rintro e w9 ⟨v9, rfl, hN9, hb9⟩
  have hPn := hP8.toN.up hb9
  obtain ⟨Ap, cp, ep, hp1, hp2, hp3⟩ := hPn.rows
  injection ep with ep1 ep2 ep3
  subst ep1 ep3
  obtain ⟨Aq, cq, rfl, hq1, hq2, hq3⟩ := hN9.rows
  obtain ⟨np, hnp⟩ : ∃ x, P.length = x := ⟨_, rfl⟩
  rw [hnp] at hp1 hq1 ⊢
  unfold maxLen at hp2 hq2
  have Hnp := Lib.hid hnp
  have hbb9 := hb8.trans (hb9.mono hb8.size)
  have hK9 := hK8.below hb9 hK8.lt
  have hI9 := hI8.up hb9
  have hF9 := hF8.up hb9
  clear hnp hPn hP8 hN9 hK8 hI8 hF8
  refine hK.out _ _ hK9 (fun hHeldx => ?_)
  clear hK K
  try simp only [Act.put, List.setIfInBounds_toArray, List.set_cons_zero, List.set_cons_succ]
  refine wpAnyH_ready (rs := [16]) (by kernel_rfl) (by simp) ?_
  refine AllReadyH.cons rfl (fun K hK => ?_) AllReadyH.nil
  go_simp
  go_at_call 14
  refine Calls.mono (sameRows_any P A8 Aq np c8 cq w9 Hnp.out hp1 hp2 hq1 hq2 hp3 hq3) ?_
  rintro e w10 ⟨rfl, k10, rfl⟩
  refine hK.out _ _ (hK9.drewN k10) (fun hHeldx => ?_)
  clear hK K
  try simp only [Act.put, List.setIfInBounds_toArray, List.set_cons_zero, List.set_cons_succ]
  refine anyH_take (i := 17) (v := .bool false) (some 40) rfl rfl (by kernel_rfl) (by kernel_rfl) (by kernel_rfl) (fun _ _ _ h => h) (Or.inl ⟨by rfl, fun w' hw => by go_simp⟩) (by assumption) ?_
  simp only [Act.put, List.setIfInBounds_toArray, List.set_cons_zero, List.set_cons_succ]
  refine anyH_take (i := 18) (v := .bool false) (some 41) rfl rfl (by kernel_rfl) (by kernel_rfl) (by kernel_rfl) (fun _ _ _ h => h) (Or.inl ⟨by rfl, fun w' hw => by rfl⟩) (by assumption) ?_
  simp only [Act.put, List.setIfInBounds_toArray, List.set_cons_zero, List.set_cons_succ]
  refine wpAnyH_done (by kernel_rfl) ?_ _
  clear hHeld
  have hb10 : Below w.heap.size w (w9.drewN k10) := Below.dN hbb9 k10
  have hK10 : Arr (w9.drewN k10) w.heap.size 24 KL := hK9.drewN k10
  have hI10 : IRow (w9.drewN k10) B4 (.slice A5 n5 c5) (playI cs) := hI9.up (Below.dN (Below.refl _ _) k10)
  have hF10 : Forest w.heap.size [(a, L)] (w9.drewN k10) := hF9.up (Below.dN (Below.refl _ _) k10)
  obtain ⟨w10, hw10⟩ : ∃ x, x = w9.drewN k10 := ⟨_, rfl⟩
  rw [← hw10] at hb10 hK10 hI10 hF10 ⊢
  obtain ⟨W11, hW11⟩ : ∃ x, x = w10.alloc (.cells #[] 24) := ⟨_, rfl⟩
  have hbe : Below w10.heap.size w10 W11 := by rw [hW11]; exact (Below.refl _ _).alloc (Nat.le_refl _) _
  have hD11 : DRow W11 w10.heap.size (.slice (some ⟨w10.heap.size, 0, none⟩) 0 0) ((L.take 0).map (·.1)) := by rw [hW11]; exact DRow.empty w10 _ (Nat.le_refl _)
  have hb11 := hb10.trans (hbe.mono hb10.size)
  have hK11 := hK10.below hbe hK10.lt
  have hI11 := hI10.up hbe
  have hF11 := hF10.toN.keep hbe
  have hBk : w10.heap.size ≤ W11.heap.size := hbe.size
  obtain ⟨Bk, hBkd⟩ : ∃ x, w10.heap.size = x := ⟨_, rfl⟩
  have hwk : w.heap.size ≤ Bk := by rw [← hBkd]; exact hb10.size
  have HKw := Lib.hid (show w.heap.size < Bk by rw [← hBkd]; exact hK10.lt)
  have hB4' : True := trivial
  rw [hBkd] at hD11 hBk hF11
  have HW11 := Lib.hid hW11
  have Hw10 := Lib.hid hw10
  have HBk := Lib.hid hBkd
  clear hW11 hbe hb10 hK10 hI10 hF10 hbb9 hK9 hI9 hF9 hb9 hw10 hBkd
  go_upto_region 9 with fail
  try rw [HBk.out]
  first | rw [← HW11.out] | (change Code.wp _ _ _ _ (w10.alloc (.cells #[] 24)); rw [← HW11.out])
  clear HW11 Hw10
  go_wp2_with fail
  go_loopw [7, 45] (fun dv iv wr => ∃ i : Nat, i ≤ n5 ∧ iv = .int .i64 i ∧ Below w.heap.size w wr ∧ Bk ≤ wr.heap.size ∧ IRow wr B4 (.slice A5 n5 c5) (playI cs) ∧ Arr wr w.heap.size 24 KL ∧ ForestN Bk w.heap.size [(a, L)] wr ∧ DRow wr Bk dv ((L.take i).map (·.1))) (fun _ iv _ => n5 - (intOf iv).toNat)
  case atStart => exact ⟨0, Nat.zero_le _, rfl, hb11, hBk, hI11, hK11, hF11, hD11⟩
  case round =>
    clear hb11 hBk hI11 hK11 hF11 hD11
    obtain ⟨i, hin, rfl, hbr, hBr, hIr, hKr, hFr, hDr⟩ := hrel
    by_cases hlt2 : i < n5
    · have hd4 : decide ((i : Int) < (n5 : Int)) = true := by simp; omega
      obtain ⟨y, hy⟩ : ∃ y, (playI cs)[i]? = some y := ⟨(playI cs)[i]'(by rw [Hn5.out]; exact hlt2), List.getElem?_eq_getElem _⟩
      have hItr : ItsAt wr A5 (playI cs) := by
        obtain ⟨A', c', q, _, _, h⟩ := hIr.slice
        injection q with q1 q2 q3
        rw [q1]; exact h
      obtain ⟨b, off, rfl, hblk, hrow⟩ := hItr (by rw [Hn5.out]; omega)
      obtain ⟨hy32, hrg0⟩ := hrow i y hy
      obtain ⟨VL, hVL⟩ : ∃ VL, VL = itC y := ⟨_, rfl⟩
      have hVl : VL.length = 33 := by rw [hVL, itC_length hy32]
      have hrg : wr.rangeAt b (off + i * 33) VL := by rw [hVL]; exact hrg0
      have HVi := Lib.hid (show (Tryz.prog.info? 40).map (·.size) = some VL.length by rw [hVl]; exact itSize)
      have HVj := Lib.hid (show (Tryz.prog.info? 40).map (·.size) = some VL.toArray.size by rw [List.size_toArray, hVl]; exact itSize)
      have HV1 := Lib.hid (show VL.toArray.all (·.oneCell') = true by rw [hVL]; exact all_oneCell_toArray (itC_one y))
      have HVz := Lib.hid (show IZ.toArray.size = VL.toArray.size by rw [List.size_toArray, List.size_toArray, HIZl.out, hVl])
      obtain ⟨wa, hwa⟩ : ∃ W, W = (wr.alloc (.cells IZ.toArray 40)).setRow wr.heap.size VL.toArray := ⟨_, rfl⟩
      obtain ⟨hVa, hbra⟩ := alloc_row wr 40 IZ.toArray VL
      rw [← hwa] at hVa hbra
      obtain ⟨YL, hYL⟩ : ∃ YL, YL = Lib.byteCells y.key := ⟨_, rfl⟩
      obtain ⟨ly, hly⟩ : ∃ l, y.val.length = l := ⟨_, rfl⟩
      obtain ⟨Ay, hAy⟩ : ∃ l, y.adr = l := ⟨_, rfl⟩
      obtain ⟨cy, hcy⟩ : ∃ l, y.cap = l := ⟨_, rfl⟩
      have hyk : ∀ w', Arr w' wr.heap.size 40 VL → w'.rangeAt wr.heap.size 0 YL := fun w' h j v hj => by
        rw [Nat.zero_add, h.cell, hVL]
        unfold itC
        rw [← hYL, List.getElem?_append_left (List.getElem?_eq_some_iff.1 hj).1]
        exact hj
      have hyv : ∀ w', Arr w' wr.heap.size 40 VL → w'.cell? ⟨wr.heap.size, 32, none⟩ = some (.slice Ay ly cy) := fun w' h => by
        rw [h.cell, hVL]
        unfold itC
        rw [List.getElem?_append_right (by rw [Lib.byteCells_length, hy32]; exact Nat.le_refl _), Lib.byteCells_length, hy32, ← hly, ← hAy, ← hcy]
        rfl
      have HYi := Lib.hid (show (Tryz.prog.info? 24).map (·.size) = some YL.length by rw [hYL, Lib.byteCells_length, hy32]; kernel_rfl)
      have Hyk := Lib.hid hyk
      have Hyv := Lib.hid hyv
      have Hy := Lib.hid hy
      have Hwa := Lib.hid hwa
      have Hly := Lib.hid hly
      have HAy := Lib.hid hAy
      have Hcy := Lib.hid hcy
      have HYL := Lib.hid hYL
      have Hy32 := Lib.hid hy32
      clear hwa hly hy hrow hVL hVl hAy hcy hYL hyk hyv hItr hrg0 hy32
      have hLy : L[i]? = some y.it := by rw [HL.out, List.getElem?_map, Hy.out]; rfl
      have hnx : (L.take (i + 1)).map (·.1) = (L.take i).map (·.1) ++ [y.key] := by rw [List.take_add_one, hLy, List.map_append]; rfl
      have hym : (y.key, y.val) ∈ L := List.mem_of_getElem? hLy
      have hdl : ((L.take i).map (·.1)).length ≤ 1000000 := by rw [List.length_map, List.length_take]; omega
      have Hnx := Lib.hid hnx
      have Hym := Lib.hid hym
      have Hhas := Lib.hid (hasF_mem.2 ⟨y.val, hym⟩)
      have Hyok := Lib.hid (HIt.out y (List.mem_of_getElem? Hy.out))
      have hFa := hFr.keep (hbra.mono hBr)
      have hIa := hIr.up hbra
      have hKa := hKr.below hbra hKr.lt
      have hDa := hDr.up hbra
      have hba := hbr.trans (hbra.mono hbr.size)
      have hBa := Nat.le_trans hBr hbra.size
      clear hLy hFr hIr hKr hDr hbr hnx hym
      go_upto_region 12 with (first
        | (refine wpList_load_mid rfl _ _ rfl b (off + i * 33) rfl VL _ hrg Tryz.underlying40 rfl HVi.out ?_)
        | (refine wpList_allocZ8 rfl 40 rfl IZ.toArray (HIZ.out _) ?_)
        | (refine wpList_store_row rfl _ _ _ rfl wr.heap.size VL.toArray rfl rfl 40 IZ.toArray (heap_alloc_new wr _) HVj.out HVz.out HV1.out ?_; rw [← Hwa.out]))
      obtain ⟨cb, hcb⟩ : ∃ x, wr.heap.size = x := ⟨_, rfl⟩
      rw [hcb] at hVa Hyk Hyv ⊢
      clear hcb
      have hyk := Hyk.out wa hVa
      have hYl : YL.length = 32 := by rw [HYL.out, Lib.byteCells_length, Hy32.out]
      have hbA : Below wa.heap.size wa (wa.alloc (.cells YL.toArray 24)) := (Below.refl _ wa).alloc (Nat.le_refl _) _
      obtain ⟨W1, hW1⟩ : ∃ x, x = wa.alloc (.cells YL.toArray 24) := ⟨_, rfl⟩
      have hA1 : Arr W1 wa.heap.size 24 (Lib.byteCells y.key) := by rw [hW1, ← HYL.out]; exact Arr.new wa _ _
      rw [← hW1] at hbA
      have hD1 := hDa.up hbA
      have hB1 : Bk ≤ W1.heap.size := Nat.le_trans hBa hbA.size
      have hF1 := hFa.keep (hbA.mono hBa)
      have hI1 := hIa.up hbA
      have hK1 := hKa.below hbA hKa.lt
      have hV1 := hVa.below hbA hVa.lt
      have hlo := hD1.lt
      have hb1 := hba.trans (hbA.mono hba.size)
      have HW1 := Lib.hid hW1
      clear hW1 hDa hFa hIa hKa hbA hba hBa hVa
      go_upto_region 13 with (first
        | (refine wpList_load_mid rfl _ _ rfl cb 0 rfl YL _ hyk Tryz.underlying24 rfl HYi.out ?_)
        | (refine wpList_build_dig rfl _ rfl YL hYl rfl ?_; rw [← HW1.out])
        | (at_builtin; refine wpList_append_dig rfl _ _ rfl hD1 hB1 rfl wa.heap.size 1 rfl y.key Hy32.out hA1 hdl ?_; intro v2 w2 hD2 hg2))
      rw [← Hnx.out] at hD2
      have ho2 := grown_onlyR hg2
      have hbg := (Below.refl Bk W1).grown hg2 hB1 (fun k hk => (hlo k hk).1)
      have hF2 := hF1.keep hbg
      have hI2 := hI1.grownD hD1 hg2
      have hK2 : Arr w2 w.heap.size 24 KL := hK1.only ho2 (fun q => by have := (hlo _ q).1; have := HKw.out; omega)
      have hV2 : Arr w2 cb 40 VL := hV1.onlyD hD1 ho2
      have hb2 := hb1.trans (hbg.mono hwk)
      have hB2 := Nat.le_trans hB1 hg2.size
      have hyk2 := Hyk.out w2 hV2
      obtain ⟨A2, c2, rfl, _⟩ := hD2.slice
      obtain ⟨nd2, hnd2⟩ : ∃ x, ((L.take (i + 1)).map (·.1)).length = x := ⟨_, rfl⟩
      rw [hnd2] at hD2 ⊢
      clear hnd2
      clear hD1 hF1 hI1 hK1 hV1 hA1 hg2 ho2 hlo hb1 hB1 hyk
      go_wp2_with (refine wpList_load_mid rfl _ _ rfl cb 0 rfl YL _ hyk2 Tryz.underlying24 rfl HYi.out ?_)
      go_at_call 17
      refine Calls.mono (forest_get w.heap.size a L [] y.key YL HYL.out Hy32.out w2 hF2.toF) ?_
      rintro e w6 ⟨v6, rfl, _, hb26, hY6, _⟩
      have hF6 := hF2.keep (hb26.mono hB2)
      rw [Hhas.out] at hY6 ⊢
      obtain ⟨v0, hv0, hO6⟩ := hY6 rfl
      obtain rfl : v0 = y.val := rise_uniq HLr.out hv0 Hym.out
      obtain ⟨A6, c6, rfl, h61, h62, h63⟩ := hO6.slice
      rw [Hly.out] at h61 ⊢
      have hb6 := hb2.trans (hb26.mono hb2.size)
      have hB6 := Nat.le_trans hB2 hb26.size
      have hV6 := hV2.below hb26 hV2.lt
      have hI6 := hI2.up hb26
      have hK6 := hK2.below hb26 hK2.lt
      have hD6 := hD2.up hb26
      have hbv6 : Bs w6 w.heap.size Ay y.val := by rw [← HAy.out]; exact Hyok.out.1.bs.below hb6 (Nat.le_refl _)
      have hlym : ly ≤ maxLen := by rw [← Hly.out]; exact Nat.le_trans Hyok.out.2 (by decide)
      have Hlym := Lib.hid hlym
      clear hY6 hv0 hO6 hF2 hI2 hK2 hV2 hD2 hb2 hB2 hyk2 hlym hb26
      dsimp only
      go_upto_region 14 with fail
      refine wp_region_held_drew (S := fun w' => Arr w' cb 40 VL) (by kernel_rfl) (hV6.drewN 1) (fun hHeld => ?_)
      refine anyH_take (i := 0) (v := .bool true) (some 61) rfl rfl (by kernel_rfl) (by kernel_rfl) (by kernel_rfl) (fun _ _ _ h => h) (Or.inl ⟨by rfl, fun w' hw => by rfl⟩) (by assumption) ?_
      simp only [Act.put, List.setIfInBounds_toArray, List.set_cons_zero, List.set_cons_succ]
      refine anyH_take (i := 1) (v := .bool false) (some 62) rfl rfl (by kernel_rfl) (by kernel_rfl) (by kernel_rfl) (fun _ _ _ h => h) (Or.inl ⟨by rfl, fun w' hw => by rfl⟩) (by assumption) ?_
      simp only [Act.put, List.setIfInBounds_toArray, List.set_cons_zero, List.set_cons_succ]
      refine anyH_take (i := 2) (v := .bool false) (some 63) rfl rfl (by kernel_rfl) (by kernel_rfl) (by kernel_rfl) (fun _ _ _ h => h) (Or.inl ⟨by rfl, fun w' hw => by rfl⟩) (by assumption) ?_
      simp only [Act.put, List.setIfInBounds_toArray, List.set_cons_zero, List.set_cons_succ]
      refine anyH_take (i := 3) (v := .slice A6 ly c6) (some 64) rfl rfl (by kernel_rfl) (by kernel_rfl) (by kernel_rfl) (fun _ _ _ h => h) (Or.inl ⟨by rfl, fun w' hw => by rfl⟩) (by assumption) ?_
      simp only [Act.put, List.setIfInBounds_toArray, List.set_cons_zero, List.set_cons_succ]
      refine anyH_take (i := 4) (v := .pointer (some ⟨cb, 32, none⟩)) (some 65) rfl rfl (by kernel_rfl) (by kernel_rfl) (by kernel_rfl) (fun _ _ _ h => h) (Or.inl ⟨by rfl, fun w' hw => by go_simp⟩) (by assumption) ?_
      simp only [Act.put, List.setIfInBounds_toArray, List.set_cons_zero, List.set_cons_succ]
      refine anyH_take (i := 5) (v := .slice Ay ly cy) (some 66) rfl rfl (by kernel_rfl) (by kernel_rfl) (by kernel_rfl) (fun _ _ _ h => h) (Or.inl ⟨by rfl, fun w' hw => by (have hc := Hyv.out w' hw; go_simp)⟩) (by assumption) ?_
      simp only [Act.put, List.setIfInBounds_toArray, List.set_cons_zero, List.set_cons_succ]
      refine wpAnyH_ready (rs := [6]) (by kernel_rfl) (by simp) ?_
      refine AllReadyH.cons rfl (fun K hK => ?_) AllReadyH.nil
      go_simp
      go_at_call 18
      refine Calls.mono (same_n _ _ A6 Ay c6 cy ly ly y.val y.val w6.drew true (h63.below (Below.dN (Below.refl _ _) 1) (Nat.le_refl _)) (hbv6.below (Below.dN (Below.refl _ _) 1) hb6.size) Hly.out Hly.out Hlym.out Hlym.out (by simp)) ?_
      rintro e w7 ⟨rfl, k7, rfl⟩
      have hV7 : Arr (w6.drew.drewN k7) cb 40 VL := Arr.drewN (w := w6.drew) (hV6.drewN 1) k7
      have hb67 : Below w6.heap.size w6 (w6.drew.drewN k7) := Below.dN (Below.dN (Below.refl _ w6) 1) k7
      obtain ⟨w7, hw7⟩ : ∃ x, x = w6.drew.drewN k7 := ⟨_, rfl⟩
      rw [← hw7] at hV7 hb67 ⊢
      have hF7 := hF6.keep (hb67.mono hB6)
      have hI7 := hI6.up hb67
      have hK7 := hK6.below hb67 hK6.lt
      have hD7 := hD6.up hb67
      have hb7 := hb6.trans (hb67.mono hb6.size)
      have hB7 := Nat.le_trans hB6 hb67.size
      clear hw7 hF6 hI6 hK6 hD6 hV6 hbv6 h63
      refine hK.out _ _ hV7 (fun hHeldx => ?_)
      clear hK K
      try simp only [Act.put, List.setIfInBounds_toArray, List.set_cons_zero, List.set_cons_succ]
      refine anyH_take (i := 7) (v := .bool false) (some 68) rfl rfl (by kernel_rfl) (by kernel_rfl) (by kernel_rfl) (fun _ _ _ h => h) (Or.inl ⟨by rfl, fun w' hw => by go_simp⟩) (by assumption) ?_
      simp only [Act.put, List.setIfInBounds_toArray, List.set_cons_zero, List.set_cons_succ]
      refine anyH_take (i := 8) (v := .bool false) (some 69) rfl rfl (by kernel_rfl) (by kernel_rfl) (by kernel_rfl) (fun _ _ _ h => h) (Or.inl ⟨by rfl, fun w' hw => by rfl⟩) (by assumption) ?_
      simp only [Act.put, List.setIfInBounds_toArray, List.set_cons_zero, List.set_cons_succ]
      refine anyH_take (i := 9) (v := .bool false) (some 70) rfl rfl (by kernel_rfl) (by kernel_rfl) (by kernel_rfl) (fun _ _ _ h => h) (Or.inl ⟨by rfl, fun w' hw => by rfl⟩) (by assumption) ?_
      simp only [Act.put, List.setIfInBounds_toArray, List.set_cons_zero, List.set_cons_succ]
      refine anyH_take (i := 10) (v := .pointer (some ⟨a, 0, none⟩)) (some 71) rfl rfl (by kernel_rfl) (by kernel_rfl) (by kernel_rfl) (fun _ _ _ h => h) (Or.inl ⟨by rfl, fun w' hw => by rfl⟩) (by assumption) ?_
      simp only [Act.put, List.setIfInBounds_toArray, List.set_cons_zero, List.set_cons_succ]
      refine anyH_take (i := 11) (v := .pointer (some ⟨cb, 0, none⟩)) (some 72) rfl rfl (by kernel_rfl) (by kernel_rfl) (by kernel_rfl) (fun _ _ _ h => h) (Or.inl ⟨by rfl, fun w' hw => by go_simp⟩) (by assumption) ?_
      simp only [Act.put, List.setIfInBounds_toArray, List.set_cons_zero, List.set_cons_succ]
      refine anyH_take (i := 12) (some 73) rfl rfl (by kernel_rfl) (by kernel_rfl) (by kernel_rfl) (fun _ _ _ h => h) (yieldsIf_load_mid (by rfl) 24 (.tmp 72) rfl cb 0 rfl YL _ (fun w' h => Hyk.out w' h) Tryz.underlying24 rfl HYi.out) (by assumption) ?_
      simp only [Act.put, List.setIfInBounds_toArray, List.set_cons_zero, List.set_cons_succ]
      refine anyH_take (i := 14) (v := .slice (some ⟨b, off, none⟩) n5 c5) (some 75) rfl rfl (by kernel_rfl) (by kernel_rfl) (by kernel_rfl) (fun _ _ _ h => h) (Or.inl ⟨by rfl, fun w' hw => by rfl⟩) (by assumption) ?_
      simp only [Act.put, List.setIfInBounds_toArray, List.set_cons_zero, List.set_cons_succ]
      refine anyH_take (i := 15) (v := .pointer (some ⟨cb, 0, none⟩)) (some 76) rfl rfl (by kernel_rfl) (by kernel_rfl) (by kernel_rfl) (fun _ _ _ h => h) (Or.inl ⟨by rfl, fun w' hw => by go_simp⟩) (by assumption) ?_
      simp only [Act.put, List.setIfInBounds_toArray, List.set_cons_zero, List.set_cons_succ]
      refine anyH_take (i := 16) (some 77) rfl rfl (by kernel_rfl) (by kernel_rfl) (by kernel_rfl) (fun _ _ _ h => h) (yieldsIf_load_mid (by rfl) 24 (.tmp 76) rfl cb 0 rfl YL _ (fun w' h => Hyk.out w' h) Tryz.underlying24 rfl HYi.out) (by assumption) ?_
      simp only [Act.put, List.setIfInBounds_toArray, List.set_cons_zero, List.set_cons_succ]
      refine wpAnyH_ready (rs := [13]) (by kernel_rfl) (by simp) ?_
      refine AllReadyH.cons rfl (fun K hK => ?_) AllReadyH.nil
      go_simp
      go_at_call 15
      refine Calls.mono (forestN_prove Bk w.heap.size a L [] y.key YL HYL.out Hy32.out w7 hF7) ?_
      rintro e w8 ⟨v8, rfl, hP8, hF8, hT8⟩
      have hb8 := hb7.trans (hT8.below hb7.size)
      have hV8 := hT8.arr hV7 (by decide) (by decide)
      have hK8 := hT8.arr hK7 (by decide) (by decide)
      have hI8 := hT8.irow hI7
      have hD8 := hT8.drow hD7
      have hB8 := Nat.le_trans hB7 (Only.size hT8)
      clear hF7 hK7 hI7 hV7 hD7 hT8
      obtain ⟨A8, c8, e8, _⟩ := hP8.toN.rows
      subst e8
      refine hK.out _ _ hV8 (fun hHeldx => ?_)
      clear hK K
      try simp only [Act.put, List.setIfInBounds_toArray, List.set_cons_zero, List.set_cons_succ]
      refine wpAnyH_ready (rs := [17]) (by kernel_rfl) (by simp) ?_
      refine AllReadyH.cons rfl (fun K hK => ?_) AllReadyH.nil
      go_simp
      go_at_call 16
      refine Calls.mono (prove_runI y.key Hy32.out YL HYL.out (playI cs) (some ⟨b, off, none⟩) n5 c5 w8 (Hfit.out w8 hI8 hb8) (proveF y.key 65 L 0) (by rw [← HL.out])) ?_
      rintro e w9 ⟨v9, rfl, hN9, hb89⟩
      have hPn := hP8.toN.up hb89
      obtain ⟨Ap, cp, ep, hp1, hp2, hp3⟩ := hPn.rows
      injection ep with ep1 ep2 ep3
      subst ep1 ep3
      obtain ⟨Aq, cq, rfl, hq1, hq2, hq3⟩ := hN9.rows
      obtain ⟨np, hnp⟩ : ∃ x, (proveF y.key 65 L 0).length = x := ⟨_, rfl⟩
      rw [hnp] at hp1 hq1 ⊢
      unfold maxLen at hp2 hq2
      have Hnp := Lib.hid hnp
      have hb9 := hb8.trans (hb89.mono hb8.size)
      have hV9 := hV8.below hb89 hV8.lt
      have hK9 := hK8.below hb89 hK8.lt
      have hI9 := hI8.up hb89
      have hD9 := hD8.up hb89
      have hF9 := hF8.keep (hb89.mono hB8)
      have hB9 := Nat.le_trans hB8 hb89.size
      clear hnp hPn hP8 hN9 hV8 hK8 hI8 hD8 hF8 hb89
      refine hK.out _ _ hV9 (fun hHeldx => ?_)
      clear hK K
      try simp only [Act.put, List.setIfInBounds_toArray, List.set_cons_zero, List.set_cons_succ]
      refine wpAnyH_ready (rs := [18]) (by kernel_rfl) (by simp) ?_
      refine AllReadyH.cons rfl (fun K hK => ?_) AllReadyH.nil
      go_simp
      go_at_call 14
      refine Calls.mono (sameRows_any (proveF y.key 65 L 0) A8 Aq np c8 cq w9 Hnp.out hp1 hp2 hq1 hq2 hp3 hq3) ?_
      rintro e w10 ⟨rfl, k10, rfl⟩
      refine hK.out _ _ (hV9.drewN k10) (fun hHeldx => ?_)
      clear hK K
      try simp only [Act.put, List.setIfInBounds_toArray, List.set_cons_zero, List.set_cons_succ]
      refine anyH_take (i := 19) (v := .bool false) (some 80) rfl rfl (by kernel_rfl) (by kernel_rfl) (by kernel_rfl) (fun _ _ _ h => h) (Or.inl ⟨by rfl, fun w' hw => by go_simp⟩) (by assumption) ?_
      simp only [Act.put, List.setIfInBounds_toArray, List.set_cons_zero, List.set_cons_succ]
      refine anyH_take (i := 20) (v := .bool false) (some 81) rfl rfl (by kernel_rfl) (by kernel_rfl) (by kernel_rfl) (fun _ _ _ h => h) (Or.inl ⟨by rfl, fun w' hw => by rfl⟩) (by assumption) ?_
      simp only [Act.put, List.setIfInBounds_toArray, List.set_cons_zero, List.set_cons_succ]
      refine wpAnyH_done (by kernel_rfl) ?_ _
      clear hHeld
      have hX := Below.dN (Below.refl w9.heap.size w9) k10
      have hbX : Below w.heap.size w (w9.drewN k10) := Below.dN hb9 k10
      have hIX := hI9.up hX
      have hFX := hF9.keep (hX.mono hB9)
      have hDX := hD9.up hX
      have hKX : Arr (w9.drewN k10) w.heap.size 24 KL := hK9.drewN k10
      have hBX : Bk ≤ (w9.drewN k10).heap.size := hB9
      clear hX hb9 hI9 hF9 hD9 hK9 hB9 hV9
      go_wp2_with fail
      case roundEnd => exact ⟨⟨i + 1, by omega, by simp, hbX, hBX, hIX, hKX, hFX, hDX⟩, by simp [intOf]; omega⟩
    · obtain rfl : n5 = i := by omega
      have hd4 : decide ((n5 : Int) < (n5 : Int)) = false := by simp
      have ht : L.take n5 = L := List.take_of_length_le (by rw [HL.out, List.length_map, Hn5.out]; exact Nat.le_refl _)
      rw [ht] at hDr
      clear ht
      obtain ⟨Ad, cd, rfl, hd1, hd2, hd3⟩ := hDr.slice
      obtain ⟨nk, hnk⟩ : ∃ x, (L.map (·.1)).length = x := ⟨_, rfl⟩
      rw [hnk] at hd1 ⊢
      have Hnk := Lib.hid hnk
      obtain ⟨hs, hhs⟩ : ∃ hs, hasF L key = hs := ⟨_, rfl⟩
      have Hhs := Lib.hid hhs
      obtain ⟨z, hz⟩ : ∃ z, findI (playI cs) key 0 = z := ⟨_, rfl⟩
      have hzh : decide (0 ≤ z) = hs := by rw [← hhs, HL.out, has_find, hz]
      have Hz := Lib.hid hz
      clear hnk hhs hz
      have hXr : wr.heap[w.heap.size]? = some (.cells KL.toArray 24 (0, 0)) := hKr
      go_wp2_with (refine wpList_load_row rfl _ _ rfl w.heap.size rfl 24 KL.toArray (0, 0) _ hKr Tryz.underlying24 rfl HKi.out ?_)
      go_at_call 17
      refine Calls.mono (forest_get w.heap.size a L [] key KL HKL.out Hk.out _ hFr.toF) ?_
      rintro e w6 ⟨v6, rfl, hF6, hbr6, hY6, hN6⟩
      rw [Hhs.out] at hY6 hN6 ⊢
      have hb6 := hbr.trans (hbr6.mono hbr.size)
      have hK6 := hKr.below hbr6 hKr.lt
      have hI6 := hIr.up hbr6
      have hD6 := hDr.up hbr6
      have hv6 : ∃ A6 m6 c6, v6 = .slice A6 m6 c6 ∧ (hs = false → m6 = 0) := by
        cases hs with
        | true =>
          obtain ⟨v0, _, hO⟩ := hY6 rfl
          obtain ⟨A6, c6, e, _⟩ := hO.slice
          exact ⟨A6, _, c6, e, fun h => by cases h⟩
        | false => exact ⟨none, 0, 0, hN6 rfl, fun _ => rfl⟩
      obtain ⟨A6, m6, c6, rfl, hm6⟩ := hv6
      clear hXr hKr hIr hDr hFr hbr6 hY6 hN6 hbr hd3
      dsimp only
      go_wp2_with fail
      go_at_call 20
      refine Calls.mono (forest_keys w.heap.size a L [] (by have := HLn.out; omega) w6 hF6) ?_
      rintro e w7 ⟨v7, rfl, hF7, hD7, hb67⟩
      have hb7 := hb6.trans (hb67.mono hb6.size)
      have hK7 := hK6.below hb67 hK6.lt
      have hI7 := hI6.up hb67
      have hD6b := hD6.up hb67
      obtain ⟨A7, c7, rfl, h71, h72, h73⟩ := hD7.slice
      obtain ⟨Ad', cd', ed, _, _, hd3⟩ := hD6b.slice
      injection ed with ed1 ed2 ed3
      subst ed1 ed3
      rw [Hnk.out] at h71 ⊢
      unfold maxLen at h72 hd2
      clear hD7 hD6 hD6b hb67 hF6 hF7 hb6 hK6 hI6
      dsimp only
      go_wp2_with fail
      go_at_call 19
      refine Calls.mono (digSame_any (L.map (·.1)) A7 Ad nk c7 cd w7 Hnk.out h71 h72 hd1 hd2 h73 hd3) ?_
      rintro e w8 ⟨rfl, k8, rfl⟩
      have hK8 : Arr (w7.drewN k8) w.heap.size 24 KL := hK7.drewN k8
      have hb8 : Below w.heap.size w (w7.drewN k8) := Below.dN hb7 k8
      have hI8 := hI7.up (Below.dN (Below.refl _ w7) k8)
      have hIt8 : ItsAt (w7.drewN k8) A5 (playI cs) := by
        obtain ⟨A', c', q, _, _, h⟩ := hI8.slice
        injection q with q1 q2 q3
        rw [q1]; exact h
      clear hK7 hb7 hI7 hI8
      dsimp only
      go_wp2_with (refine wpList_load_row_ifT (by rfl) _ _ rfl w.heap.size rfl 24 KL.toArray _ hK8 Tryz.underlying24 rfl HKi.out ?_)
      go_at_call 21
      refine Calls.mono (find_run key Hk.out KL HKL.out (playI cs) A5 n5 c5 _ Hn5.out h5c (by omega) hIt8 z Hz.out) ?_
      rintro e w9 ⟨rfl, hb9⟩
      have hb9' := hb8.trans (hb9.mono hb8.size)
      clear hb9 hb8 hK8 hIt8
      dsimp only
      cases hs with
      | true =>
        clear hm6
        have hz0 : 0 ≤ z := by simpa using hzh
        go_wp2_with fail
        go_ret
        exact ⟨rfl, hb9'⟩
      | false =>
        obtain rfl := hm6 rfl
        have hz0 : ¬ 0 ≤ z := by simpa using hzh
        go_wp2_with fail
        go_ret
        exact ⟨rfl, hb9'⟩

theorem tcalls_walk (A : Option Addr) (n c : Nat) (cs : List Cl8) (hn : cs.length = n) (hc : n ≤ c) (hm : c ≤ maxLen) (key : List UInt8) (w : World) (hcs : Cls8 w w.heap.size A cs) (hk : key.length = 32) : Calls Tryz.prog 3 #[.slice A n c, .agg (Lib.byteCells key).toArray] w fun e w' => e = .returned (.bool true) ∧ Below w.heap.size w w' := by
  cases h : great8 cs with
  | true => exact tcalls_great A n c cs hn hc hm key w hcs hk h
  | false => exact tcalls_in A n c cs hn hc hm key w hcs hk h

end Go.Proofs.YtjbiegbdnppncaaGreat

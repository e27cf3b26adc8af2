/-
  The walk of TrieDrops. Written by gen_tdrops.py.
-/
import Derived.Test.YtjbiegbdnppncaaGreatK17
import Derived.Test.YtjbiegbdnppncaaGreatLMerkArg
namespace Go.Proofs.YtjbiegbdnppncaaGreat
open Go.RowKit
set_option linter.unusedVariables false
set_option linter.unusedSimpArgs false

theorem Cls8.base {w w' : World} {A : Option Addr} {cs : List Cl8} (h : Cls8 w w.heap.size A cs) (hb : Below w.heap.size w w') : Cls8 w' w'.heap.size A cs := by
  have := h.below hb (Nat.le_refl _)
  exact ⟨fun x hx => ⟨(this.1 x hx).k32, (this.1 x hx).le, (this.1 x hx).lim, (this.1 x hx).bs.more hb.size⟩, fun hp => by obtain ⟨b, off, e, hlt, hr⟩ := this.2 hp; exact ⟨b, off, e, Nat.lt_of_lt_of_le hlt hb.size, hr⟩⟩
theorem put_mem_key {key val : List UInt8} (hk : key.length = 32) {l : List It} (h32 : ∀ x ∈ l, x.1.length = 32) : (key, val) ∈ putF key val l := (mem_putF hk h32 _).2 (.inl rfl)
theorem put_mem_val {key val v : List UInt8} (hk : key.length = 32) {l : List It} (h32 : ∀ x ∈ l, x.1.length = 32) (h : (key, v) ∈ putF key val l) : v = val := by
  rcases (mem_putF hk h32 _).1 h with e | ⟨_, e⟩
  · injection e
  · exact absurd rfl e
theorem hasF_put {key val : List UInt8} (hk : key.length = 32) {l : List It} (h32 : ∀ x ∈ l, x.1.length = 32) : hasF (putF key val l) key = true := hasF_mem.2 ⟨val, put_mem_key hk h32⟩
theorem hasF_drop (key : List UInt8) (l : List It) : hasF (dropF key l) key = false := by
  cases h : hasF (dropF key l) key with
  | false => rfl
  | true =>
    obtain ⟨v, hv⟩ := hasF_mem.1 h
    exact absurd rfl ((mem_dropF _).1 hv).2

set_option maxHeartbeats 8000000 in
set_option maxRecDepth 100000 in
theorem tdrops_great (A : Option Addr) (n c : Nat) (cs : List Cl8) (hn : cs.length = n) (hc : n ≤ c) (hm : c ≤ maxLen) (key : List UInt8) (Av : Option Addr) (cv : Nat) (val : List UInt8) (hcv : val.length ≤ cv) (hmv : cv ≤ maxLen) (w : World) (hcs : Cls8 w w.heap.size A cs) (hk : key.length = 32) (hbv : Bs w w.heap.size Av val) (hg : great8 cs = true ∨ 200 < val.length) :
    Calls Tryz.prog 7 #[.slice A n c, .agg (Lib.byteCells key).toArray, .slice Av val.length cv] w fun e w' => e = .returned (.bool true) ∧ Below w.heap.size w w' := by
  obtain ⟨g8, hg8⟩ : ∃ g, great8 cs = g := ⟨_, rfl⟩
  have Hg8 := Lib.hid hg8
  rw [hg8] at hg
  clear hg8
  obtain ⟨KL, hKL⟩ : ∃ KL, KL = Lib.byteCells key := ⟨_, rfl⟩
  rw [← hKL]
  obtain ⟨W2, hW2⟩ : ∃ W2, W2 = w.alloc (.cells KL.toArray 24) := ⟨_, rfl⟩
  have hb2 : Below w.heap.size w W2 := by rw [hW2]; exact (Below.refl _ w).alloc (Nat.le_refl _) _
  have hK2 : Arr W2 w.heap.size 24 KL := by rw [hW2]; exact Arr.new w _ _
  have HKm := Lib.hid (show (Tryz.prog.info? 24).map (·.size) = some KL.length by rw [hKL, Lib.byteCells_length, hk]; kernel_rfl)
  have HKi := Lib.hid (show (Tryz.prog.info? 24).map (·.size) = some KL.toArray.size by rw [hKL, dig_size hk]; kernel_rfl)
  obtain ⟨vl, hvl⟩ : ∃ n, val.length = n := ⟨_, rfl⟩
  rw [hvl] at hcv ⊢
  have HKL := Lib.hid hKL
  have HW2 := Lib.hid hW2
  have Hn := Lib.hid hn
  have Hcs := Lib.hid hcs
  have Hvl := Lib.hid hvl
  have Hk := Lib.hid hk
  have Hbv := Lib.hid hbv
  have Hmc := Lib.hid hm
  have Hmv := Lib.hid hmv
  unfold maxLen at hm hmv
  clear hW2 hn hcs hKL hvl hk hbv
  go_enter Tryz.func7, Tryz.ntmps7
  go_upto_region 1 with fail
  change Code.wp _ _ _ _ (w.alloc (.cells KL.toArray 24))
  rw [← HW2.out]
  clear HW2
  go_wp2_with fail
  go_at_call 9
  refine Calls.mono (speaks8_run W2) ?_
  rintro e w3 ⟨rfl, hb23⟩
  have hb3 := hb2.trans (hb23.mono hb2.size)
  have hK3 := hK2.below hb23 hK2.lt
  clear hb23 hb2 hK2
  dsimp only
  go_wp2_with fail
  go_at_call 10
  refine Calls.mono (great8_any cs A n c w3 Hn.out hc hm (Hcs.out.base hb3)) ?_
  rintro e w4 ⟨rfl, hb34⟩
  have hb4 := hb3.trans (hb34.mono hb3.size)
  have hK4 := hK3.below hb34 hK3.lt
  clear hb34 hb3 hK3
  rw [Hg8.out]
  have Hvl2 : 200 < val.length → 200 < vl := fun h => by rw [← Hvl.out]; exact h
  cases g8 with
  | true =>
    dsimp only
    go_wp2_with fail
    go_ret
    exact ⟨rfl, hb4⟩
  | false =>
    have h200 : 200 < vl := hg.elim (fun h => by cases h) Hvl2
    have hd : decide ((200 : Int) < (vl : Int)) = true := by simp; omega
    clear hg Hvl2
    dsimp only
    go_wp2_with fail
    go_ret
    exact ⟨rfl, hb4⟩

set_option maxHeartbeats 40000000 in
set_option maxRecDepth 100000 in
theorem tdrops_in (A : Option Addr) (n c : Nat) (cs : List Cl8) (hn : cs.length = n) (hc : n ≤ c) (hm : c ≤ maxLen) (key : List UInt8) (Av : Option Addr) (cv : Nat) (val : List UInt8) (hcv : val.length ≤ cv) (hmv : cv ≤ maxLen) (w : World) (hcs : Cls8 w w.heap.size A cs) (hk : key.length = 32) (hbv : Bs w w.heap.size Av val) (hg : great8 cs = false) (hv : val.length ≤ 200) :
    Calls Tryz.prog 7 #[.slice A n c, .agg (Lib.byteCells key).toArray, .slice Av val.length cv] w fun e w' => e = .returned (.bool true) ∧ Below w.heap.size w w' := by
  obtain ⟨L, hL⟩ : ∃ L, L = (playI cs).map Itm.it := ⟨_, rfl⟩
  have hLr : Rise L := by rw [hL]; exact (playI_rise cs (fun x hx => (hcs.1 x hx).k32)).1
  have hL32 : ∀ x ∈ L, x.1.length = 32 := by
    rw [hL]
    rintro x hx
    obtain ⟨y, hy, rfl⟩ := List.mem_map.1 hx
    exact (playI_rise cs (fun x hx => (hcs.1 x hx).k32)).2.1 y hy
  have hL200 : ∀ x ∈ L, x.2.length ≤ 200 := by
    rw [hL]
    rintro x hx
    obtain ⟨y, hy, rfl⟩ := List.mem_map.1 hx
    obtain ⟨z, hz, rfl⟩ := (playI_facts cs).2.1 y hy
    exact (great8_no hg).2 z hz
  have h50 : n ≤ 50 := by rw [← hn]; exact (great8_no hg).1
  have Hv200 := Lib.hid (great8_no hg).2
  obtain ⟨SL, hSL⟩ : ∃ SL, SL = Lib.byteCells (rootF L) := ⟨_, rfl⟩
  have hrl : (rootF L).length = 32 := by unfold rootF nodeD; split <;> exact shaF_length _
  have HSm := Lib.hid (show (Tryz.prog.info? 24).map (·.size) = some SL.length by rw [hSL, Lib.byteCells_length, hrl]; kernel_rfl)
  have HSi := Lib.hid (show (Tryz.prog.info? 24).map (·.size) = some SL.toArray.size ∧ (Lib.byteCells zeros).toArray.size = SL.toArray.size by rw [hSL, dig_size hrl]; exact ⟨by kernel_rfl, by kernel_rfl⟩)
  have HS1 := Lib.hid (show SL.toArray.all (·.oneCell') = true by rw [hSL]; exact all_oneCell_toArray (byteCells_one _))
  have hgt := gt32
  have heS : ∀ w, (Op.equalIn 10000 24 (.agg SL.toArray) (.agg SL.toArray)).run Tryz.prog w = .ok true w := fun w => by
    rw [eqv_at Tryz.underlying24 _ _ hrl hrl SL SL hSL hSL w]; simp
  have HL := Lib.hid hL
  have HSL := Lib.hid hSL
  have HLr := Lib.hid hLr
  have HL32 := Lib.hid hL32
  have HL200 := Lib.hid hL200
  obtain ⟨hs, hhs⟩ : ∃ hs, hasF L key = hs := ⟨_, rfl⟩
  have Hhs := Lib.hid hhs
  have Hg8 := Lib.hid hg
  clear hSL hL hrl hLr hL32 hL200 hhs hg
  obtain ⟨KL, hKL⟩ : ∃ KL, KL = Lib.byteCells key := ⟨_, rfl⟩
  rw [← hKL]
  obtain ⟨W2, hW2⟩ : ∃ W2, W2 = w.alloc (.cells KL.toArray 24) := ⟨_, rfl⟩
  have hb2 : Below w.heap.size w W2 := by rw [hW2]; exact (Below.refl _ w).alloc (Nat.le_refl _) _
  have hK2 : Arr W2 w.heap.size 24 KL := by rw [hW2]; exact Arr.new w _ _
  have HKm := Lib.hid (show (Tryz.prog.info? 24).map (·.size) = some KL.length by rw [hKL, Lib.byteCells_length, hk]; kernel_rfl)
  have HKi := Lib.hid (show (Tryz.prog.info? 24).map (·.size) = some KL.toArray.size by rw [hKL, dig_size hk]; kernel_rfl)
  obtain ⟨vl, hvl⟩ : ∃ n, val.length = n := ⟨_, rfl⟩
  rw [hvl] at hcv ⊢
  have HKL := Lib.hid hKL
  have HW2 := Lib.hid hW2
  have Hn := Lib.hid hn
  have Hcs := Lib.hid hcs
  have Hvl := Lib.hid hvl
  have Hk := Lib.hid hk
  have Hbv := Lib.hid hbv
  have Hmc := Lib.hid hm
  have Hmv := Lib.hid hmv
  unfold maxLen at hm hmv
  clear hW2 hn hcs hKL hvl hk hbv
  go_enter Tryz.func7, Tryz.ntmps7
  go_upto_region 1 with fail
  change Code.wp _ _ _ _ (w.alloc (.cells KL.toArray 24))
  rw [← HW2.out]
  clear HW2
  go_wp2_with fail
  go_at_call 9
  refine Calls.mono (speaks8_run W2) ?_
  rintro e w3 ⟨rfl, hb23⟩
  have hb3 := hb2.trans (hb23.mono hb2.size)
  have hK3 := hK2.below hb23 hK2.lt
  clear hb23 hb2 hK2
  dsimp only
  go_wp2_with fail
  go_at_call 10
  refine Calls.mono (great8_any cs A n c w3 Hn.out hc hm (Hcs.out.base hb3)) ?_
  rintro e w4 ⟨rfl, hb34⟩
  have hb4 := hb3.trans (hb34.mono hb3.size)
  have hK4 := hK3.below hb34 hK3.lt
  clear hb34 hb3 hK3
  rw [Hg8.out]
  have hd : decide ((200 : Int) < (vl : Int)) = false := by have h := hv; rw [Hvl.out] at h; simp; omega
  dsimp only
  go_wp2_with fail
  go_at_call 11
  refine Calls.mono (forest_play w.heap.size [] cs A n c w4 (Forest.none _ _) hb4.size Hn.out h50 hc Hmc.out (Hcs.out.base hb4) Hv200.out) ?_
  rintro e w5 ⟨a, v5, rfl, ha5, hI5, hF5, hb45⟩
  rw [← HL.out] at hF5
  have hb5 := hb4.trans (hb45.mono hb4.size)
  have hK5 := hK4.below hb45 hK4.lt
  have haw := (hF5.lt (x := (a, L)) (by simp))
  have hBs5 := hb5.size
  obtain ⟨A5, c5, rfl, _, _, _⟩ := hI5.slice
  obtain ⟨n5, hn5⟩ : ∃ n, (playI cs).length = n := ⟨_, rfl⟩
  rw [hn5]
  clear hb45 hK4 hI5 hn5 hb4
  dsimp only
  go_wp2_with fail
  go_at_call 12
  refine Calls.mono (forest_root w.heap.size a L [] SL HSL.out w5 hF5) ?_
  rintro e w6 ⟨rfl, hF6, hT6⟩
  have hK6 := hT6.arr hK5 (by decide) (by decide)
  have hb6 := hb5.trans (hT6.below hBs5)
  clear hT6 hF5 hK5 hb5
  dsimp only
  go_upto_region 9 with (change wpList _ _ _ _ _ (w6.alloc (.cells (Lib.byteCells zeros).toArray 24)); refine wpList_store_row rfl _ _ _ rfl w6.heap.size SL.toArray rfl rfl 24 (Lib.byteCells zeros).toArray (heap_alloc_new w6 _) HSi.out.1 HSi.out.2 HS1.out ?_; obtain ⟨w7, hw7⟩ : ∃ x, x = (w6.alloc (.cells (Lib.byteCells zeros).toArray 24)).setRow w6.heap.size SL.toArray := ⟨_, rfl⟩; rw [← hw7]; obtain ⟨hS7, hb67⟩ := alloc_row w6 24 (Lib.byteCells zeros).toArray SL; rw [← hw7] at hS7 hb67; clear hw7)
  have hb7 := hb6.trans (hb67.mono hb6.size)
  have hF7 := hF6.up hb67
  have hK7 := hK6.below hb67 hK6.lt
  have hB7 := hb7.size
  obtain ⟨g, hg⟩ : ∃ g, g = w6.heap.size := ⟨_, rfl⟩
  rw [← hg] at hS7 ⊢
  clear hg hb67 hF6 hK6 hb6 haw hBs5
  go_wp2_with (refine wpList_load_row rfl _ _ rfl w.heap.size rfl 24 KL.toArray (0, 0) _ hK7 Tryz.underlying24 rfl HKi.out ?_)
  go_at_call 17
  refine Calls.mono (forest_get w.heap.size a L [] key KL HKL.out Hk.out w7 hF7) ?_
  rintro e w8 ⟨v8, rfl, hF8, hb78, hY8, hN8⟩
  rw [Hhs.out] at hY8 hN8 ⊢
  have hb8 := hb7.trans (hb78.mono hB7)
  have hK8 := hK7.below hb78 hK7.lt
  have hS8 := hS7.below hb78 hS7.lt
  have hB8 := hb8.size
  clear hF7 hb78 hK7 hS7 hb7 hB7
  cases hs with
  | true =>
    obtain ⟨v0, hv0, hO8⟩ := hY8 rfl
    clear hY8 hN8
    have hv0l : v0.length ≤ 1000 := Nat.le_trans (HL200.out _ hv0) (by decide)
    have hpd : putF key v0 (dropF key L) = L := put_drop Hk.out HLr.out HL32.out hv0
    have Hpd := Lib.hid hpd
    have hO8' := hO8
    obtain ⟨A8, c8, rfl, h81, h82, h83⟩ := hO8.slice
    obtain ⟨n8, hn8⟩ : ∃ n, v0.length = n := ⟨_, rfl⟩
    rw [hn8] at h81 hO8' ⊢
    have Hn8 := Lib.hid hn8
    have Hv0 := Lib.hid hv0l
    clear hv0 hO8 hpd hn8 hv0l h83
    dsimp only
    go_wp2_with (refine wpList_load_row rfl _ _ rfl w.heap.size rfl 24 KL.toArray (0, 0) _ hK8 Tryz.underlying24 rfl HKi.out ?_)
    go_at_call 24
    refine Calls.mono (forest_drop w.heap.size a L [] (by simp) key KL HKL.out Hk.out w8 hF8 hB8) ?_
    rintro e w9 ⟨rfl, hF9, hT9⟩
    rw [Hhs.out]
    have hK9 := hT9.arr hK8 (by decide) (by decide)
    have hS9 := hT9.arr hS8 (by decide) (by decide)
    have hb9 := hb8.trans (hT9.below hB8)
    have hO9 := hT9.owns hO8'
    have hB9 := hb9.size
    clear hF8 hK8 hS8 hb8 hT9 hO8' hB8
    dsimp only
    go_wp2_with (refine wpList_load_row_ifT (by rfl) _ _ rfl w.heap.size rfl 24 KL.toArray _ hK9 Tryz.underlying24 rfl HKi.out ?_)
    go_at_call 24
    refine Calls.mono (forest_drop w.heap.size a _ [] (by simp) key KL HKL.out Hk.out w9 hF9 hB9) ?_
    rintro e w10 ⟨rfl, hF10, hT10⟩
    rw [hasF_drop, dropF_none (hasF_drop key L)] at *
    have hK10 := hT10.arr hK9 (by decide) (by decide)
    have hS10 := hT10.arr hS9 (by decide) (by decide)
    have hb10 := hb9.trans (hT10.below hB9)
    have hO10 := hT10.owns hO9
    have hB10 := hb10.size
    clear hF9 hK9 hS9 hb9 hT10 hO9 hB9
    dsimp only
    go_wp2_with (refine wpList_load_row rfl _ _ rfl w.heap.size rfl 24 KL.toArray (0, 0) _ hK10 Tryz.underlying24 rfl HKi.out ?_)
    go_at_call 17
    refine Calls.mono (forest_get w.heap.size a _ [] key KL HKL.out Hk.out w10 hF10) ?_
    rintro e w11 ⟨v11, rfl, hF11, hb1011, hY11, hN11⟩
    rw [hasF_drop] at hN11 ⊢
    obtain rfl := hN11 rfl
    have hb11 := hb10.trans (hb1011.mono hB10)
    have hK11 := hK10.below hb1011 hK10.lt
    have hS11 := hS10.below hb1011 hS10.lt
    have hO11 := hO10.below hb1011 (fun k hk => (hO10.lt k hk).2)
    have hB11 := hb11.size
    clear hF10 hK10 hS10 hb10 hO10 hB10 hY11 hN11 hb1011
    dsimp only
    go_wp2_with (refine wpList_load_row rfl _ _ rfl w.heap.size rfl 24 KL.toArray (0, 0) _ hK11 Tryz.underlying24 rfl HKi.out ?_)
    go_at_call 23
    obtain ⟨A8', c8', hA8, _, _, h83⟩ := hO11.slice
    injection hA8 with hA8 _ _
    subst hA8
    refine Calls.mono (forest_put w.heap.size a _ [] (by simp) key v0 KL HKL.out Hk.out _ A8 n8 c8 w11 hF11 hB11 h83 Hn8.out Hv0.out) ?_
    rintro e w12 ⟨rfl, hF12, hT12⟩
    rw [Hpd.out] at hF12
    have hK12 := hT12.arr hK11 (by decide) (by decide)
    have hS12 := hT12.arr hS11 (by decide) (by decide)
    have hb12 := hb11.trans (hT12.below hB11)
    have hB12 := hb12.size
    clear hF11 hK11 hS11 hb11 hT12 hO11 hB11 h83
    dsimp only
    go_upto_region 17 with fail
    refine wp_region_held_drew (S := fun w' => Arr w' w.heap.size 24 KL ∧ Arr w' g 24 SL) (by kernel_rfl) ⟨hK12.drewN 1, hS12.drewN 1⟩ (fun hHeld => ?_)
    refine anyH_take (i := 0) (v := .pointer (some ⟨a, 0, none⟩)) (some 61) rfl rfl (by kernel_rfl) (by kernel_rfl) (by kernel_rfl) (fun _ _ _ h => h) (Or.inl ⟨by rfl, fun w' hw => by rfl⟩) (by assumption) ?_
    simp only [Act.put, List.setIfInBounds_toArray, List.set_cons_zero, List.set_cons_succ]
    refine anyH_take (i := 2) (some 63) rfl rfl (by kernel_rfl) (by kernel_rfl) (by kernel_rfl) (fun _ _ _ h => h) (yieldsIf_load_mid (by rfl) 24 (.tmp 9) rfl g 0 rfl SL _ (fun w' h => (h.2).range) Tryz.underlying24 rfl HSm.out) (by assumption) ?_
    simp only [Act.put, List.setIfInBounds_toArray, List.set_cons_zero, List.set_cons_succ]
    refine wpAnyH_ready (rs := [1]) (by kernel_rfl) (by simp) ?_
    refine AllReadyH.cons rfl (fun K hK => ?_) AllReadyH.nil
    go_simp
    go_at_call 12
    refine Calls.mono (forest_root w.heap.size a L [] SL HSL.out w12.drew (hF12.up (Below.dN (Below.refl _ _) 1))) ?_
    rintro e w13 ⟨rfl, hF13, hT13⟩
    have hK13 := hT13.arr (w := w12.drew) (hK12.drewN 1) (by decide) (by decide)
    have hS13 := hT13.arr (w := w12.drew) (hS12.drewN 1) (by decide) (by decide)
    have hb13 := (Below.dN hb12 1).trans (hT13.below hB12)
    refine hK.out _ _ ⟨hK13, hS13⟩ (fun hHeldx => ?_)
    clear hK K
    try simp only [Act.put, List.setIfInBounds_toArray, List.set_cons_zero, List.set_cons_succ]
    refine anyH_take (i := 3) (v := .bool true) (some 64) rfl rfl (by kernel_rfl) (by kernel_rfl) (by kernel_rfl) (fun _ _ _ h => h) (Or.inl ⟨by rfl, fun w' hw => by go_simp⟩) (by assumption) ?_
    simp only [Act.put, List.setIfInBounds_toArray, List.set_cons_zero, List.set_cons_succ]
    refine anyH_take (i := 4) (v := .bool true) (some 6) rfl rfl (by kernel_rfl) (by kernel_rfl) (by kernel_rfl) (fun _ _ _ h => h) (Or.inl ⟨by rfl, fun w' hw => by rfl⟩) (by assumption) ?_
    simp only [Act.put, List.setIfInBounds_toArray, List.set_cons_zero, List.set_cons_succ]
    refine wpAnyH_done (by kernel_rfl) ?_ _
    clear hHeld
    go_wp2_with fail
    go_ret
    exact ⟨rfl, hb13⟩
  | false =>
    clear hY8
    obtain rfl := hN8 rfl
    clear hN8
    have hdn := dropF_none Hhs.out
    have Hdn := Lib.hid hdn
    have Hdp := Lib.hid (drop_put (val := val) Hk.out HLr.out HL32.out (fun x hx e => by have h := Hhs.out; rw [← e, hasF_mem.2 ⟨x.2, hx⟩] at h; cases h))
    clear hdn
    dsimp only
    go_upto_region 18 with fail
    refine wp_region_held_drew (S := fun w' => Arr w' w.heap.size 24 KL ∧ Arr w' g 24 SL) (by kernel_rfl) ⟨hK8.drewN 1, hS8.drewN 1⟩ (fun hHeld => ?_)
    refine anyH_take (i := 0) (v := .pointer (some ⟨a, 0, none⟩)) (some 65) rfl rfl (by kernel_rfl) (by kernel_rfl) (by kernel_rfl) (fun _ _ _ h => h) (Or.inl ⟨by rfl, fun w' hw => by rfl⟩) (by assumption) ?_
    simp only [Act.put, List.setIfInBounds_toArray, List.set_cons_zero, List.set_cons_succ]
    refine anyH_take (i := 1) (some 66) rfl rfl (by kernel_rfl) (by kernel_rfl) (by kernel_rfl) (fun _ _ _ h => h) (yieldsIf_load_mid (by rfl) 24 (.tmp 4) rfl w.heap.size 0 rfl KL _ (fun w' h => (h.1).range) Tryz.underlying24 rfl HKm.out) (by assumption) ?_
    simp only [Act.put, List.setIfInBounds_toArray, List.set_cons_zero, List.set_cons_succ]
    refine wpAnyH_ready (rs := [2]) (by kernel_rfl) (by simp) ?_
    refine AllReadyH.cons rfl (fun K hK => ?_) AllReadyH.nil
    go_simp
    go_at_call 24
    refine Calls.mono (forest_drop w.heap.size a L [] (by simp) key KL HKL.out Hk.out w8.drew (hF8.up (Below.dN (Below.refl _ _) 1)) hB8) ?_
    rintro e w9 ⟨rfl, hF9, hT9⟩
    rw [Hhs.out]
    rw [Hdn.out] at hF9
    have hK9 := hT9.arr (w := w8.drew) (hK8.drewN 1) (by decide) (by decide)
    have hS9 := hT9.arr (w := w8.drew) (hS8.drewN 1) (by decide) (by decide)
    have hb9 := (Below.dN hb8 1).trans (hT9.below hB8)
    have hB9 := hb9.size
    refine hK.out _ _ ⟨hK9, hS9⟩ (fun hHeldx => ?_)
    clear hK K
    try simp only [Act.put, List.setIfInBounds_toArray, List.set_cons_zero, List.set_cons_succ]
    refine anyH_take (i := 3) (v := .bool false) (some 68) rfl rfl (by kernel_rfl) (by kernel_rfl) (by kernel_rfl) (fun _ _ _ h => h) (Or.inl ⟨by rfl, fun w' hw => by rfl⟩) (by assumption) ?_
    simp only [Act.put, List.setIfInBounds_toArray, List.set_cons_zero, List.set_cons_succ]
    refine anyH_take (i := 4) (v := .pointer (some ⟨a, 0, none⟩)) (some 69) rfl rfl (by kernel_rfl) (by kernel_rfl) (by kernel_rfl) (fun _ _ _ h => h) (Or.inl ⟨by rfl, fun w' hw => by rfl⟩) (by assumption) ?_
    simp only [Act.put, List.setIfInBounds_toArray, List.set_cons_zero, List.set_cons_succ]
    refine anyH_take (i := 6) (some 71) rfl rfl (by kernel_rfl) (by kernel_rfl) (by kernel_rfl) (fun _ _ _ h => h) (yieldsIf_load_mid (by rfl) 24 (.tmp 9) rfl g 0 rfl SL _ (fun w' h => (h.2).range) Tryz.underlying24 rfl HSm.out) (by assumption) ?_
    simp only [Act.put, List.setIfInBounds_toArray, List.set_cons_zero, List.set_cons_succ]
    refine wpAnyH_ready (rs := [5]) (by kernel_rfl) (by simp) ?_
    refine AllReadyH.cons rfl (fun K hK => ?_) AllReadyH.nil
    go_simp
    go_at_call 12
    refine Calls.mono (forest_root w.heap.size a L [] SL HSL.out w9 hF9) ?_
    rintro e w10 ⟨rfl, hF10, hT10⟩
    have hK10 := hT10.arr hK9 (by decide) (by decide)
    have hS10 := hT10.arr hS9 (by decide) (by decide)
    have hb10 := hb9.trans (hT10.below hB9)
    have hB10 := hb10.size
    refine hK.out _ _ ⟨hK10, hS10⟩ (fun hHeldx => ?_)
    clear hK K
    try simp only [Act.put, List.setIfInBounds_toArray, List.set_cons_zero, List.set_cons_succ]
    refine anyH_take (i := 7) (v := .bool false) (some 72) rfl rfl (by kernel_rfl) (by kernel_rfl) (by kernel_rfl) (fun _ _ _ h => h) (Or.inl ⟨by rfl, fun w' hw => by go_simp⟩) (by assumption) ?_
    simp only [Act.put, List.setIfInBounds_toArray, List.set_cons_zero, List.set_cons_succ]
    refine anyH_take (i := 8) (v := .bool false) (some 73) rfl rfl (by kernel_rfl) (by kernel_rfl) (by kernel_rfl) (fun _ _ _ h => h) (Or.inl ⟨by rfl, fun w' hw => by rfl⟩) (by assumption) ?_
    simp only [Act.put, List.setIfInBounds_toArray, List.set_cons_zero, List.set_cons_succ]
    refine wpAnyH_done (by kernel_rfl) ?_ _
    clear hHeld hF9 hK9 hS9 hb9 hT10 hT9 hF8 hK8 hS8 hb8 hB8 hB9
    go_wp2_with (refine wpList_load_row rfl _ _ rfl w.heap.size rfl 24 KL.toArray (0, 0) _ hK10 Tryz.underlying24 rfl HKi.out ?_)
    go_at_call 23
    refine Calls.mono (forest_put w.heap.size a L [] (by simp) key val KL HKL.out Hk.out w.heap.size Av vl cv w10 hF10 hB10 (Hbv.out.below hb10 (Nat.le_refl _)) Hvl.out (by have := hv; omega)) ?_
    rintro e w11 ⟨rfl, hF11, hT11⟩
    have hK11 := hT11.arr hK10 (by decide) (by decide)
    have hS11 := hT11.arr hS10 (by decide) (by decide)
    have hb11 := hb10.trans (hT11.below hB10)
    have hB11 := hb11.size
    clear hF10 hK10 hS10 hb10 hT11 hB10
    dsimp only
    go_wp2_with (refine wpList_load_row rfl _ _ rfl w.heap.size rfl 24 KL.toArray (0, 0) _ hK11 Tryz.underlying24 rfl HKi.out ?_)
    go_at_call 17
    refine Calls.mono (forest_get w.heap.size a _ [] key KL HKL.out Hk.out w11 hF11) ?_
    rintro e w12 ⟨v12, rfl, hF12, hb1112, hY12, _⟩
    rw [hasF_put Hk.out HL32.out] at hY12 ⊢
    obtain ⟨v0, hv0, hO12⟩ := hY12 rfl
    obtain rfl : v0 = val := put_mem_val Hk.out HL32.out hv0
    have hb12 := hb11.trans (hb1112.mono hB11)
    have hK12 := hK11.below hb1112 hK11.lt
    have hS12 := hS11.below hb1112 hS11.lt
    have hB12 := hb12.size
    clear hF11 hK11 hS11 hb11 hB11 hY12 hv0 hb1112
    obtain ⟨A12, c12, rfl, h121, h122, h123⟩ := hO12.slice
    rw [Hvl.out]
    have hb13 := Hbv.out.below hb12 (Nat.le_refl _)
    clear hO12
    dsimp only
    go_upto_region 22 with fail
    refine wp_region_held_drew (S := fun w' => Arr w' w.heap.size 24 KL ∧ Arr w' g 24 SL) (by kernel_rfl) ⟨hK12.drewN 1, hS12.drewN 1⟩ (fun hHeld => ?_)
    refine anyH_take (i := 0) (v := .bool true) (some 84) rfl rfl (by kernel_rfl) (by kernel_rfl) (by kernel_rfl) (fun _ _ _ h => h) (Or.inl ⟨by rfl, fun w' hw => by rfl⟩) (by assumption) ?_
    simp only [Act.put, List.setIfInBounds_toArray, List.set_cons_zero, List.set_cons_succ]
    refine anyH_take (i := 1) (v := .bool true) (some 85) rfl rfl (by kernel_rfl) (by kernel_rfl) (by kernel_rfl) (fun _ _ _ h => h) (Or.inl ⟨by rfl, fun w' hw => by rfl⟩) (by assumption) ?_
    simp only [Act.put, List.setIfInBounds_toArray, List.set_cons_zero, List.set_cons_succ]
    refine anyH_take (i := 2) (v := .slice A12 vl c12) (some 86) rfl rfl (by kernel_rfl) (by kernel_rfl) (by kernel_rfl) (fun _ _ _ h => h) (Or.inl ⟨by rfl, fun w' hw => by rfl⟩) (by assumption) ?_
    simp only [Act.put, List.setIfInBounds_toArray, List.set_cons_zero, List.set_cons_succ]
    refine anyH_take (i := 3) (v := .slice Av vl cv) (some 87) rfl rfl (by kernel_rfl) (by kernel_rfl) (by kernel_rfl) (fun _ _ _ h => h) (Or.inl ⟨by rfl, fun w' hw => by rfl⟩) (by assumption) ?_
    simp only [Act.put, List.setIfInBounds_toArray, List.set_cons_zero, List.set_cons_succ]
    refine wpAnyH_ready (rs := [4]) (by kernel_rfl) (by simp) ?_
    refine AllReadyH.cons rfl (fun K hK => ?_) AllReadyH.nil
    go_simp
    go_at_call 18
    refine Calls.mono (same_n _ _ A12 Av c12 cv vl vl v0 v0 w12.drew true (h123.below (Below.dN (Below.refl _ _) 1) (Nat.le_refl _)) (hb13.below (Below.dN (Below.refl _ _) 1) hB12) Hvl.out Hvl.out (by have := Hmv.out; omega) (by have := Hmv.out; omega) (by simp)) ?_
    rintro e w14 ⟨rfl, k14, rfl⟩
    have hK14 : Arr (w12.drew.drewN k14) w.heap.size 24 KL := (Arr.drewN (w := w12.drew) (hK12.drewN 1) k14)
    have hS14 : Arr (w12.drew.drewN k14) g 24 SL := (Arr.drewN (w := w12.drew) (hS12.drewN 1) k14)
    have hF14 := hF12.up (Below.dN (Below.dN (Below.refl _ w12) 1) k14)
    have hb14 := Below.dN (Below.dN hb12 1) k14
    have hB14 : w.heap.size ≤ (w12.drew.drewN k14).heap.size := hb14.size
    obtain ⟨w14, hw14⟩ : ∃ x, x = w12.drew.drewN k14 := ⟨_, rfl⟩
    change Forest _ _ (w12.drew.drewN k14) at hF14
    change Below _ _ (w12.drew.drewN k14) at hb14
    rw [← hw14] at hK14 hS14 hF14 hb14 hB14 ⊢
    clear hw14
    refine hK.out _ _ ⟨hK14, hS14⟩ (fun hHeldx => ?_)
    clear hK K
    try simp only [Act.put, List.setIfInBounds_toArray, List.set_cons_zero, List.set_cons_succ]
    refine anyH_take (i := 5) (v := .bool true) (some 89) rfl rfl (by kernel_rfl) (by kernel_rfl) (by kernel_rfl) (fun _ _ _ h => h) (Or.inl ⟨by rfl, fun w' hw => by rfl⟩) (by assumption) ?_
    simp only [Act.put, List.setIfInBounds_toArray, List.set_cons_zero, List.set_cons_succ]
    refine anyH_take (i := 6) (v := .bool true) (some 90) rfl rfl (by kernel_rfl) (by kernel_rfl) (by kernel_rfl) (fun _ _ _ h => h) (Or.inl ⟨by rfl, fun w' hw => by rfl⟩) (by assumption) ?_
    simp only [Act.put, List.setIfInBounds_toArray, List.set_cons_zero, List.set_cons_succ]
    refine anyH_take (i := 7) (v := .pointer (some ⟨a, 0, none⟩)) (some 91) rfl rfl (by kernel_rfl) (by kernel_rfl) (by kernel_rfl) (fun _ _ _ h => h) (Or.inl ⟨by rfl, fun w' hw => by rfl⟩) (by assumption) ?_
    simp only [Act.put, List.setIfInBounds_toArray, List.set_cons_zero, List.set_cons_succ]
    refine anyH_take (i := 8) (some 92) rfl rfl (by kernel_rfl) (by kernel_rfl) (by kernel_rfl) (fun _ _ _ h => h) (yieldsIf_load_mid (by rfl) 24 (.tmp 4) rfl w.heap.size 0 rfl KL _ (fun w' h => (h.1).range) Tryz.underlying24 rfl HKm.out) (by assumption) ?_
    simp only [Act.put, List.setIfInBounds_toArray, List.set_cons_zero, List.set_cons_succ]
    refine wpAnyH_ready (rs := [9]) (by kernel_rfl) (by simp) ?_
    refine AllReadyH.cons rfl (fun K hK => ?_) AllReadyH.nil
    go_simp
    go_at_call 24
    refine Calls.mono (forest_drop w.heap.size a _ [] (by simp) key KL HKL.out Hk.out w14 hF14 hB14) ?_
    rintro e w15 ⟨rfl, hF15, hT15⟩
    rw [hasF_put Hk.out HL32.out]
    rw [Hdp.out] at hF15
    have hK15 := hT15.arr hK14 (by decide) (by decide)
    have hS15 := hT15.arr hS14 (by decide) (by decide)
    have hb15 := hb14.trans (hT15.below hB14)
    have hB15 := hb15.size
    refine hK.out _ _ ⟨hK15, hS15⟩ (fun hHeldx => ?_)
    clear hK K
    try simp only [Act.put, List.setIfInBounds_toArray, List.set_cons_zero, List.set_cons_succ]
    refine anyH_take (i := 10) (v := .bool true) (some 94) rfl rfl (by kernel_rfl) (by kernel_rfl) (by kernel_rfl) (fun _ _ _ h => h) (Or.inl ⟨by rfl, fun w' hw => by rfl⟩) (by assumption) ?_
    simp only [Act.put, List.setIfInBounds_toArray, List.set_cons_zero, List.set_cons_succ]
    refine anyH_take (i := 11) (v := .bool true) (some 95) rfl rfl (by kernel_rfl) (by kernel_rfl) (by kernel_rfl) (fun _ _ _ h => h) (Or.inl ⟨by rfl, fun w' hw => by rfl⟩) (by assumption) ?_
    simp only [Act.put, List.setIfInBounds_toArray, List.set_cons_zero, List.set_cons_succ]
    refine anyH_take (i := 12) (v := .pointer (some ⟨a, 0, none⟩)) (some 96) rfl rfl (by kernel_rfl) (by kernel_rfl) (by kernel_rfl) (fun _ _ _ h => h) (Or.inl ⟨by rfl, fun w' hw => by rfl⟩) (by assumption) ?_
    simp only [Act.put, List.setIfInBounds_toArray, List.set_cons_zero, List.set_cons_succ]
    refine anyH_take (i := 14) (some 98) rfl rfl (by kernel_rfl) (by kernel_rfl) (by kernel_rfl) (fun _ _ _ h => h) (yieldsIf_load_mid (by rfl) 24 (.tmp 9) rfl g 0 rfl SL _ (fun w' h => (h.2).range) Tryz.underlying24 rfl HSm.out) (by assumption) ?_
    simp only [Act.put, List.setIfInBounds_toArray, List.set_cons_zero, List.set_cons_succ]
    refine wpAnyH_ready (rs := [13]) (by kernel_rfl) (by simp) ?_
    refine AllReadyH.cons rfl (fun K hK => ?_) AllReadyH.nil
    go_simp
    go_at_call 12
    refine Calls.mono (forest_root w.heap.size a L [] SL HSL.out w15 hF15) ?_
    rintro e w16 ⟨rfl, hF16, hT16⟩
    have hK16 := hT16.arr hK15 (by decide) (by decide)
    have hS16 := hT16.arr hS15 (by decide) (by decide)
    have hb16 := hb15.trans (hT16.below hB15)
    refine hK.out _ _ ⟨hK16, hS16⟩ (fun hHeldx => ?_)
    clear hK K
    try simp only [Act.put, List.setIfInBounds_toArray, List.set_cons_zero, List.set_cons_succ]
    refine anyH_take (i := 15) (v := .bool true) (some 99) rfl rfl (by kernel_rfl) (by kernel_rfl) (by kernel_rfl) (fun _ _ _ h => h) (Or.inl ⟨by rfl, fun w' hw => by go_simp⟩) (by assumption) ?_
    simp only [Act.put, List.setIfInBounds_toArray, List.set_cons_zero, List.set_cons_succ]
    refine anyH_take (i := 16) (v := .bool true) (some 100) rfl rfl (by kernel_rfl) (by kernel_rfl) (by kernel_rfl) (fun _ _ _ h => h) (Or.inl ⟨by rfl, fun w' hw => by rfl⟩) (by assumption) ?_
    simp only [Act.put, List.setIfInBounds_toArray, List.set_cons_zero, List.set_cons_succ]
    refine anyH_take (i := 17) (v := .bool true) (some 6) rfl rfl (by kernel_rfl) (by kernel_rfl) (by kernel_rfl) (fun _ _ _ h => h) (Or.inl ⟨by rfl, fun w' hw => by rfl⟩) (by assumption) ?_
    simp only [Act.put, List.setIfInBounds_toArray, List.set_cons_zero, List.set_cons_succ]
    refine wpAnyH_done (by kernel_rfl) ?_ _
    clear hHeld
    go_wp2_with fail
    go_ret
    exact ⟨rfl, hb16⟩

theorem tdrops_walk (A : Option Addr) (n c : Nat) (cs : List Cl8) (hn : cs.length = n) (hc : n ≤ c) (hm : c ≤ maxLen) (key : List UInt8) (Av : Option Addr) (cv : Nat) (val : List UInt8) (hcv : val.length ≤ cv) (hmv : cv ≤ maxLen) (w : World) (hcs : Cls8 w w.heap.size A cs) (hk : key.length = 32) (hbv : Bs w w.heap.size Av val) : Calls Tryz.prog 7 #[.slice A n c, .agg (Lib.byteCells key).toArray, .slice Av val.length cv] w fun e w' => e = .returned (.bool true) ∧ Below w.heap.size w w' := by
  by_cases h : great8 cs = true ∨ 200 < val.length
  · exact tdrops_great A n c cs hn hc hm key Av cv val hcv hmv w hcs hk hbv h
  · have h1 : great8 cs = false := by
      cases e : great8 cs with
      | false => rfl
      | true => exact absurd (.inl e) h
    exact tdrops_in A n c cs hn hc hm key Av cv val hcv hmv w hcs hk hbv h1 (by have : ¬ 200 < val.length := fun q => h (.inr q); omega)

end Go.Proofs.YtjbiegbdnppncaaGreat

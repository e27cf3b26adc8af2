/-
  The walk of ProofApart. Written by gen_papart.py.
-/
import Derived.Test.YtblgmnjegkfoaaaGreatLApartRows
import Derived.Test.YtblgmnjegkfoaaaGreatK12
namespace Go.Proofs.YtblgmnjegkfoaaaGreat
open Go.RowKit
set_option linter.unusedVariables false
set_option linter.unusedSimpArgs false

set_option maxHeartbeats 8000000 in
set_option maxRecDepth 100000 in
theorem papart_great (A : Option Addr) (n c : Nat) (cs : List Cl8) (hn : cs.length = n) (hc : n ≤ c) (hm : c ≤ maxLen) (key : List UInt8) (Am : Option Addr) (cm : Nat) (more : List UInt8) (hcm : more.length ≤ cm) (hmm : cm ≤ maxLen) (w : World) (hcs : Cls8 w w.heap.size A cs) (hk : key.length = 32) (hbm : Bs w w.heap.size Am more) (hg : great8 cs = true ∨ 300 < more.length) :
    Calls Tryz.prog 5 #[.slice A n c, .agg (Lib.byteCells key).toArray, .slice Am more.length cm] w fun e w' => e = .returned (.bool true) ∧ Below w.heap.size w w' := by
  obtain ⟨g8, hg8⟩ : ∃ g, great8 cs = g := ⟨_, rfl⟩
  have Hg8 := Lib.hid hg8
  rw [hg8] at hg
  clear hg8
  obtain ⟨KL, hKL⟩ : ∃ KL, KL = Lib.byteCells key := ⟨_, rfl⟩
  rw [← hKL]
  obtain ⟨W2, hW2⟩ : ∃ W2, W2 = w.alloc (.cells KL.toArray 24) := ⟨_, rfl⟩
  have hb2 : Below w.heap.size w W2 := by rw [hW2]; exact (Below.refl _ w).alloc (Nat.le_refl _) _
  have hK2 : Arr W2 w.heap.size 24 KL := by rw [hW2]; exact Arr.new w _ _
  have HKm := Lib.hid (show (Tryz.prog.info? 24).map (·.size) = some KL.length by rw [hKL, Lib.byteCells_length, hk]; kernel_rfl)
  have HKi := Lib.hid (show (Tryz.prog.info? 24).map (·.size) = some KL.toArray.size by rw [hKL, dig_size hk]; kernel_rfl)
  obtain ⟨nm, hnm⟩ : ∃ n, more.length = n := ⟨_, rfl⟩
  rw [hnm] at hcm ⊢
  have HKL := Lib.hid hKL
  have HW2 := Lib.hid hW2
  have Hn := Lib.hid hn
  have Hcs := Lib.hid hcs
  have Hnm := Lib.hid hnm
  have Hk := Lib.hid hk
  have Hbm := Lib.hid hbm
  have Hmm := Lib.hid hmm
  unfold maxLen at hm hmm
  clear hW2 hn hcs hKL hnm hk hbm
  go_enter Tryz.func5, Tryz.ntmps5
  go_upto_region 1 with fail
  change Code.wp _ _ _ _ (w.alloc (.cells KL.toArray 24))
  rw [← HW2.out]
  clear HW2
  go_wp2_with fail
  go_at_call 19
  refine Calls.mono (pspeaks_true W2) ?_
  rintro e w3 ⟨rfl, hb23⟩
  have hb3 := hb2.trans (hb23.mono hb2.size)
  have hK3 := hK2.below hb23 hK2.lt
  clear hb23 hb2 hK2
  dsimp only
  go_wp2_with fail
  go_at_call 7
  refine Calls.mono (great8_any cs A n c w3 Hn.out hc hm (Hcs.out.baseA hb3)) ?_
  rintro e w4 ⟨rfl, hb34⟩
  have hb4 := hb3.trans (hb34.mono hb3.size)
  have hK4 := hK3.below hb34 hK3.lt
  clear hb34 hb3 hK3
  rw [Hg8.out]
  have Hnm2 : 300 < more.length → 300 < nm := fun h => by rw [← Hnm.out]; exact h
  cases g8 with
  | true =>
    dsimp only
    go_wp2_with fail
    go_ret
    exact ⟨rfl, hb4⟩
  | false =>
    have h300 : 300 < nm := hg.elim (fun h => by cases h) Hnm2
    have hd : decide ((300 : Int) < (nm : Int)) = true := by simp; omega
    clear hg Hnm2
    dsimp only
    go_wp2_with fail
    go_ret
    exact ⟨rfl, hb4⟩

set_option maxHeartbeats 40000000 in
set_option maxRecDepth 100000 in
theorem papart_in (A : Option Addr) (n c : Nat) (cs : List Cl8) (hn : cs.length = n) (hc : n ≤ c) (hm : c ≤ maxLen) (key : List UInt8) (Am : Option Addr) (cm : Nat) (more : List UInt8) (hcm : more.length ≤ cm) (hmm : cm ≤ maxLen) (w : World) (hcs : Cls8 w w.heap.size A cs) (hk : key.length = 32) (hbm : Bs w w.heap.size Am more) (hg : great8 cs = false) (hmore : more.length ≤ 300) :
    Calls Tryz.prog 5 #[.slice A n c, .agg (Lib.byteCells key).toArray, .slice Am more.length cm] w fun e w' => e = .returned (.bool true) ∧ Below w.heap.size w w' := by
  have h50 : n ≤ 50 := by rw [← hn]; exact (great8_no hg).1
  have Hv200 := Lib.hid (great8_no hg).2
  have hgt := gt32
  have Hg8 := Lib.hid hg
  have Hmore := Lib.hid hmore
  clear hg hmore
  obtain ⟨CZ, hCZ⟩ : ∃ CZ, CZ = clZ := ⟨_, rfl⟩
  have HZ := Lib.hid (fun w : World => show (zeroValue 50).run Tryz.prog w = .ok (.agg CZ.toArray) w by rw [hCZ]; exact callZero w)
  have HZl := Lib.hid (show CZ.length = 34 by rw [hCZ]; rfl)
  clear hCZ
  obtain ⟨KL, hKL⟩ : ∃ KL, KL = Lib.byteCells key := ⟨_, rfl⟩
  rw [← hKL]
  obtain ⟨W2, hW2⟩ : ∃ W2, W2 = w.alloc (.cells KL.toArray 24) := ⟨_, rfl⟩
  have hb2 : Below w.heap.size w W2 := by rw [hW2]; exact (Below.refl _ w).alloc (Nat.le_refl _) _
  have hK2 : Arr W2 w.heap.size 24 KL := by rw [hW2]; exact Arr.new w _ _
  have HKm := Lib.hid (show (Tryz.prog.info? 24).map (·.size) = some KL.length by rw [hKL, Lib.byteCells_length, hk]; kernel_rfl)
  have HKi := Lib.hid (show (Tryz.prog.info? 24).map (·.size) = some KL.toArray.size by rw [hKL, dig_size hk]; kernel_rfl)
  obtain ⟨nm, hnm⟩ : ∃ n, more.length = n := ⟨_, rfl⟩
  rw [hnm] at hcm ⊢
  have HKL := Lib.hid hKL
  have HW2 := Lib.hid hW2
  have Hn := Lib.hid hn
  have Hcs := Lib.hid hcs
  have Hnm := Lib.hid hnm
  have Hk := Lib.hid hk
  have Hbm := Lib.hid hbm
  have Hmm := Lib.hid hmm
  unfold maxLen at hm hmm
  clear hW2 hn hcs hKL hnm hk hbm
  go_enter Tryz.func5, Tryz.ntmps5
  go_upto_region 1 with fail
  change Code.wp _ _ _ _ (w.alloc (.cells KL.toArray 24))
  rw [← HW2.out]
  clear HW2
  go_wp2_with fail
  go_at_call 19
  refine Calls.mono (pspeaks_true W2) ?_
  rintro e w3 ⟨rfl, hb23⟩
  have hb3 := hb2.trans (hb23.mono hb2.size)
  have hK3 := hK2.below hb23 hK2.lt
  clear hb23 hb2 hK2
  dsimp only
  go_wp2_with fail
  go_at_call 7
  refine Calls.mono (great8_any cs A n c w3 Hn.out hc hm (Hcs.out.baseA hb3)) ?_
  rintro e w4 ⟨rfl, hb34⟩
  have hb4 := hb3.trans (hb34.mono hb3.size)
  have hK4 := hK3.below hb34 hK3.lt
  clear hb34 hb3 hK3
  rw [Hg8.out]
  have hm300 : nm ≤ 300 := by rw [← Hnm.out]; exact Hmore.out
  have hd300 : decide ((300 : Int) < (nm : Int)) = false := by simp; omega
  dsimp only
  go_wp2_with fail
  go_at_call 20
  obtain ⟨tb, htb⟩ : ∃ x, w4.heap.size = x := ⟨_, rfl⟩
  refine Calls.mono (forest_new w.heap.size [] w4 (Forest.none _ _) hb4.size) ?_
  rintro e w5 ⟨rfl, hF5, hb45⟩
  have hb5 := hb4.trans (hb45.mono hb4.size)
  have hK5 := hK4.below hb45 hK4.lt
  rw [htb] at hF5 ⊢
  clear hb45 hK4 htb hb4 hd300
  dsimp only
  go_wp2_with fail
  go_loopw [34] (fun iv wr => ∃ i : Nat, i ≤ n ∧ iv = .int .i64 i ∧ Below w.heap.size w wr ∧ Arr wr w.heap.size 24 KL ∧ ∃ X, Forest w.heap.size [(tb, X)] wr ∧ Hid (Rise X) ∧ Hid (∀ x ∈ X, x.1.length = 32) ∧ Hid (∀ x ∈ X, x.2.length ≤ 1000)) (fun iv _ => n - (intOf iv).toNat)
  case atStart => exact ⟨0, Nat.zero_le _, rfl, hb5, hK5, [], hF5, List.Pairwise.nil, (fun x h => by cases h), (fun x h => by cases h)⟩
  case round =>
    clear hb5 hK5 hF5
    obtain ⟨i, hin, rfl, hbr, hKr, X, hFr, HXr, HX32, HXv⟩ := hrel
    by_cases hlt2 : i < n
    · have hd1 : decide ((i : Int) < (n : Int)) = true := by simp; omega
      obtain ⟨x, hx⟩ : ∃ x, cs[i]? = some x := ⟨cs[i]'(by rw [Hn.out]; exact hlt2), List.getElem?_eq_getElem _⟩
      obtain ⟨b, off, rfl, hblk, hrow⟩ := Hcs.out.2 (by rw [Hn.out]; omega)
      have hxm := List.mem_of_getElem? hx
      have hxo := Hcs.out.1 x hxm
      obtain ⟨VL, hVL⟩ : ∃ VL, VL = clC x := ⟨_, rfl⟩
      have hVl : VL.length = 34 := by rw [hVL, clC_length hxo.k32]
      have hrg : wr.rangeAt b (off + i * 34) VL := fun j v hj => by
        rw [hVL] at hj
        rw [← hrow i x hx j v hj]
        exact World.cell?_of_block (hbr.block b hblk)
      have HVi := Lib.hid (show (Tryz.prog.info? 50).map (·.size) = some VL.length by rw [hVl]; exact callSize)
      have HVj := Lib.hid (show (Tryz.prog.info? 50).map (·.size) = some VL.toArray.size by rw [List.size_toArray, hVl]; exact callSize)
      have HV1 := Lib.hid (show VL.toArray.all (·.oneCell') = true by rw [hVL]; exact all_oneCell_toArray (clC_one x))
      have HVz := Lib.hid (show CZ.toArray.size = VL.toArray.size by rw [List.size_toArray, List.size_toArray, HZl.out, hVl])
      obtain ⟨wa, hwa⟩ : ∃ W, W = (wr.alloc (.cells CZ.toArray 50)).setRow wr.heap.size VL.toArray := ⟨_, rfl⟩
      obtain ⟨hVa, hbra⟩ := alloc_row wr 50 CZ.toArray VL
      rw [← hwa] at hVa hbra
      obtain ⟨XL, hXL⟩ : ∃ XL, XL = Lib.byteCells x.itm.key := ⟨_, rfl⟩
      obtain ⟨l, hl⟩ : ∃ l, x.itm.val.length = l := ⟨_, rfl⟩
      obtain ⟨wh, hwh⟩ : ∃ wh, x.what = wh := ⟨_, rfl⟩
      obtain ⟨Ax, hAx⟩ : ∃ a, x.itm.adr = a := ⟨_, rfl⟩
      obtain ⟨cx, hcx⟩ : ∃ a, x.itm.cap = a := ⟨_, rfl⟩
      have hlc : l ≤ cx := by rw [← hl, ← hcx]; exact hxo.le
      have hcm : cx ≤ maxLen := by rw [← hcx]; exact hxo.lim
      have hba : Below w.heap.size w wa := hbr.trans (hbra.mono hbr.size)
      have hbx : Bs wa w.heap.size Ax x.itm.val := by
        rw [← hAx]
        exact hxo.bs.below hba (Nat.le_refl _)
      have hck : ∀ w', Arr w' wr.heap.size 50 VL → w'.rangeAt wr.heap.size 1 XL := fun w' h => by rw [hVL] at h; exact cl8k_key h XL hXL
      have hcv : ∀ w', Arr w' wr.heap.size 50 VL → w'.cell? ⟨wr.heap.size, 33, none⟩ = some (.slice Ax l cx) := fun w' h => by rw [hVL] at h; have := cl8k_val h hxo.k32; rwa [hl, hAx, hcx] at this
      have HXi := Lib.hid (show (Tryz.prog.info? 24).map (·.size) = some XL.length by rw [hXL, Lib.byteCells_length, hxo.k32]; kernel_rfl)
      have Hck := Lib.hid hck
      have Hcv := Lib.hid hcv
      have Hx := Lib.hid hx
      have Hxm := Lib.hid hxm
      have Hwa := Lib.hid hwa
      have Hl := Lib.hid hl
      have Hwh := Lib.hid hwh
      have HXL := Lib.hid hXL
      have Hxk := Lib.hid hxo.k32
      have Hbx := Lib.hid hbx
      have Hcm := Lib.hid hcm
      have HVL0 := Lib.hid (show VL[0]? = some (.int .i64 wh) by rw [hVL, ← hwh]; rfl)
      clear hwa hl hx hrow hVL hVl hxo hAx hcx hXL hwh hck hcv hxm hbx hcm
      have hFa := hFr.up hbra
      have hKa := hKr.below hbra hKr.lt
      have hc00 : ∀ w', Arr w' wr.heap.size 50 VL → w'.cell? ⟨wr.heap.size, 0, none⟩ = some (.int .i64 wh) := fun w' h => by rw [h.cell, HVL0.out]
      have Hc00 := Lib.hid hc00
      have Hl2 := Lib.hid (show x.itm.val.length ≤ 1000 from Nat.le_trans (Hv200.out x Hxm.out) (by decide))
      clear hFr hKr hbr hc00
      go_upto_region 9 with (first
        | (refine wpList_load_mid rfl _ _ rfl b (off + i * 34) rfl VL _ hrg Tryz.underlying50 rfl HVi.out ?_)
        | (refine wpList_allocZ8 rfl 50 rfl CZ.toArray (HZ.out _) ?_)
        | (refine wpList_store_row rfl _ _ _ rfl wr.heap.size VL.toArray rfl rfl 50 CZ.toArray (heap_alloc_new wr _) HVj.out HVz.out HV1.out ?_; rw [← Hwa.out]))
      obtain ⟨cb, hcb⟩ : ∃ x, wr.heap.size = x := ⟨_, rfl⟩
      rw [hcb] at hVa Hck Hcv Hc00 ⊢
      clear hcb hbra
      have hxk := Hck.out wa hVa
      have hxv := Hcv.out wa hVa
      have hx0 := Hc00.out wa hVa
      have hbx := Hbx.out
      by_cases h0 : wh = 0
      · subst h0
        go_wp2_with (refine wpList_load_mid rfl _ _ rfl cb 1 rfl XL _ hxk Tryz.underlying24 rfl HXi.out ?_)
        go_at_call 21
        refine Calls.mono (forest_put w.heap.size tb X [] (fun x h => by cases h) x.itm.key x.itm.val XL HXL.out Hxk.out w.heap.size Ax l cx wa hFa hba.size hbx Hl.out Hl2.out) ?_
        rintro e w7 ⟨rfl, hF7, hT7⟩
        have hK7 := hT7.arr hKa (by decide) (by decide)
        have hb7 := hba.trans (hT7.below hba.size)
        clear hFa hKa hba hxk hxv hx0 hT7 hbx hVa
        dsimp only
        go_wp2_with fail
        case roundEnd => exact ⟨⟨i + 1, by omega, by simp, hb7, hK7, _, hF7, HXr.out.put _ _, putF_32 Hxk.out HX32.out, putF_valsA Hxk.out HX32.out HXv.out Hl2.out⟩, by simp [intOf]; omega⟩
      · have h0d : decide (wh = 0) = false := decide_eq_false h0
        go_wp2_with fail
        case roundEnd => exact ⟨⟨i + 1, by omega, by simp, hba, hKa, X, hFa, HXr, HX32, HXv⟩, by simp [intOf]; omega⟩
    · obtain rfl : n = i := by omega
      have hd1 : decide ((n : Int) < (n : Int)) = false := by simp
      obtain ⟨rX, hrX⟩ : ∃ r, r = rootF X := ⟨_, rfl⟩
      obtain ⟨SL, hSL⟩ : ∃ SL, SL = Lib.byteCells rX := ⟨_, rfl⟩
      have hrl : rX.length = 32 := by rw [hrX]; unfold rootF nodeD; split <;> exact shaF_length _
      have HSm := Lib.hid (show (Tryz.prog.info? 24).map (·.size) = some SL.length by rw [hSL, Lib.byteCells_length, hrl]; kernel_rfl)
      have HSi := Lib.hid (show (Tryz.prog.info? 24).map (·.size) = some SL.toArray.size ∧ (Lib.byteCells zeros).toArray.size = SL.toArray.size by rw [hSL, dig_size hrl]; exact ⟨by kernel_rfl, by kernel_rfl⟩)
      have HS1 := Lib.hid (show SL.toArray.all (·.oneCell') = true by rw [hSL]; exact all_oneCell_toArray (byteCells_one _))
      have HSr := Lib.hid (show SL = Lib.byteCells (rootF X) by rw [hSL, hrX])
      have hgd := HXr.out.good HX32.out
      obtain ⟨P, hP⟩ : ∃ P, P = proveF key 65 X 0 := ⟨_, rfl⟩
      have HPl := Lib.hid (show ∀ a ∈ P, a.length ≤ 2000 by rw [hP]; exact fun a ha => Nat.le_trans (proveF_lenA key 65 X 0 hgd HXv.out (fun i hi => by omega) (by omega) a ha) (by decide))
      have HPn := Lib.hid (show P.length ≤ 65 by rw [hP]; exact proveF_many key 65 X 0)
      obtain ⟨T5, hT5⟩ : ∃ r, r = shaF (tagF 5 []) := ⟨_, rfl⟩
      have HA1 := Lib.hid (show chkF rX key (P ++ [more]) 0 ≠ none → P = [] ∧ shaF (tagF 4 [more]) = rX by rw [hrX, hP]; exact apart_more key more X hgd HXv.out)
      have HA2 := Lib.hid (show P ≠ [] → rX ≠ T5 → chkF rX key P.dropLast 0 = none by rw [hrX, hP, hT5]; exact apart_last key X hgd HXv.out)
      have HA3 := Lib.hid (show P ≠ [] → rX ≠ T5 → (∀ b, P[1]? = some b → shaF (tagF 4 [b]) ≠ rX) → chkF rX key P.tail 0 = none by rw [hrX, hP, hT5]; exact apart_first key X)
      have HPm := Lib.hid (show ∀ r ∈ P ++ [more], r.length ≤ 2000 from fun r hr => by
        rcases List.mem_append.1 hr with h | h
        · exact HPl.out r h
        · rw [List.mem_singleton] at h; rw [h, Hnm.out]; omega)
      have HP := Lib.hid hP
      have HT5 := Lib.hid hT5
      have HSL := Lib.hid hSL
      have Hrl := Lib.hid hrl
      clear hrX hSL hrl hgd hP hT5
      go_wp2_with (refine wpList_load_row rfl _ _ rfl w.heap.size rfl 24 KL.toArray (0, 0) _ hKr Tryz.underlying24 rfl HKi.out ?_)
      go_at_call 12
      refine Calls.mono (forestN_prove wr.heap.size w.heap.size tb X [] key KL HKL.out Hk.out wr hFr.toN) ?_
      rintro e w7 ⟨v7, rfl, hP7, hF7, hT7⟩
      rw [← HP.out] at hP7
      have hb7 := hbr.trans (hT7.below hbr.size)
      have hK7 := hT7.arr hKr (by decide) (by decide)
      clear hbr hKr hFr hT7
      dsimp only
      go_wp2_with fail
      go_at_call 9
      refine Calls.mono (forestN_root _ w.heap.size tb X [] SL HSr.out w7 hF7) ?_
      rintro e w8 ⟨rfl, hO8, hT8⟩
      have hP8 := (hP7.only hO8 (fun k h1 _ q => by have := q.2; omega)).toN
      have hb8 := hb7.trans (hT8.below hb7.size)
      have hK8 := hT8.arr hK7 (by decide) (by decide)
      obtain ⟨A8, c8, PC, rfl, h81, h82, hPCl, hparts⟩ := hP8.parts
      obtain ⟨np, hnp⟩ : ∃ x, P.length = x := ⟨_, rfl⟩
      rw [hnp] at h81 ⊢
      have Hnp := Lib.hid hnp
      have hnp65 : np ≤ 65 := by rw [← hnp]; exact HPn.out
      have Hparts := Lib.hid hparts
      have HPC := Lib.hid (hPCl.trans hnp)
      have HC8 := Lib.hid h82
      unfold maxLen at h82
      clear hnp hparts hPCl hP7 hF7 hO8 hT8 hP8 hb7 hK7
      dsimp only
      go_upto_region 14 with (change wpList _ _ _ _ _ (w8.alloc (.cells (Lib.byteCells zeros).toArray 24)); refine wpList_store_row rfl _ _ _ rfl w8.heap.size SL.toArray rfl rfl 24 (Lib.byteCells zeros).toArray (heap_alloc_new w8 _) HSi.out.1 HSi.out.2 HS1.out ?_; obtain ⟨w9, hw9⟩ : ∃ x, x = (w8.alloc (.cells (Lib.byteCells zeros).toArray 24)).setRow w8.heap.size SL.toArray := ⟨_, rfl⟩; rw [← hw9]; obtain ⟨hR9, hb89⟩ := alloc_row w8 24 (Lib.byteCells zeros).toArray SL; rw [← hw9] at hR9 hb89; clear hw9)
      have hK9 := hK8.below hb89 hK8.lt
      have hb9 := hb8.trans (hb89.mono hb8.size)
      have Hp9 := Lib.hid (show ∀ w', Below w9.heap.size w9 w' → RowsAt w' w9.heap.size A8 P ∧ (0 < np → ∃ ad, A8 = some ad ∧ ∀ j u, PC[j]? = some u → w'.cell? (ad.add j) = some u) ∧ ∀ (i : Nat) (r : List UInt8), P[i]? = some r → ∃ (A : Option Addr) (c : Nat), PC[i]? = some (.slice A r.length c) ∧ r.length ≤ c ∧ c ≤ maxLen ∧ Bs w' w9.heap.size A r from fun w' h => by
        obtain ⟨q1, q2, q3⟩ := Hparts.out w' (hb89.trans (h.mono hb89.size))
        refine ⟨q1.more hb89.size, fun hp => q2 (by rw [Hnp.out]; exact hp), fun i r hr => ?_⟩
        obtain ⟨A, c, k1, k2, k3, k4⟩ := q3 i r hr
        exact ⟨A, c, k1, k2, k3, k4.more hb89.size⟩)
      have Hm9 := Lib.hid (show ∀ w', Below w9.heap.size w9 w' → Bs w' w9.heap.size Am more from fun w' h => ((Hbm.out.below hb9 (Nat.le_refl _)).more hb9.size).below h (Nat.le_refl _))
      have Hme := Lib.hid (show ∀ w', Below w9.heap.size w9 w' → ∀ (i : Nat) (r : List UInt8), [more][i]? = some r → ∃ (A : Option Addr) (c : Nat), [Value.slice Am nm cm][i]? = some (.slice A r.length c) ∧ r.length ≤ c ∧ c ≤ maxLen ∧ Bs w' w9.heap.size A r from fun w' h i r hr => by
        match i, hr with
        | 0, hr =>
          simp at hr
          subst hr
          exact ⟨Am, cm, by rw [Hnm.out]; rfl, by rw [Hnm.out]; exact hcm, Hmm.out, Hm9.out w' h⟩)
      obtain ⟨rb, hrb⟩ : ∃ x, w8.heap.size = x := ⟨_, rfl⟩
      rw [hrb] at hR9 ⊢
      have keep9 := Lib.hid (show ∀ w', Below w9.heap.size w9 w' → w'.rangeAt w.heap.size 0 KL ∧ w'.rangeAt rb 0 SL from fun w' h => ⟨(hK9.below h hK9.lt).range, (hR9.below h hR9.lt).range⟩)
      have Hq1 := Lib.hid (show (P ++ [more]).length = np + 1 by rw [List.length_append, Hnp.out]; rfl)
      have hB0 : Below w9.heap.size w9 w9 := Below.refl _ _
      clear hK9 hR9 hb89 hb8 hK8 Hparts hrb HSi HS1 HPn
      dsimp only [Act.put]
      go_cut [14] (fun s wx => ∃ z : Int, s = .int .i64 z ∧ (z = 3 ∧ chkF rX key (P ++ [more]) 0 = none ∨ z = 0 ∧ chkF rX key (P ++ [more]) 0 ≠ none) ∧ Below w9.heap.size w9 wx)
      case first =>
        have hBd := Below.dN hB0 1
        refine wp_region_held_drew (S := fun w' => w'.rangeAt w.heap.size 0 KL ∧ w'.rangeAt rb 0 SL) (by kernel_rfl) (keep9.out _ hBd) (fun hHeld => ?_)
        obtain ⟨wd, hwd⟩ : ∃ x, x = w9.drew := ⟨_, rfl⟩
        change Below _ _ w9.drew at hBd
        rw [← hwd] at hBd ⊢
        try rw [← hwd] at hHeld
        clear hwd
        refine anyH_take (i := 0) (some 54) rfl rfl (by kernel_rfl) (by kernel_rfl) (by kernel_rfl) (fun _ _ _ h => h) (yieldsIf_load_mid (by rfl) 24 (.tmp 11) rfl rb 0 rfl SL _ (fun _ h => h.2) Tryz.underlying24 rfl HSm.out) (by assumption) ?_
        simp only [Act.put, List.setIfInBounds_toArray, List.set_cons_zero, List.set_cons_succ]
        refine anyH_take (i := 1) (some 55) rfl rfl (by kernel_rfl) (by kernel_rfl) (by kernel_rfl) (fun _ _ _ h => h) (yieldsIf_load_mid (by rfl) 24 (.tmp 4) rfl w.heap.size 0 rfl KL _ (fun _ h => h.1) Tryz.underlying24 rfl HKm.out) (by assumption) ?_
        simp only [Act.put, List.setIfInBounds_toArray, List.set_cons_zero, List.set_cons_succ]
        refine anyH_take (i := 3) (v := .slice A8 np c8) (some 57) rfl rfl (by kernel_rfl) (by kernel_rfl) (by kernel_rfl) (fun _ _ _ h => h) (Or.inl ⟨by rfl, fun _ hw => by rfl⟩) (by assumption) ?_
        simp only [Act.put, List.setIfInBounds_toArray, List.set_cons_zero, List.set_cons_succ]
        refine anyH_take (i := 5) (v := .slice Am nm cm) (some 59) rfl rfl (by kernel_rfl) (by kernel_rfl) (by kernel_rfl) (fun _ _ _ h => h) (Or.inl ⟨by rfl, fun _ hw => by rfl⟩) (by assumption) ?_
        simp only [Act.put, List.setIfInBounds_toArray, List.set_cons_zero, List.set_cons_succ]
        refine wpAnyH_ready (rs := [2, 6]) (by kernel_rfl) (by simp) ?_
        refine AllReadyH.cons rfl (fun KC hKC => ?_) (AllReadyH.cons rfl (fun KC hKC => ?_) AllReadyH.nil)
        · have hBa61 := hBd.alloc hBd.size (.cells #[] 38)
          go_simp
          refine hKC.out _ _ (keep9.out _ hBa61) (fun hHeld61 => ?_)
          clear hKC KC
          try simp only [Act.put, List.setIfInBounds_toArray, List.set_cons_zero, List.set_cons_succ]
          change wpAnyH _ _ _ _ _ _ _ _ (wd.alloc (.cells #[] 38))
          have hd61 := LRow.empty wd w9.heap.size hBd.size
          have hb61 : Below wd.heap.size wd (wd.alloc (.cells #[] 38)) := (Below.refl _ _).alloc (Nat.le_refl _) _
          obtain ⟨g61, hg61⟩ : ∃ x, x = wd.heap.size := ⟨_, rfl⟩
          obtain ⟨w61, hw61⟩ : ∃ x, x = wd.alloc (.cells #[] 38) := ⟨_, rfl⟩
          rw [← hw61] at hb61 hd61 ⊢
          rw [← hg61] at hd61 ⊢
          have hB61 := hBd.trans (hb61.mono hBd.size)
          clear hw61 hg61
          refine wpAnyH_ready (rs := [4, 6]) (by kernel_rfl) (by simp) ?_
          refine AllReadyH.cons rfl (fun KC hKC => ?_) (AllReadyH.cons rfl (fun KC hKC => ?_) AllReadyH.nil)
          · rw [if_pos (by rfl)]
            refine wp_append_l (some 58) rfl _ _ rfl hd61 hB61.size rfl A8 np c8 rfl P PC Hnp.out HPC.out (Hp9.out _ hB61).2.1 (Hp9.out _ hB61).2.2 (by simp; omega) (fun v62 w62 h62 hg62 => ?_)
            rw [List.nil_append] at h62
            have hB62 := hB61.trans ((Below.refl _ _).grown hg62 hB61.size (fun k hk => (hd61.lt k hk).1))
            simp only [Act.put, List.setIfInBounds_toArray, List.set_cons_zero, List.set_cons_succ]
            refine hKC.out _ _ (keep9.out _ hB62) (fun hHeld62 => ?_)
            clear hKC KC
            try simp only [Act.put, List.setIfInBounds_toArray, List.set_cons_zero, List.set_cons_succ]
            refine wpAnyH_ready (rs := [6]) (by kernel_rfl) (by simp) ?_
            refine AllReadyH.cons rfl (fun KC hKC => ?_) AllReadyH.nil
            have hBa63 := hB62.alloc hB62.size (.cells #[.slice Am nm cm] 38)
            go_simp
            refine hKC.out _ _ (keep9.out _ hBa63) (fun hHeld63 => ?_)
            clear hKC KC
            try simp only [Act.put, List.setIfInBounds_toArray, List.set_cons_zero, List.set_cons_succ]
            change wpAnyH _ _ _ _ _ _ _ _ (w62.alloc (.cells [.slice Am nm cm].toArray 38))
            obtain ⟨g63, hg63⟩ : ∃ x, x = w62.heap.size := ⟨_, rfl⟩
            have N63 := Arr.new w62 38 [.slice Am nm cm]
            have hb63 : Below w62.heap.size w62 (w62.alloc (.cells [.slice Am nm cm].toArray 38)) := (Below.refl _ _).alloc (Nat.le_refl _) _
            obtain ⟨w63, hw63⟩ : ∃ x, x = w62.alloc (.cells [.slice Am nm cm].toArray 38) := ⟨_, rfl⟩
            rw [← hw63] at hb63 N63 ⊢
            rw [← hg63] at N63 ⊢
            have hd63 := h62.up hb63 hB62.size
            have hB63 := hB62.trans (hb63.mono hB62.size)
            clear hw63 hg63
            refine wpAnyH_ready (rs := [7]) (by kernel_rfl) (by simp) ?_
            refine AllReadyH.cons rfl (fun KC hKC => ?_) AllReadyH.nil
            rw [if_pos (by rfl)]
            refine wp_append_l (some 61) rfl _ _ rfl hd63 hB63.size rfl (some ⟨g63, 0, none⟩) 1 1 rfl [more] [.slice Am nm cm] rfl rfl (fun _ => ⟨_, rfl, arr_add N63⟩) (Hme.out _ hB63) (by rw [Hnp.out]; omega) (fun v64 w64 h64 hg64 => ?_)
            have hB64 := hB63.trans ((Below.refl _ _).grown hg64 hB63.size (fun k hk => (hd63.lt k hk).1))
            obtain ⟨A2, c2, rfl, h21, h22, hrw2⟩ := (h64.toN hB64.size).rows
            rw [Hq1.out] at h21 ⊢
            simp only [Act.put, List.setIfInBounds_toArray, List.set_cons_zero, List.set_cons_succ]
            refine hKC.out _ _ (keep9.out _ hB64) (fun hHeld64 => ?_)
            clear hKC KC
            try simp only [Act.put, List.setIfInBounds_toArray, List.set_cons_zero, List.set_cons_succ]
            refine wpAnyH_ready (rs := [8]) (by kernel_rfl) (by simp) ?_
            refine AllReadyH.cons rfl (fun KC hKC => ?_) AllReadyH.nil
            go_simp
            go_at_call 23
            refine Calls.mono (check_run rX key Hrl.out Hk.out SL KL HSL.out HKL.out (P ++ [more]) A2 (np + 1) c2 _ Hq1.out h21 h22 hrw2 HPm.out (by omega)) ?_
            rintro e w65 ⟨V65, rfl, hV65, hb65⟩
            have hB65 := hB64.trans (hb65.mono hB64.size)
            obtain ⟨a1, b1, z1, rfl, hz1⟩ := hV65.code
            clear hV65
            go_wp2_with fail
            refine hKC.out _ _ (keep9.out _ hB65) (fun hHeld65 => ?_)
            clear hKC KC
            try simp only [Act.put, List.setIfInBounds_toArray, List.set_cons_zero, List.set_cons_succ]
            refine anyH_take (i := 9) (v := .tuple #[a1, b1, .int .i64 z1]) (some 53) rfl rfl (by kernel_rfl) (by kernel_rfl) (by kernel_rfl) (fun _ _ _ h => h) (Or.inl ⟨by rfl, fun _ hw => by rfl⟩) (by assumption) ?_
            simp only [Act.put, List.setIfInBounds_toArray, List.set_cons_zero, List.set_cons_succ]
            refine anyH_take (i := 10) (v := a1) (some 63) rfl rfl (by kernel_rfl) (by kernel_rfl) (by kernel_rfl) (fun _ _ _ h => h) (Or.inl ⟨by rfl, fun _ hw => by go_simp⟩) (by assumption) ?_
            simp only [Act.put, List.setIfInBounds_toArray, List.set_cons_zero, List.set_cons_succ]
            refine anyH_take (i := 11) (v := b1) (some 64) rfl rfl (by kernel_rfl) (by kernel_rfl) (by kernel_rfl) (fun _ _ _ h => h) (Or.inl ⟨by rfl, fun _ hw => by go_simp⟩) (by assumption) ?_
            simp only [Act.put, List.setIfInBounds_toArray, List.set_cons_zero, List.set_cons_succ]
            refine anyH_take (i := 12) (v := .int .i64 z1) (some 65) rfl rfl (by kernel_rfl) (by kernel_rfl) (by kernel_rfl) (fun _ _ _ h => h) (Or.inl ⟨by rfl, fun _ hw => by go_simp⟩) (by assumption) ?_
            simp only [Act.put, List.setIfInBounds_toArray, List.set_cons_zero, List.set_cons_succ]
            refine anyH_take (i := 13) (v := a1) (some 12) rfl rfl (by kernel_rfl) (by kernel_rfl) (by kernel_rfl) (fun _ _ _ h => h) (Or.inl ⟨by rfl, fun _ hw => by rfl⟩) (by assumption) ?_
            simp only [Act.put, List.setIfInBounds_toArray, List.set_cons_zero, List.set_cons_succ]
            refine anyH_take (i := 14) (v := b1) (some 13) rfl rfl (by kernel_rfl) (by kernel_rfl) (by kernel_rfl) (fun _ _ _ h => h) (Or.inl ⟨by rfl, fun _ hw => by rfl⟩) (by assumption) ?_
            simp only [Act.put, List.setIfInBounds_toArray, List.set_cons_zero, List.set_cons_succ]
            refine anyH_take (i := 15) (v := .int .i64 z1) (some 14) rfl rfl (by kernel_rfl) (by kernel_rfl) (by kernel_rfl) (fun _ _ _ h => h) (Or.inl ⟨by rfl, fun _ hw => by rfl⟩) (by assumption) ?_
            simp only [Act.put, List.setIfInBounds_toArray, List.set_cons_zero, List.set_cons_succ]
            refine wpAnyH_done (by kernel_rfl) ?_ _
            clear hHeld
            go_wp2_with fail
            go_meet
            exact ⟨z1, rfl, hz1, hB65⟩
          · have hBa66 := hB61.alloc hB61.size (.cells #[.slice Am nm cm] 38)
            go_simp
            refine hKC.out _ _ (keep9.out _ hBa66) (fun hHeld66 => ?_)
            clear hKC KC
            try simp only [Act.put, List.setIfInBounds_toArray, List.set_cons_zero, List.set_cons_succ]
            change wpAnyH _ _ _ _ _ _ _ _ (w61.alloc (.cells [.slice Am nm cm].toArray 38))
            obtain ⟨g66, hg66⟩ : ∃ x, x = w61.heap.size := ⟨_, rfl⟩
            have N66 := Arr.new w61 38 [.slice Am nm cm]
            have hb66 : Below w61.heap.size w61 (w61.alloc (.cells [.slice Am nm cm].toArray 38)) := (Below.refl _ _).alloc (Nat.le_refl _) _
            have hne66 : g61 ≠ g66 := by have hlt : g61 < w61.heap.size := (hd61.lt _ rfl).2; omega
            obtain ⟨w66, hw66⟩ : ∃ x, x = w61.alloc (.cells [.slice Am nm cm].toArray 38) := ⟨_, rfl⟩
            rw [← hw66] at hb66 N66 ⊢
            rw [← hg66] at N66 ⊢
            have hd66 := hd61.up hb66 hB61.size
            have hB66 := hB61.trans (hb66.mono hB61.size)
            clear hw66 hg66
            refine wpAnyH_ready (rs := [4]) (by kernel_rfl) (by simp) ?_
            refine AllReadyH.cons rfl (fun KC hKC => ?_) AllReadyH.nil
            rw [if_pos (by rfl)]
            refine wp_append_l (some 58) rfl _ _ rfl hd66 hB66.size rfl A8 np c8 rfl P PC Hnp.out HPC.out (Hp9.out _ hB66).2.1 (Hp9.out _ hB66).2.2 (by simp; omega) (fun v67 w67 h67 hg67 => ?_)
            rw [List.nil_append] at h67
            have hB67 := hB66.trans ((Below.refl _ _).grown hg67 hB66.size (fun k hk => (hd66.lt k hk).1))
            have N67 : Arr w67 g66 38 [.slice Am nm cm] := (hg67.block g66 (Arr.lt N66) (by simp [Value.ownBlock]; exact fun h => hne66 h.symm)).trans N66
            simp only [Act.put, List.setIfInBounds_toArray, List.set_cons_zero, List.set_cons_succ]
            refine hKC.out _ _ (keep9.out _ hB67) (fun hHeld67 => ?_)
            clear hKC KC
            try simp only [Act.put, List.setIfInBounds_toArray, List.set_cons_zero, List.set_cons_succ]
            refine wpAnyH_ready (rs := [7]) (by kernel_rfl) (by simp) ?_
            refine AllReadyH.cons rfl (fun KC hKC => ?_) AllReadyH.nil
            rw [if_pos (by rfl)]
            refine wp_append_l (some 61) rfl _ _ rfl h67 hB67.size rfl (some ⟨g66, 0, none⟩) 1 1 rfl [more] [.slice Am nm cm] rfl rfl (fun _ => ⟨_, rfl, arr_add N67⟩) (Hme.out _ hB67) (by rw [Hnp.out]; omega) (fun v68 w68 h68 hg68 => ?_)
            have hB68 := hB67.trans ((Below.refl _ _).grown hg68 hB67.size (fun k hk => (h67.lt k hk).1))
            obtain ⟨A2, c2, rfl, h21, h22, hrw2⟩ := (h68.toN hB68.size).rows
            rw [Hq1.out] at h21 ⊢
            simp only [Act.put, List.setIfInBounds_toArray, List.set_cons_zero, List.set_cons_succ]
            refine hKC.out _ _ (keep9.out _ hB68) (fun hHeld68 => ?_)
            clear hKC KC
            try simp only [Act.put, List.setIfInBounds_toArray, List.set_cons_zero, List.set_cons_succ]
            refine wpAnyH_ready (rs := [8]) (by kernel_rfl) (by simp) ?_
            refine AllReadyH.cons rfl (fun KC hKC => ?_) AllReadyH.nil
            go_simp
            go_at_call 23
            refine Calls.mono (check_run rX key Hrl.out Hk.out SL KL HSL.out HKL.out (P ++ [more]) A2 (np + 1) c2 _ Hq1.out h21 h22 hrw2 HPm.out (by omega)) ?_
            rintro e w69 ⟨V69, rfl, hV69, hb69⟩
            have hB69 := hB68.trans (hb69.mono hB68.size)
            obtain ⟨a1, b1, z1, rfl, hz1⟩ := hV69.code
            clear hV69
            go_wp2_with fail
            refine hKC.out _ _ (keep9.out _ hB69) (fun hHeld69 => ?_)
            clear hKC KC
            try simp only [Act.put, List.setIfInBounds_toArray, List.set_cons_zero, List.set_cons_succ]
            refine anyH_take (i := 9) (v := .tuple #[a1, b1, .int .i64 z1]) (some 53) rfl rfl (by kernel_rfl) (by kernel_rfl) (by kernel_rfl) (fun _ _ _ h => h) (Or.inl ⟨by rfl, fun _ hw => by rfl⟩) (by assumption) ?_
            simp only [Act.put, List.setIfInBounds_toArray, List.set_cons_zero, List.set_cons_succ]
            refine anyH_take (i := 10) (v := a1) (some 63) rfl rfl (by kernel_rfl) (by kernel_rfl) (by kernel_rfl) (fun _ _ _ h => h) (Or.inl ⟨by rfl, fun _ hw => by go_simp⟩) (by assumption) ?_
            simp only [Act.put, List.setIfInBounds_toArray, List.set_cons_zero, List.set_cons_succ]
            refine anyH_take (i := 11) (v := b1) (some 64) rfl rfl (by kernel_rfl) (by kernel_rfl) (by kernel_rfl) (fun _ _ _ h => h) (Or.inl ⟨by rfl, fun _ hw => by go_simp⟩) (by assumption) ?_
            simp only [Act.put, List.setIfInBounds_toArray, List.set_cons_zero, List.set_cons_succ]
            refine anyH_take (i := 12) (v := .int .i64 z1) (some 65) rfl rfl (by kernel_rfl) (by kernel_rfl) (by kernel_rfl) (fun _ _ _ h => h) (Or.inl ⟨by rfl, fun _ hw => by go_simp⟩) (by assumption) ?_
            simp only [Act.put, List.setIfInBounds_toArray, List.set_cons_zero, List.set_cons_succ]
            refine anyH_take (i := 13) (v := a1) (some 12) rfl rfl (by kernel_rfl) (by kernel_rfl) (by kernel_rfl) (fun _ _ _ h => h) (Or.inl ⟨by rfl, fun _ hw => by rfl⟩) (by assumption) ?_
            simp only [Act.put, List.setIfInBounds_toArray, List.set_cons_zero, List.set_cons_succ]
            refine anyH_take (i := 14) (v := b1) (some 13) rfl rfl (by kernel_rfl) (by kernel_rfl) (by kernel_rfl) (fun _ _ _ h => h) (Or.inl ⟨by rfl, fun _ hw => by rfl⟩) (by assumption) ?_
            simp only [Act.put, List.setIfInBounds_toArray, List.set_cons_zero, List.set_cons_succ]
            refine anyH_take (i := 15) (v := .int .i64 z1) (some 14) rfl rfl (by kernel_rfl) (by kernel_rfl) (by kernel_rfl) (fun _ _ _ h => h) (Or.inl ⟨by rfl, fun _ hw => by rfl⟩) (by assumption) ?_
            simp only [Act.put, List.setIfInBounds_toArray, List.set_cons_zero, List.set_cons_succ]
            refine wpAnyH_done (by kernel_rfl) ?_ _
            clear hHeld
            go_wp2_with fail
            go_meet
            exact ⟨z1, rfl, hz1, hB69⟩
        · have hBa70 := hBd.alloc hBd.size (.cells #[.slice Am nm cm] 38)
          go_simp
          refine hKC.out _ _ (keep9.out _ hBa70) (fun hHeld70 => ?_)
          clear hKC KC
          try simp only [Act.put, List.setIfInBounds_toArray, List.set_cons_zero, List.set_cons_succ]
          change wpAnyH _ _ _ _ _ _ _ _ (wd.alloc (.cells [.slice Am nm cm].toArray 38))
          obtain ⟨g70, hg70⟩ : ∃ x, x = wd.heap.size := ⟨_, rfl⟩
          have N70 := Arr.new wd 38 [.slice Am nm cm]
          have hb70 : Below wd.heap.size wd (wd.alloc (.cells [.slice Am nm cm].toArray 38)) := (Below.refl _ _).alloc (Nat.le_refl _) _
          obtain ⟨w70, hw70⟩ : ∃ x, x = wd.alloc (.cells [.slice Am nm cm].toArray 38) := ⟨_, rfl⟩
          rw [← hw70] at hb70 N70 ⊢
          rw [← hg70] at N70 ⊢
          have hB70 := hBd.trans (hb70.mono hBd.size)
          clear hw70 hg70
          refine wpAnyH_ready (rs := [2]) (by kernel_rfl) (by simp) ?_
          refine AllReadyH.cons rfl (fun KC hKC => ?_) AllReadyH.nil
          have hBa71 := hB70.alloc hB70.size (.cells #[] 38)
          go_simp
          refine hKC.out _ _ (keep9.out _ hBa71) (fun hHeld71 => ?_)
          clear hKC KC
          try simp only [Act.put, List.setIfInBounds_toArray, List.set_cons_zero, List.set_cons_succ]
          change wpAnyH _ _ _ _ _ _ _ _ (w70.alloc (.cells #[] 38))
          have hd71 := LRow.empty w70 w9.heap.size hB70.size
          have hb71 : Below w70.heap.size w70 (w70.alloc (.cells #[] 38)) := (Below.refl _ _).alloc (Nat.le_refl _) _
          obtain ⟨g71, hg71⟩ : ∃ x, x = w70.heap.size := ⟨_, rfl⟩
          have hne71 : g71 ≠ g70 := by have := Arr.lt N70; omega
          obtain ⟨w71, hw71⟩ : ∃ x, x = w70.alloc (.cells #[] 38) := ⟨_, rfl⟩
          rw [← hw71] at hb71 hd71 ⊢
          rw [← hg71] at hd71 ⊢
          have hB71 := hB70.trans (hb71.mono hB70.size)
          have N71 := Arr.up N70 hb71
          clear hw71 hg71
          refine wpAnyH_ready (rs := [4]) (by kernel_rfl) (by simp) ?_
          refine AllReadyH.cons rfl (fun KC hKC => ?_) AllReadyH.nil
          rw [if_pos (by rfl)]
          refine wp_append_l (some 58) rfl _ _ rfl hd71 hB71.size rfl A8 np c8 rfl P PC Hnp.out HPC.out (Hp9.out _ hB71).2.1 (Hp9.out _ hB71).2.2 (by simp; omega) (fun v72 w72 h72 hg72 => ?_)
          rw [List.nil_append] at h72
          have hB72 := hB71.trans ((Below.refl _ _).grown hg72 hB71.size (fun k hk => (hd71.lt k hk).1))
          have N72 : Arr w72 g70 38 [.slice Am nm cm] := (hg72.block g70 (Arr.lt N71) (by simp [Value.ownBlock]; exact fun h => hne71 h.symm)).trans N71
          simp only [Act.put, List.setIfInBounds_toArray, List.set_cons_zero, List.set_cons_succ]
          refine hKC.out _ _ (keep9.out _ hB72) (fun hHeld72 => ?_)
          clear hKC KC
          try simp only [Act.put, List.setIfInBounds_toArray, List.set_cons_zero, List.set_cons_succ]
          refine wpAnyH_ready (rs := [7]) (by kernel_rfl) (by simp) ?_
          refine AllReadyH.cons rfl (fun KC hKC => ?_) AllReadyH.nil
          rw [if_pos (by rfl)]
          refine wp_append_l (some 61) rfl _ _ rfl h72 hB72.size rfl (some ⟨g70, 0, none⟩) 1 1 rfl [more] [.slice Am nm cm] rfl rfl (fun _ => ⟨_, rfl, arr_add N72⟩) (Hme.out _ hB72) (by rw [Hnp.out]; omega) (fun v73 w73 h73 hg73 => ?_)
          have hB73 := hB72.trans ((Below.refl _ _).grown hg73 hB72.size (fun k hk => (h72.lt k hk).1))
          obtain ⟨A2, c2, rfl, h21, h22, hrw2⟩ := (h73.toN hB73.size).rows
          rw [Hq1.out] at h21 ⊢
          simp only [Act.put, List.setIfInBounds_toArray, List.set_cons_zero, List.set_cons_succ]
          refine hKC.out _ _ (keep9.out _ hB73) (fun hHeld73 => ?_)
          clear hKC KC
          try simp only [Act.put, List.setIfInBounds_toArray, List.set_cons_zero, List.set_cons_succ]
          refine wpAnyH_ready (rs := [8]) (by kernel_rfl) (by simp) ?_
          refine AllReadyH.cons rfl (fun KC hKC => ?_) AllReadyH.nil
          go_simp
          go_at_call 23
          refine Calls.mono (check_run rX key Hrl.out Hk.out SL KL HSL.out HKL.out (P ++ [more]) A2 (np + 1) c2 _ Hq1.out h21 h22 hrw2 HPm.out (by omega)) ?_
          rintro e w74 ⟨V74, rfl, hV74, hb74⟩
          have hB74 := hB73.trans (hb74.mono hB73.size)
          obtain ⟨a1, b1, z1, rfl, hz1⟩ := hV74.code
          clear hV74
          go_wp2_with fail
          refine hKC.out _ _ (keep9.out _ hB74) (fun hHeld74 => ?_)
          clear hKC KC
          try simp only [Act.put, List.setIfInBounds_toArray, List.set_cons_zero, List.set_cons_succ]
          refine anyH_take (i := 9) (v := .tuple #[a1, b1, .int .i64 z1]) (some 53) rfl rfl (by kernel_rfl) (by kernel_rfl) (by kernel_rfl) (fun _ _ _ h => h) (Or.inl ⟨by rfl, fun _ hw => by rfl⟩) (by assumption) ?_
          simp only [Act.put, List.setIfInBounds_toArray, List.set_cons_zero, List.set_cons_succ]
          refine anyH_take (i := 10) (v := a1) (some 63) rfl rfl (by kernel_rfl) (by kernel_rfl) (by kernel_rfl) (fun _ _ _ h => h) (Or.inl ⟨by rfl, fun _ hw => by go_simp⟩) (by assumption) ?_
          simp only [Act.put, List.setIfInBounds_toArray, List.set_cons_zero, List.set_cons_succ]
          refine anyH_take (i := 11) (v := b1) (some 64) rfl rfl (by kernel_rfl) (by kernel_rfl) (by kernel_rfl) (fun _ _ _ h => h) (Or.inl ⟨by rfl, fun _ hw => by go_simp⟩) (by assumption) ?_
          simp only [Act.put, List.setIfInBounds_toArray, List.set_cons_zero, List.set_cons_succ]
          refine anyH_take (i := 12) (v := .int .i64 z1) (some 65) rfl rfl (by kernel_rfl) (by kernel_rfl) (by kernel_rfl) (fun _ _ _ h => h) (Or.inl ⟨by rfl, fun _ hw => by go_simp⟩) (by assumption) ?_
          simp only [Act.put, List.setIfInBounds_toArray, List.set_cons_zero, List.set_cons_succ]
          refine anyH_take (i := 13) (v := a1) (some 12) rfl rfl (by kernel_rfl) (by kernel_rfl) (by kernel_rfl) (fun _ _ _ h => h) (Or.inl ⟨by rfl, fun _ hw => by rfl⟩) (by assumption) ?_
          simp only [Act.put, List.setIfInBounds_toArray, List.set_cons_zero, List.set_cons_succ]
          refine anyH_take (i := 14) (v := b1) (some 13) rfl rfl (by kernel_rfl) (by kernel_rfl) (by kernel_rfl) (fun _ _ _ h => h) (Or.inl ⟨by rfl, fun _ hw => by rfl⟩) (by assumption) ?_
          simp only [Act.put, List.setIfInBounds_toArray, List.set_cons_zero, List.set_cons_succ]
          refine anyH_take (i := 15) (v := .int .i64 z1) (some 14) rfl rfl (by kernel_rfl) (by kernel_rfl) (by kernel_rfl) (fun _ _ _ h => h) (Or.inl ⟨by rfl, fun _ hw => by rfl⟩) (by assumption) ?_
          simp only [Act.put, List.setIfInBounds_toArray, List.set_cons_zero, List.set_cons_succ]
          refine wpAnyH_done (by kernel_rfl) ?_ _
          clear hHeld
          go_wp2_with fail
          go_meet
          exact ⟨z1, rfl, hz1, hB74⟩
      case rest =>
        obtain ⟨z1, rfl, hz1, hbx⟩ := hcut
        obtain ⟨wx, hwx⟩ : ∃ x, x = wc := ⟨_, rfl⟩
        subst hwx
        clear Hq1 HPm hB0
        rcases hz1 with ⟨rfl, hz1⟩ | ⟨rfl, hz1⟩
        case inr =>
          obtain ⟨hP0, hsha⟩ := HA1.out hz1
          have Hnp0 := Lib.hid (show np = 0 by rw [← Hnp.out, hP0]; rfl)
          have hd0 : decide ((np : Int) = 0) = true := by rw [Hnp0.out]; rfl
          obtain ⟨TL, hTL⟩ : ∃ L, L = Lib.byteCells (shaF (tagF 4 [more])) := ⟨_, rfl⟩
          have heq : ∀ w, (Op.equalIn 10000 24 (.agg TL.toArray) (.agg SL.toArray)).run Tryz.prog w = .ok true w := fun w => by
            rw [eqv_at Tryz.underlying24 _ _ (shaF_length _) Hrl.out TL SL hTL HSL.out w]; simp [hsha]
          have HTL := Lib.hid hTL
          clear hP0 hsha hTL hz1 HA1 HA2 HA3
          go_upto_region 16 with fail
          have hBd := Below.dN hbx 1
          refine wp_region_held_drew (S := fun w' => w'.rangeAt w.heap.size 0 KL ∧ w'.rangeAt rb 0 SL) (by kernel_rfl) (keep9.out _ hBd) (fun hHeld => ?_)
          obtain ⟨wd, hwd⟩ : ∃ x, x = wx.drew := ⟨_, rfl⟩
          change Below _ _ wx.drew at hBd
          rw [← hwd] at hBd ⊢
          try rw [← hwd] at hHeld
          clear hwd
          refine anyH_take (i := 0) (v := .slice A8 np c8) (some 68) rfl rfl (by kernel_rfl) (by kernel_rfl) (by kernel_rfl) (fun _ _ _ h => h) (Or.inl ⟨by rfl, fun _ hw => by rfl⟩) (by assumption) ?_
          simp only [Act.put, List.setIfInBounds_toArray, List.set_cons_zero, List.set_cons_succ]
          refine anyH_take (i := 1) (v := .int .i64 (np : Nat)) (some 69) rfl rfl (by kernel_rfl) (by kernel_rfl) (by kernel_rfl) (fun _ _ _ h => h) (Or.inl ⟨by rfl, fun _ hw => by go_simp⟩) (by assumption) ?_
          simp only [Act.put, List.setIfInBounds_toArray, List.set_cons_zero, List.set_cons_succ]
          refine anyH_take (i := 2) (v := .bool true) (some 70) rfl rfl (by kernel_rfl) (by kernel_rfl) (by kernel_rfl) (fun _ _ _ h => h) (Or.inl ⟨by rfl, fun _ hw => by (go_simp; exact Hnp0.out)⟩) (by assumption) ?_
          simp only [Act.put, List.setIfInBounds_toArray, List.set_cons_zero, List.set_cons_succ]
          refine anyH_take (i := 3) (v := .bool true) (some 71) rfl rfl (by kernel_rfl) (by kernel_rfl) (by kernel_rfl) (fun _ _ _ h => h) (Or.inl ⟨by rfl, fun _ hw => by rfl⟩) (by assumption) ?_
          simp only [Act.put, List.setIfInBounds_toArray, List.set_cons_zero, List.set_cons_succ]
          refine anyH_take (i := 4) (v := .slice Am nm cm) (some 72) rfl rfl (by kernel_rfl) (by kernel_rfl) (by kernel_rfl) (fun _ _ _ h => h) (Or.inl ⟨by rfl, fun _ hw => by rfl⟩) (by assumption) ?_
          simp only [Act.put, List.setIfInBounds_toArray, List.set_cons_zero, List.set_cons_succ]
          refine anyH_take (i := 7) (some 75) rfl rfl (by kernel_rfl) (by kernel_rfl) (by kernel_rfl) (fun _ _ _ h => h) (yieldsIf_load_mid (by rfl) 24 (.tmp 11) rfl rb 0 rfl SL _ (fun _ h => h.2) Tryz.underlying24 rfl HSm.out) (by assumption) ?_
          simp only [Act.put, List.setIfInBounds_toArray, List.set_cons_zero, List.set_cons_succ]
          refine wpAnyH_ready (rs := [5]) (by kernel_rfl) (by simp) ?_
          refine AllReadyH.cons rfl (fun KC hKC => ?_) AllReadyH.nil
          have hBa61 := hBd.alloc hBd.size (.cells #[.slice Am nm cm] 38)
          go_simp
          refine hKC.out _ _ (keep9.out _ hBa61) (fun hHeld61 => ?_)
          clear hKC KC
          try simp only [Act.put, List.setIfInBounds_toArray, List.set_cons_zero, List.set_cons_succ]
          change wpAnyH _ _ _ _ _ _ _ _ (wd.alloc (.cells #[.slice Am nm cm] 38))
          have hrw61 := rows_oneA (w := wd) Hnm.out hcm Hmm.out (Hm9.out _ hBd) hBd.size
          obtain ⟨g61, hg61⟩ : ∃ x, x = wd.heap.size := ⟨_, rfl⟩
          obtain ⟨w61, hw61⟩ : ∃ x, x = wd.alloc (.cells #[.slice Am nm cm] 38) := ⟨_, rfl⟩
          rw [← hw61] at hBa61 hrw61 ⊢
          rw [← hg61] at hrw61 ⊢
          clear hw61 hg61
          refine wpAnyH_ready (rs := [6]) (by kernel_rfl) (by simp) ?_
          refine AllReadyH.cons rfl (fun KC hKC => ?_) AllReadyH.nil
          go_simp
          go_at_call 24
          refine Calls.mono (rtag_at 4 4 [more] TL (some ⟨g61, 0, none⟩) 1 1 _ rfl HTL.out rfl (by omega) hrw61 (tag_oneA 4 (by rw [Hnm.out]; omega))) ?_
          rintro e w62 ⟨rfl, hb62⟩
          have hB62 := hBa61.trans (hb62.mono hBa61.size)
          go_wp2_with fail
          refine hKC.out _ _ (keep9.out _ hB62) (fun hHeld62 => ?_)
          clear hKC KC
          try simp only [Act.put, List.setIfInBounds_toArray, List.set_cons_zero, List.set_cons_succ]
          refine anyH_take (i := 8) (v := .bool true) (some 76) rfl rfl (by kernel_rfl) (by kernel_rfl) (by kernel_rfl) (fun _ _ _ h => h) (Or.inl ⟨by rfl, fun _ hw => by go_simp⟩) (by assumption) ?_
          simp only [Act.put, List.setIfInBounds_toArray, List.set_cons_zero, List.set_cons_succ]
          refine anyH_take (i := 9) (v := .bool true) (some 77) rfl rfl (by kernel_rfl) (by kernel_rfl) (by kernel_rfl) (fun _ _ _ h => h) (Or.inl ⟨by rfl, fun _ hw => by go_simp⟩) (by assumption) ?_
          simp only [Act.put, List.setIfInBounds_toArray, List.set_cons_zero, List.set_cons_succ]
          refine anyH_take (i := 10) (v := .bool true) (some 6) rfl rfl (by kernel_rfl) (by kernel_rfl) (by kernel_rfl) (fun _ _ _ h => h) (Or.inl ⟨by rfl, fun _ hw => by rfl⟩) (by assumption) ?_
          simp only [Act.put, List.setIfInBounds_toArray, List.set_cons_zero, List.set_cons_succ]
          refine wpAnyH_done (by kernel_rfl) ?_ _
          clear hHeld
          have hBz := hb9.trans (hB62.mono hb9.size)
          go_wp2_with fail
          go_ret
          exact ⟨rfl, hBz⟩
        case inl =>
          clear HA1 hz1
          by_cases h0 : np = 0
          · have hd0 : decide ((np : Int) = 0) = true := by simp; omega
            have hBz := hb9.trans (hbx.mono hb9.size)
            go_wp2_with fail
            go_ret
            exact ⟨rfl, hBz⟩
          · have hd0 : decide ((np : Int) = 0) = false := by simp; omega
            have Hne := Lib.hid (show P ≠ [] from fun h => h0 (by rw [← Hnp.out, h]; rfl))
            obtain ⟨T5L, hT5L⟩ : ∃ L, L = Lib.byteCells (shaF (tagF 5 [])) := ⟨_, rfl⟩
            have HT5L := Lib.hid hT5L
            clear hT5L
            go_upto_region 19 with fail
            clear hd0
            go_cut [15] (fun s wy => ∃ b : Bool, s = .bool b ∧ (b = false → rX ≠ T5 ∧ ∀ r, P[1]? = some r → shaF (tagF 4 [r]) ≠ rX) ∧ Below w9.heap.size w9 wy)
            case first =>
                by_cases e5 : rX = T5
                · have heq : ∀ w, (Op.equalIn 10000 24 (.agg SL.toArray) (.agg T5L.toArray)).run Tryz.prog w = .ok true w := fun w => by
                    rw [eqv_at Tryz.underlying24 _ _ Hrl.out (shaF_length _) SL T5L HSL.out HT5L.out w, e5, HT5.out]; simp
                  clear e5
                  have hBd := Below.dN hbx 1
                  refine wp_region_held_drew (S := fun w' => w'.rangeAt w.heap.size 0 KL ∧ w'.rangeAt rb 0 SL) (by kernel_rfl) (keep9.out _ hBd) (fun hHeld => ?_)
                  obtain ⟨wd, hwd⟩ : ∃ x, x = wx.drew := ⟨_, rfl⟩
                  change Below _ _ wx.drew at hBd
                  rw [← hwd] at hBd ⊢
                  try rw [← hwd] at hHeld
                  clear hwd
                  refine anyH_take (i := 0) (some 81) rfl rfl (by kernel_rfl) (by kernel_rfl) (by kernel_rfl) (fun _ _ _ h => h) (yieldsIf_load_mid (by rfl) 24 (.tmp 11) rfl rb 0 rfl SL _ (fun _ h => h.2) Tryz.underlying24 rfl HSm.out) (by assumption) ?_
                  simp only [Act.put, List.setIfInBounds_toArray, List.set_cons_zero, List.set_cons_succ]
                  refine wpAnyH_ready (rs := [1]) (by kernel_rfl) (by simp) ?_
                  refine AllReadyH.cons rfl (fun KC hKC => ?_) AllReadyH.nil
                  go_simp
                  go_at_call 24
                  refine Calls.mono (rtag_at 5 5 [] T5L none 0 0 _ rfl HT5L.out rfl (by omega) (fun h => absurd h (by simp)) (by simp [tagF])) ?_
                  rintro e w61 ⟨rfl, hb61⟩
                  have hB61 := hBd.trans (hb61.mono hBd.size)
                  go_wp2_with fail
                  refine hKC.out _ _ (keep9.out _ hB61) (fun hHeld61 => ?_)
                  clear hKC KC
                  try simp only [Act.put, List.setIfInBounds_toArray, List.set_cons_zero, List.set_cons_succ]
                  refine anyH_take (i := 2) (v := .bool true) (some 83) rfl rfl (by kernel_rfl) (by kernel_rfl) (by kernel_rfl) (fun _ _ _ h => h) (Or.inl ⟨by rfl, fun _ hw => by go_simp⟩) (by assumption) ?_
                  simp only [Act.put, List.setIfInBounds_toArray, List.set_cons_zero, List.set_cons_succ]
                  refine anyH_take (i := 3) (v := .bool true) (some 84) rfl rfl (by kernel_rfl) (by kernel_rfl) (by kernel_rfl) (fun _ _ _ h => h) (Or.inl ⟨by rfl, fun _ hw => by rfl⟩) (by assumption) ?_
                  simp only [Act.put, List.setIfInBounds_toArray, List.set_cons_zero, List.set_cons_succ]
                  refine anyH_take (i := 4) (v := undef) (some 85) rfl rfl (by kernel_rfl) (by kernel_rfl) (by kernel_rfl) (fun _ _ _ h => h) (Or.inr ⟨by rfl, rfl⟩) (by assumption) ?_
                  simp only [Act.put, List.setIfInBounds_toArray, List.set_cons_zero, List.set_cons_succ]
                  refine anyH_take (i := 5) (v := undef) (some 86) rfl rfl (by kernel_rfl) (by kernel_rfl) (by kernel_rfl) (fun _ _ _ h => h) (Or.inr ⟨by rfl, rfl⟩) (by assumption) ?_
                  simp only [Act.put, List.setIfInBounds_toArray, List.set_cons_zero, List.set_cons_succ]
                  refine anyH_take (i := 6) (v := undef) (some 87) rfl rfl (by kernel_rfl) (by kernel_rfl) (by kernel_rfl) (fun _ _ _ h => h) (Or.inr ⟨by rfl, rfl⟩) (by assumption) ?_
                  simp only [Act.put, List.setIfInBounds_toArray, List.set_cons_zero, List.set_cons_succ]
                  refine anyH_take (i := 7) (v := undef) (some 88) rfl rfl (by kernel_rfl) (by kernel_rfl) (by kernel_rfl) (fun _ _ _ h => h) (Or.inr ⟨by rfl, rfl⟩) (by assumption) ?_
                  simp only [Act.put, List.setIfInBounds_toArray, List.set_cons_zero, List.set_cons_succ]
                  refine anyH_take (i := 8) (v := undef) (some 89) rfl rfl (by kernel_rfl) (by kernel_rfl) (by kernel_rfl) (fun _ _ _ h => h) (Or.inr ⟨by rfl, rfl⟩) (by assumption) ?_
                  simp only [Act.put, List.setIfInBounds_toArray, List.set_cons_zero, List.set_cons_succ]
                  refine anyH_take (i := 9) (v := undef) (some 90) rfl rfl (by kernel_rfl) (by kernel_rfl) (by kernel_rfl) (fun _ _ _ h => h) (Or.inr ⟨by rfl, rfl⟩) (by assumption) ?_
                  simp only [Act.put, List.setIfInBounds_toArray, List.set_cons_zero, List.set_cons_succ]
                  refine anyH_take (i := 10) (v := undef) (some 91) rfl rfl (by kernel_rfl) (by kernel_rfl) (by kernel_rfl) (fun _ _ _ h => h) (Or.inr ⟨by rfl, rfl⟩) (by assumption) ?_
                  simp only [Act.put, List.setIfInBounds_toArray, List.set_cons_zero, List.set_cons_succ]
                  refine anyH_take (i := 11) (v := undef) (some 92) rfl rfl (by kernel_rfl) (by kernel_rfl) (by kernel_rfl) (fun _ _ _ h => h) (Or.inr ⟨by rfl, rfl⟩) (by assumption) ?_
                  simp only [Act.put, List.setIfInBounds_toArray, List.set_cons_zero, List.set_cons_succ]
                  refine anyH_take (i := 12) (v := undef) (some 93) rfl rfl (by kernel_rfl) (by kernel_rfl) (by kernel_rfl) (fun _ _ _ h => h) (Or.inr ⟨by rfl, rfl⟩) (by assumption) ?_
                  simp only [Act.put, List.setIfInBounds_toArray, List.set_cons_zero, List.set_cons_succ]
                  refine anyH_take (i := 13) (v := undef) (some 94) rfl rfl (by kernel_rfl) (by kernel_rfl) (by kernel_rfl) (fun _ _ _ h => h) (Or.inr ⟨by rfl, rfl⟩) (by assumption) ?_
                  simp only [Act.put, List.setIfInBounds_toArray, List.set_cons_zero, List.set_cons_succ]
                  refine anyH_take (i := 14) (v := undef) (some 95) rfl rfl (by kernel_rfl) (by kernel_rfl) (by kernel_rfl) (fun _ _ _ h => h) (Or.inr ⟨by rfl, rfl⟩) (by assumption) ?_
                  simp only [Act.put, List.setIfInBounds_toArray, List.set_cons_zero, List.set_cons_succ]
                  refine anyH_take (i := 15) (v := undef) (some 96) rfl rfl (by kernel_rfl) (by kernel_rfl) (by kernel_rfl) (fun _ _ _ h => h) (Or.inr ⟨by rfl, rfl⟩) (by assumption) ?_
                  simp only [Act.put, List.setIfInBounds_toArray, List.set_cons_zero, List.set_cons_succ]
                  refine anyH_take (i := 16) (v := .bool true) (some 97) rfl rfl (by kernel_rfl) (by kernel_rfl) (by kernel_rfl) (fun _ _ _ h => h) (Or.inl ⟨by rfl, fun _ hw => by go_simp⟩) (by assumption) ?_
                  simp only [Act.put, List.setIfInBounds_toArray, List.set_cons_zero, List.set_cons_succ]
                  refine anyH_take (i := 17) (v := .bool true) (some 15) rfl rfl (by kernel_rfl) (by kernel_rfl) (by kernel_rfl) (fun _ _ _ h => h) (Or.inl ⟨by rfl, fun _ hw => by rfl⟩) (by assumption) ?_
                  simp only [Act.put, List.setIfInBounds_toArray, List.set_cons_zero, List.set_cons_succ]
                  refine wpAnyH_done (by kernel_rfl) ?_ _
                  clear hHeld
                  go_wp2_with fail
                  go_meet
                  exact ⟨_, rfl, (fun h => by cases h), hB61⟩
                · have heq : ∀ w, (Op.equalIn 10000 24 (.agg SL.toArray) (.agg T5L.toArray)).run Tryz.prog w = .ok false w := fun w => by
                    rw [eqv_at Tryz.underlying24 _ _ Hrl.out (shaF_length _) SL T5L HSL.out HT5L.out w, ← HT5.out, decide_eq_false e5]
                  have He5 := Lib.hid e5
                  clear e5
                  by_cases h1n : np ≤ 1
                  · have hdn : decide ((1 : Int) < (np : Int)) = false := by simp; omega
                    have Hno := Lib.hid (show ∀ r, P[1]? = some r → shaF (tagF 4 [r]) ≠ rX from fun r hr => by
                      have := (List.getElem?_eq_some_iff.1 hr).1
                      rw [Hnp.out] at this
                      omega)
                    have hBd := Below.dN hbx 1
                    refine wp_region_held_drew (S := fun w' => w'.rangeAt w.heap.size 0 KL ∧ w'.rangeAt rb 0 SL) (by kernel_rfl) (keep9.out _ hBd) (fun hHeld => ?_)
                    obtain ⟨wd, hwd⟩ : ∃ x, x = wx.drew := ⟨_, rfl⟩
                    change Below _ _ wx.drew at hBd
                    rw [← hwd] at hBd ⊢
                    try rw [← hwd] at hHeld
                    clear hwd
                    refine anyH_take (i := 0) (some 81) rfl rfl (by kernel_rfl) (by kernel_rfl) (by kernel_rfl) (fun _ _ _ h => h) (yieldsIf_load_mid (by rfl) 24 (.tmp 11) rfl rb 0 rfl SL _ (fun _ h => h.2) Tryz.underlying24 rfl HSm.out) (by assumption) ?_
                    simp only [Act.put, List.setIfInBounds_toArray, List.set_cons_zero, List.set_cons_succ]
                    refine wpAnyH_ready (rs := [1]) (by kernel_rfl) (by simp) ?_
                    refine AllReadyH.cons rfl (fun KC hKC => ?_) AllReadyH.nil
                    go_simp
                    go_at_call 24
                    refine Calls.mono (rtag_at 5 5 [] T5L none 0 0 _ rfl HT5L.out rfl (by omega) (fun h => absurd h (by simp)) (by simp [tagF])) ?_
                    rintro e w61 ⟨rfl, hb61⟩
                    have hB61 := hBd.trans (hb61.mono hBd.size)
                    go_wp2_with fail
                    refine hKC.out _ _ (keep9.out _ hB61) (fun hHeld61 => ?_)
                    clear hKC KC
                    try simp only [Act.put, List.setIfInBounds_toArray, List.set_cons_zero, List.set_cons_succ]
                    refine anyH_take (i := 2) (v := .bool false) (some 83) rfl rfl (by kernel_rfl) (by kernel_rfl) (by kernel_rfl) (fun _ _ _ h => h) (Or.inl ⟨by rfl, fun _ hw => by go_simp⟩) (by assumption) ?_
                    simp only [Act.put, List.setIfInBounds_toArray, List.set_cons_zero, List.set_cons_succ]
                    refine anyH_take (i := 3) (v := .bool false) (some 84) rfl rfl (by kernel_rfl) (by kernel_rfl) (by kernel_rfl) (fun _ _ _ h => h) (Or.inl ⟨by rfl, fun _ hw => by rfl⟩) (by assumption) ?_
                    simp only [Act.put, List.setIfInBounds_toArray, List.set_cons_zero, List.set_cons_succ]
                    refine anyH_take (i := 4) (v := .slice A8 np c8) (some 85) rfl rfl (by kernel_rfl) (by kernel_rfl) (by kernel_rfl) (fun _ _ _ h => h) (Or.inl ⟨by rfl, fun _ hw => by rfl⟩) (by assumption) ?_
                    simp only [Act.put, List.setIfInBounds_toArray, List.set_cons_zero, List.set_cons_succ]
                    refine anyH_take (i := 5) (v := .int .i64 (np : Nat)) (some 86) rfl rfl (by kernel_rfl) (by kernel_rfl) (by kernel_rfl) (fun _ _ _ h => h) (Or.inl ⟨by rfl, fun _ hw => by go_simp⟩) (by assumption) ?_
                    simp only [Act.put, List.setIfInBounds_toArray, List.set_cons_zero, List.set_cons_succ]
                    refine anyH_take (i := 6) (v := .bool false) (some 87) rfl rfl (by kernel_rfl) (by kernel_rfl) (by kernel_rfl) (fun _ _ _ h => h) (Or.inl ⟨by rfl, fun _ hw => by go_simp⟩) (by assumption) ?_
                    simp only [Act.put, List.setIfInBounds_toArray, List.set_cons_zero, List.set_cons_succ]
                    refine anyH_take (i := 7) (v := .bool false) (some 88) rfl rfl (by kernel_rfl) (by kernel_rfl) (by kernel_rfl) (fun _ _ _ h => h) (Or.inl ⟨by rfl, fun _ hw => by rfl⟩) (by assumption) ?_
                    simp only [Act.put, List.setIfInBounds_toArray, List.set_cons_zero, List.set_cons_succ]
                    refine anyH_take (i := 8) (v := undef) (some 89) rfl rfl (by kernel_rfl) (by kernel_rfl) (by kernel_rfl) (fun _ _ _ h => h) (Or.inr ⟨by rfl, rfl⟩) (by assumption) ?_
                    simp only [Act.put, List.setIfInBounds_toArray, List.set_cons_zero, List.set_cons_succ]
                    refine anyH_take (i := 9) (v := undef) (some 90) rfl rfl (by kernel_rfl) (by kernel_rfl) (by kernel_rfl) (fun _ _ _ h => h) (Or.inr ⟨by rfl, rfl⟩) (by assumption) ?_
                    simp only [Act.put, List.setIfInBounds_toArray, List.set_cons_zero, List.set_cons_succ]
                    refine anyH_take (i := 10) (v := undef) (some 91) rfl rfl (by kernel_rfl) (by kernel_rfl) (by kernel_rfl) (fun _ _ _ h => h) (Or.inr ⟨by rfl, rfl⟩) (by assumption) ?_
                    simp only [Act.put, List.setIfInBounds_toArray, List.set_cons_zero, List.set_cons_succ]
                    refine anyH_take (i := 11) (v := undef) (some 92) rfl rfl (by kernel_rfl) (by kernel_rfl) (by kernel_rfl) (fun _ _ _ h => h) (Or.inr ⟨by rfl, rfl⟩) (by assumption) ?_
                    simp only [Act.put, List.setIfInBounds_toArray, List.set_cons_zero, List.set_cons_succ]
                    refine anyH_take (i := 12) (v := undef) (some 93) rfl rfl (by kernel_rfl) (by kernel_rfl) (by kernel_rfl) (fun _ _ _ h => h) (Or.inr ⟨by rfl, rfl⟩) (by assumption) ?_
                    simp only [Act.put, List.setIfInBounds_toArray, List.set_cons_zero, List.set_cons_succ]
                    refine anyH_take (i := 13) (v := undef) (some 94) rfl rfl (by kernel_rfl) (by kernel_rfl) (by kernel_rfl) (fun _ _ _ h => h) (Or.inr ⟨by rfl, rfl⟩) (by assumption) ?_
                    simp only [Act.put, List.setIfInBounds_toArray, List.set_cons_zero, List.set_cons_succ]
                    refine anyH_take (i := 14) (v := undef) (some 95) rfl rfl (by kernel_rfl) (by kernel_rfl) (by kernel_rfl) (fun _ _ _ h => h) (Or.inr ⟨by rfl, rfl⟩) (by assumption) ?_
                    simp only [Act.put, List.setIfInBounds_toArray, List.set_cons_zero, List.set_cons_succ]
                    refine anyH_take (i := 15) (v := .bool false) (some 96) rfl rfl (by kernel_rfl) (by kernel_rfl) (by kernel_rfl) (fun _ _ _ h => h) (Or.inl ⟨by rfl, fun _ hw => by go_simp⟩) (by assumption) ?_
                    simp only [Act.put, List.setIfInBounds_toArray, List.set_cons_zero, List.set_cons_succ]
                    refine anyH_take (i := 16) (v := .bool false) (some 97) rfl rfl (by kernel_rfl) (by kernel_rfl) (by kernel_rfl) (fun _ _ _ h => h) (Or.inl ⟨by rfl, fun _ hw => by go_simp⟩) (by assumption) ?_
                    simp only [Act.put, List.setIfInBounds_toArray, List.set_cons_zero, List.set_cons_succ]
                    refine anyH_take (i := 17) (v := .bool false) (some 15) rfl rfl (by kernel_rfl) (by kernel_rfl) (by kernel_rfl) (fun _ _ _ h => h) (Or.inl ⟨by rfl, fun _ hw => by rfl⟩) (by assumption) ?_
                    simp only [Act.put, List.setIfInBounds_toArray, List.set_cons_zero, List.set_cons_succ]
                    refine wpAnyH_done (by kernel_rfl) ?_ _
                    clear hHeld
                    go_wp2_with fail
                    go_meet
                    exact ⟨_, rfl, (fun _ => ⟨He5.out, Hno.out⟩), hB61⟩
                  · have hdn : decide ((1 : Int) < (np : Int)) = true := by simp; omega
                    have h1I : (1 : Int) < (np : Int) := by omega
                    obtain ⟨r1, hr1⟩ : ∃ r, P[1]? = some r := ⟨_, List.getElem?_eq_getElem (by rw [Hnp.out]; omega)⟩
                    obtain ⟨k1, q2, q3⟩ := Hp9.out w9 (Below.refl _ _)
                    obtain ⟨blk, off, rfl, hblk, _⟩ := k1 (by rw [Hnp.out]; omega)
                    obtain ⟨A1, c1, hpc, h1c, h1m, _⟩ := q3 1 r1 hr1
                    have hcell : ∀ w', Below w9.heap.size w9 w' → w'.cell? ⟨blk, off + 1, none⟩ = some (.slice A1 r1.length c1) := fun w' h => by
                      obtain ⟨_, k2, _⟩ := Hp9.out w' h
                      obtain ⟨ad, e, hc⟩ := k2 (by omega)
                      injection e with e
                      subst e
                      have := hc 1 _ hpc
                      have hadd : (⟨blk, off, none⟩ : Addr).add 1 = ⟨blk, off + 1, none⟩ := rfl
                      rwa [hadd] at this
                    have H1b := Lib.hid (show ∀ w', Below w9.heap.size w9 w' → Bs w' w9.heap.size A1 r1 from fun w' h => by
                      obtain ⟨_, _, k3⟩ := Hp9.out w' h
                      obtain ⟨A1', c1', e1, _, _, hb⟩ := k3 1 r1 hr1
                      rw [hpc] at e1
                      injection e1 with e1
                      injection e1 with e2 e3 e4
                      rw [e2]; exact hb)
                    have H1l := Lib.hid (HPl.out r1 (List.mem_of_getElem? hr1))
                    obtain ⟨TL, hTL⟩ : ∃ L, L = Lib.byteCells (shaF (tagF 4 [r1])) := ⟨_, rfl⟩
                    obtain ⟨q1, hq1⟩ : ∃ b, decide (shaF (tagF 4 [r1]) = rX) = b := ⟨_, rfl⟩
                    have heq2 : ∀ w, (Op.equalIn 10000 24 (.agg TL.toArray) (.agg SL.toArray)).run Tryz.prog w = .ok q1 w := fun w => by
                      rw [eqv_at Tryz.underlying24 _ _ (shaF_length _) Hrl.out TL SL hTL HSL.out w, hq1]
                    have Hno := Lib.hid (show q1 = false → rX ≠ T5 ∧ ∀ r, P[1]? = some r → shaF (tagF 4 [r]) ≠ rX from fun h => ⟨He5.out, fun r hr => by
                      rw [hr1] at hr
                      injection hr with hr
                      subst hr
                      rw [h] at hq1
                      exact of_decide_eq_false hq1⟩)
                    have HTL := Lib.hid hTL
                    obtain ⟨l1, hl1⟩ : ∃ x, r1.length = x := ⟨_, rfl⟩
                    have H1n := Lib.hid hl1
                    rw [hl1] at hcell h1c
                    have keepc := Lib.hid (show ∀ w', Below w9.heap.size w9 w' → w'.rangeAt w.heap.size 0 KL ∧ w'.rangeAt rb 0 SL ∧ w'.cell? ⟨blk, off + 1, none⟩ = some (.slice A1 l1 c1) from fun w' h => ⟨(keep9.out w' h).1, (keep9.out w' h).2, hcell w' h⟩)
                    unfold maxLen at h1m
                    have Hc1m := Lib.hid (show c1 ≤ maxLen from h1m)
                    clear hTL hq1 hcell hpc hr1 q2 q3 hblk hl1
                    have hBd := Below.dN hbx 1
                    refine wp_region_held_drew (S := fun w' => w'.rangeAt w.heap.size 0 KL ∧ w'.rangeAt rb 0 SL ∧ w'.cell? ⟨blk, off + 1, none⟩ = some (.slice A1 l1 c1)) (by kernel_rfl) (keepc.out _ hBd) (fun hHeld => ?_)
                    obtain ⟨wd, hwd⟩ : ∃ x, x = wx.drew := ⟨_, rfl⟩
                    change Below _ _ wx.drew at hBd
                    rw [← hwd] at hBd ⊢
                    try rw [← hwd] at hHeld
                    clear hwd
                    refine anyH_take (i := 0) (some 81) rfl rfl (by kernel_rfl) (by kernel_rfl) (by kernel_rfl) (fun _ _ _ h => h) (yieldsIf_load_mid (by rfl) 24 (.tmp 11) rfl rb 0 rfl SL _ (fun _ h => h.2.1) Tryz.underlying24 rfl HSm.out) (by assumption) ?_
                    simp only [Act.put, List.setIfInBounds_toArray, List.set_cons_zero, List.set_cons_succ]
                    refine wpAnyH_ready (rs := [1]) (by kernel_rfl) (by simp) ?_
                    refine AllReadyH.cons rfl (fun KC hKC => ?_) AllReadyH.nil
                    go_simp
                    go_at_call 24
                    refine Calls.mono (rtag_at 5 5 [] T5L none 0 0 _ rfl HT5L.out rfl (by omega) (fun h => absurd h (by simp)) (by simp [tagF])) ?_
                    rintro e w61 ⟨rfl, hb61⟩
                    have hB61 := hBd.trans (hb61.mono hBd.size)
                    go_wp2_with fail
                    refine hKC.out _ _ (keepc.out _ hB61) (fun hHeld61 => ?_)
                    clear hKC KC
                    try simp only [Act.put, List.setIfInBounds_toArray, List.set_cons_zero, List.set_cons_succ]
                    refine anyH_take (i := 2) (v := .bool false) (some 83) rfl rfl (by kernel_rfl) (by kernel_rfl) (by kernel_rfl) (fun _ _ _ h => h) (Or.inl ⟨by rfl, fun _ hw => by go_simp⟩) (by assumption) ?_
                    simp only [Act.put, List.setIfInBounds_toArray, List.set_cons_zero, List.set_cons_succ]
                    refine anyH_take (i := 3) (v := .bool false) (some 84) rfl rfl (by kernel_rfl) (by kernel_rfl) (by kernel_rfl) (fun _ _ _ h => h) (Or.inl ⟨by rfl, fun _ hw => by rfl⟩) (by assumption) ?_
                    simp only [Act.put, List.setIfInBounds_toArray, List.set_cons_zero, List.set_cons_succ]
                    refine anyH_take (i := 4) (v := .slice (some ⟨blk, off, none⟩) np c8) (some 85) rfl rfl (by kernel_rfl) (by kernel_rfl) (by kernel_rfl) (fun _ _ _ h => h) (Or.inl ⟨by rfl, fun _ hw => by rfl⟩) (by assumption) ?_
                    simp only [Act.put, List.setIfInBounds_toArray, List.set_cons_zero, List.set_cons_succ]
                    refine anyH_take (i := 5) (v := .int .i64 (np : Nat)) (some 86) rfl rfl (by kernel_rfl) (by kernel_rfl) (by kernel_rfl) (fun _ _ _ h => h) (Or.inl ⟨by rfl, fun _ hw => by go_simp⟩) (by assumption) ?_
                    simp only [Act.put, List.setIfInBounds_toArray, List.set_cons_zero, List.set_cons_succ]
                    refine anyH_take (i := 6) (v := .bool true) (some 87) rfl rfl (by kernel_rfl) (by kernel_rfl) (by kernel_rfl) (fun _ _ _ h => h) (Or.inl ⟨by rfl, fun _ hw => by go_simp⟩) (by assumption) ?_
                    simp only [Act.put, List.setIfInBounds_toArray, List.set_cons_zero, List.set_cons_succ]
                    refine anyH_take (i := 7) (v := .bool true) (some 88) rfl rfl (by kernel_rfl) (by kernel_rfl) (by kernel_rfl) (fun _ _ _ h => h) (Or.inl ⟨by rfl, fun _ hw => by rfl⟩) (by assumption) ?_
                    simp only [Act.put, List.setIfInBounds_toArray, List.set_cons_zero, List.set_cons_succ]
                    refine anyH_take (i := 8) (v := .slice (some ⟨blk, off, none⟩) np c8) (some 89) rfl rfl (by kernel_rfl) (by kernel_rfl) (by kernel_rfl) (fun _ _ _ h => h) (Or.inl ⟨by rfl, fun _ hw => by rfl⟩) (by assumption) ?_
                    simp only [Act.put, List.setIfInBounds_toArray, List.set_cons_zero, List.set_cons_succ]
                    refine anyH_take (i := 9) (v := .pointer (some ⟨blk, off + 1, none⟩)) (some 90) rfl rfl (by kernel_rfl) (by kernel_rfl) (by kernel_rfl) (fun _ _ _ h => h) (Or.inl ⟨by rfl, fun _ hw => by go_simp⟩) (by assumption) ?_
                    simp only [Act.put, List.setIfInBounds_toArray, List.set_cons_zero, List.set_cons_succ]
                    refine anyH_take (i := 10) (v := .slice A1 l1 c1) (some 91) rfl rfl (by kernel_rfl) (by kernel_rfl) (by kernel_rfl) (fun _ _ _ h => h) (Or.inl ⟨by rfl, fun _ hw => by (have hw2 := hw.2.2; go_simp)⟩) (by assumption) ?_
                    simp only [Act.put, List.setIfInBounds_toArray, List.set_cons_zero, List.set_cons_succ]
                    refine anyH_take (i := 13) (some 94) rfl rfl (by kernel_rfl) (by kernel_rfl) (by kernel_rfl) (fun _ _ _ h => h) (yieldsIf_load_mid (by rfl) 24 (.tmp 11) rfl rb 0 rfl SL _ (fun _ h => h.2.1) Tryz.underlying24 rfl HSm.out) (by assumption) ?_
                    simp only [Act.put, List.setIfInBounds_toArray, List.set_cons_zero, List.set_cons_succ]
                    refine wpAnyH_ready (rs := [11]) (by kernel_rfl) (by simp) ?_
                    refine AllReadyH.cons rfl (fun KC hKC => ?_) AllReadyH.nil
                    have hBa62 := hB61.alloc hB61.size (.cells #[.slice A1 l1 c1] 38)
                    go_simp
                    refine hKC.out _ _ (keepc.out _ hBa62) (fun hHeld62 => ?_)
                    clear hKC KC
                    try simp only [Act.put, List.setIfInBounds_toArray, List.set_cons_zero, List.set_cons_succ]
                    change wpAnyH _ _ _ _ _ _ _ _ (w61.alloc (.cells #[.slice A1 l1 c1] 38))
                    have hrw62 := rows_oneA (w := w61) H1n.out h1c Hc1m.out (H1b.out _ hB61) hB61.size
                    obtain ⟨g62, hg62⟩ : ∃ x, x = w61.heap.size := ⟨_, rfl⟩
                    obtain ⟨w62, hw62⟩ : ∃ x, x = w61.alloc (.cells #[.slice A1 l1 c1] 38) := ⟨_, rfl⟩
                    rw [← hw62] at hBa62 hrw62 ⊢
                    rw [← hg62] at hrw62 ⊢
                    clear hw62 hg62
                    refine wpAnyH_ready (rs := [12]) (by kernel_rfl) (by simp) ?_
                    refine AllReadyH.cons rfl (fun KC hKC => ?_) AllReadyH.nil
                    go_simp
                    go_at_call 24
                    refine Calls.mono (rtag_at 4 4 [r1] TL (some ⟨g62, 0, none⟩) 1 1 _ rfl HTL.out rfl (by omega) hrw62 (tag_oneA 4 H1l.out)) ?_
                    rintro e w63 ⟨rfl, hb63⟩
                    have hB63 := hBa62.trans (hb63.mono hBa62.size)
                    go_wp2_with fail
                    refine hKC.out _ _ (keepc.out _ hB63) (fun hHeld63 => ?_)
                    clear hKC KC
                    try simp only [Act.put, List.setIfInBounds_toArray, List.set_cons_zero, List.set_cons_succ]
                    refine anyH_take (i := 14) (v := .bool q1) (some 95) rfl rfl (by kernel_rfl) (by kernel_rfl) (by kernel_rfl) (fun _ _ _ h => h) (Or.inl ⟨by rfl, fun _ hw => by go_simp⟩) (by assumption) ?_
                    simp only [Act.put, List.setIfInBounds_toArray, List.set_cons_zero, List.set_cons_succ]
                    refine anyH_take (i := 15) (v := .bool q1) (some 96) rfl rfl (by kernel_rfl) (by kernel_rfl) (by kernel_rfl) (fun _ _ _ h => h) (Or.inl ⟨by rfl, fun _ hw => by go_simp⟩) (by assumption) ?_
                    simp only [Act.put, List.setIfInBounds_toArray, List.set_cons_zero, List.set_cons_succ]
                    refine anyH_take (i := 16) (v := .bool q1) (some 97) rfl rfl (by kernel_rfl) (by kernel_rfl) (by kernel_rfl) (fun _ _ _ h => h) (Or.inl ⟨by rfl, fun _ hw => by go_simp⟩) (by assumption) ?_
                    simp only [Act.put, List.setIfInBounds_toArray, List.set_cons_zero, List.set_cons_succ]
                    refine anyH_take (i := 17) (v := .bool q1) (some 15) rfl rfl (by kernel_rfl) (by kernel_rfl) (by kernel_rfl) (fun _ _ _ h => h) (Or.inl ⟨by rfl, fun _ hw => by rfl⟩) (by assumption) ?_
                    simp only [Act.put, List.setIfInBounds_toArray, List.set_cons_zero, List.set_cons_succ]
                    refine wpAnyH_done (by kernel_rfl) ?_ _
                    clear hHeld
                    go_wp2_with fail
                    go_meet
                    exact ⟨_, rfl, Hno.out, hB63⟩
            case rest =>
              obtain ⟨qb, rfl, hqb, hby⟩ := hcut
              obtain ⟨wy, hwy⟩ : ∃ x, x = wc := ⟨_, rfl⟩
              subst hwy
              have Hqb := Lib.hid hqb
              have hmI : (np : Int) - 1 = ((np - 1 : Nat) : Int) := by omega
              have hup : ∀ w', (Instr.sliceAt 34 (.slice A8 np c8) none (some (.int .i64 ((np - 1 : Nat) : Int))) none).run Tryz.prog w' = .ok (.slice A8 (np - 1) c8) w' := fun w' => run_upto 34 Tryz.underlying34 (by kernel_rfl) A8 np c8 (np - 1) .i64 _ rfl (by omega) w'
              have hfr : ∀ w', (Instr.sliceAt 34 (.slice A8 np c8) (some (.int .i64 1)) none none).run Tryz.prog w' = .ok (.slice (cutA A8 c8 1) (np - 1) (c8 - 1)) w' := fun w' => run_from 34 Tryz.underlying34 (by kernel_rfl) A8 np c8 1 .i64 _ rfl (by omega) w'
              have HPd := Lib.hid (show P.dropLast.length = np - 1 by rw [List.length_dropLast, Hnp.out])
              have HPt := Lib.hid (show P.tail.length = np - 1 by rw [List.length_tail, Hnp.out])
              clear hqb hbx
              go_upto_region 20 with fail
              have hBd := Below.dN hby 1
              refine wp_region_held_drew (S := fun w' => w'.rangeAt w.heap.size 0 KL ∧ w'.rangeAt rb 0 SL) (by kernel_rfl) (keep9.out _ hBd) (fun hHeld => ?_)
              obtain ⟨wd, hwd⟩ : ∃ x, x = wy.drew := ⟨_, rfl⟩
              change Below _ _ wy.drew at hBd
              rw [← hwd] at hBd ⊢
              try rw [← hwd] at hHeld
              clear hwd
              refine anyH_take (i := 0) (some 99) rfl rfl (by kernel_rfl) (by kernel_rfl) (by kernel_rfl) (fun _ _ _ h => h) (yieldsIf_load_mid (by rfl) 24 (.tmp 11) rfl rb 0 rfl SL _ (fun _ h => h.2) Tryz.underlying24 rfl HSm.out) (by assumption) ?_
              simp only [Act.put, List.setIfInBounds_toArray, List.set_cons_zero, List.set_cons_succ]
              refine anyH_take (i := 1) (some 100) rfl rfl (by kernel_rfl) (by kernel_rfl) (by kernel_rfl) (fun _ _ _ h => h) (yieldsIf_load_mid (by rfl) 24 (.tmp 4) rfl w.heap.size 0 rfl KL _ (fun _ h => h.1) Tryz.underlying24 rfl HKm.out) (by assumption) ?_
              simp only [Act.put, List.setIfInBounds_toArray, List.set_cons_zero, List.set_cons_succ]
              refine anyH_take (i := 2) (v := .slice A8 np c8) (some 101) rfl rfl (by kernel_rfl) (by kernel_rfl) (by kernel_rfl) (fun _ _ _ h => h) (Or.inl ⟨by rfl, fun _ hw => by rfl⟩) (by assumption) ?_
              simp only [Act.put, List.setIfInBounds_toArray, List.set_cons_zero, List.set_cons_succ]
              refine anyH_take (i := 3) (v := .slice A8 np c8) (some 102) rfl rfl (by kernel_rfl) (by kernel_rfl) (by kernel_rfl) (fun _ _ _ h => h) (Or.inl ⟨by rfl, fun _ hw => by rfl⟩) (by assumption) ?_
              simp only [Act.put, List.setIfInBounds_toArray, List.set_cons_zero, List.set_cons_succ]
              refine anyH_take (i := 4) (v := .int .i64 (np : Nat)) (some 103) rfl rfl (by kernel_rfl) (by kernel_rfl) (by kernel_rfl) (fun _ _ _ h => h) (Or.inl ⟨by rfl, fun _ hw => by go_simp⟩) (by assumption) ?_
              simp only [Act.put, List.setIfInBounds_toArray, List.set_cons_zero, List.set_cons_succ]
              refine anyH_take (i := 5) (v := .int .i64 ((np - 1 : Nat) : Int)) (some 104) rfl rfl (by kernel_rfl) (by kernel_rfl) (by kernel_rfl) (fun _ _ _ h => h) (Or.inl ⟨by rfl, fun _ hw => by (go_simp; rw [IntKind.wrap_i64]; omega)⟩) (by assumption) ?_
              simp only [Act.put, List.setIfInBounds_toArray, List.set_cons_zero, List.set_cons_succ]
              refine anyH_take (i := 6) (v := .slice A8 (np - 1) c8) (some 105) rfl rfl (by kernel_rfl) (by kernel_rfl) (by kernel_rfl) (fun _ _ _ h => h) (Or.inl ⟨by rfl, fun _ hw => by go_simp⟩) (by assumption) ?_
              simp only [Act.put, List.setIfInBounds_toArray, List.set_cons_zero, List.set_cons_succ]
              refine wpAnyH_ready (rs := [7]) (by kernel_rfl) (by simp) ?_
              refine AllReadyH.cons rfl (fun KC hKC => ?_) AllReadyH.nil
              go_simp
              go_at_call 23
              refine Calls.mono (check_run rX key Hrl.out Hk.out SL KL HSL.out HKL.out P.dropLast A8 (np - 1) c8 _ HPd.out (by omega) HC8.out ((Hp9.out _ hBd).1.cutlast.more hBd.size) (fun r hr => HPl.out r ((List.dropLast_sublist _).subset hr)) (by omega)) ?_
              rintro e w61 ⟨V61, rfl, hV61, hb61⟩
              have hB61 := hBd.trans (hb61.mono hBd.size)
              obtain ⟨a2, b2, z2, rfl, hz2⟩ := hV61.code
              clear hV61
              go_wp2_with fail
              refine hKC.out _ _ (keep9.out _ hB61) (fun hHeld61 => ?_)
              clear hKC KC
              try simp only [Act.put, List.setIfInBounds_toArray, List.set_cons_zero, List.set_cons_succ]
              refine anyH_take (i := 8) (v := .tuple #[a2, b2, .int .i64 z2]) (some 98) rfl rfl (by kernel_rfl) (by kernel_rfl) (by kernel_rfl) (fun _ _ _ h => h) (Or.inl ⟨by rfl, fun _ hw => by rfl⟩) (by assumption) ?_
              simp only [Act.put, List.setIfInBounds_toArray, List.set_cons_zero, List.set_cons_succ]
              refine anyH_take (i := 9) (v := a2) (some 107) rfl rfl (by kernel_rfl) (by kernel_rfl) (by kernel_rfl) (fun _ _ _ h => h) (Or.inl ⟨by rfl, fun _ hw => by go_simp⟩) (by assumption) ?_
              simp only [Act.put, List.setIfInBounds_toArray, List.set_cons_zero, List.set_cons_succ]
              refine anyH_take (i := 10) (v := b2) (some 108) rfl rfl (by kernel_rfl) (by kernel_rfl) (by kernel_rfl) (fun _ _ _ h => h) (Or.inl ⟨by rfl, fun _ hw => by go_simp⟩) (by assumption) ?_
              simp only [Act.put, List.setIfInBounds_toArray, List.set_cons_zero, List.set_cons_succ]
              refine anyH_take (i := 11) (v := .int .i64 z2) (some 109) rfl rfl (by kernel_rfl) (by kernel_rfl) (by kernel_rfl) (fun _ _ _ h => h) (Or.inl ⟨by rfl, fun _ hw => by go_simp⟩) (by assumption) ?_
              simp only [Act.put, List.setIfInBounds_toArray, List.set_cons_zero, List.set_cons_succ]
              refine anyH_take (i := 12) (v := a2) (some 16) rfl rfl (by kernel_rfl) (by kernel_rfl) (by kernel_rfl) (fun _ _ _ h => h) (Or.inl ⟨by rfl, fun _ hw => by rfl⟩) (by assumption) ?_
              simp only [Act.put, List.setIfInBounds_toArray, List.set_cons_zero, List.set_cons_succ]
              refine anyH_take (i := 13) (v := b2) (some 17) rfl rfl (by kernel_rfl) (by kernel_rfl) (by kernel_rfl) (fun _ _ _ h => h) (Or.inl ⟨by rfl, fun _ hw => by rfl⟩) (by assumption) ?_
              simp only [Act.put, List.setIfInBounds_toArray, List.set_cons_zero, List.set_cons_succ]
              refine anyH_take (i := 14) (v := .int .i64 z2) (some 18) rfl rfl (by kernel_rfl) (by kernel_rfl) (by kernel_rfl) (fun _ _ _ h => h) (Or.inl ⟨by rfl, fun _ hw => by rfl⟩) (by assumption) ?_
              simp only [Act.put, List.setIfInBounds_toArray, List.set_cons_zero, List.set_cons_succ]
              refine wpAnyH_done (by kernel_rfl) ?_ _
              clear hHeld
              go_upto_region 21 with fail
              have hBe := Below.dN hB61 1
              refine wp_region_held_drew (S := fun w' => w'.rangeAt w.heap.size 0 KL ∧ w'.rangeAt rb 0 SL) (by kernel_rfl) (keep9.out _ hBe) (fun hHeld => ?_)
              obtain ⟨we, hwe⟩ : ∃ x, x = w61.drew := ⟨_, rfl⟩
              change Below _ _ w61.drew at hBe
              rw [← hwe] at hBe ⊢
              try rw [← hwe] at hHeld
              clear hwe
              refine anyH_take (i := 0) (some 111) rfl rfl (by kernel_rfl) (by kernel_rfl) (by kernel_rfl) (fun _ _ _ h => h) (yieldsIf_load_mid (by rfl) 24 (.tmp 11) rfl rb 0 rfl SL _ (fun _ h => h.2) Tryz.underlying24 rfl HSm.out) (by assumption) ?_
              simp only [Act.put, List.setIfInBounds_toArray, List.set_cons_zero, List.set_cons_succ]
              refine anyH_take (i := 1) (some 112) rfl rfl (by kernel_rfl) (by kernel_rfl) (by kernel_rfl) (fun _ _ _ h => h) (yieldsIf_load_mid (by rfl) 24 (.tmp 4) rfl w.heap.size 0 rfl KL _ (fun _ h => h.1) Tryz.underlying24 rfl HKm.out) (by assumption) ?_
              simp only [Act.put, List.setIfInBounds_toArray, List.set_cons_zero, List.set_cons_succ]
              refine anyH_take (i := 2) (v := .slice A8 np c8) (some 113) rfl rfl (by kernel_rfl) (by kernel_rfl) (by kernel_rfl) (fun _ _ _ h => h) (Or.inl ⟨by rfl, fun _ hw => by rfl⟩) (by assumption) ?_
              simp only [Act.put, List.setIfInBounds_toArray, List.set_cons_zero, List.set_cons_succ]
              refine anyH_take (i := 3) (v := .slice (cutA A8 c8 1) (np - 1) (c8 - 1)) (some 114) rfl rfl (by kernel_rfl) (by kernel_rfl) (by kernel_rfl) (fun _ _ _ h => h) (Or.inl ⟨by rfl, fun _ hw => by go_simp⟩) (by assumption) ?_
              simp only [Act.put, List.setIfInBounds_toArray, List.set_cons_zero, List.set_cons_succ]
              refine wpAnyH_ready (rs := [4]) (by kernel_rfl) (by simp) ?_
              refine AllReadyH.cons rfl (fun KC hKC => ?_) AllReadyH.nil
              go_simp
              go_at_call 23
              refine Calls.mono (check_run rX key Hrl.out Hk.out SL KL HSL.out HKL.out P.tail (cutA A8 c8 1) (np - 1) (c8 - 1) _ HPt.out (by omega) (Nat.le_trans (Nat.sub_le _ _) HC8.out) (((Hp9.out _ hBe).1.cuthead (by rw [Hnp.out]; exact h81)).more hBe.size) (fun r hr => HPl.out r ((List.tail_sublist _).subset hr)) (by omega)) ?_
              rintro e w401 ⟨V401, rfl, hV401, hb401⟩
              have hB401 := hBe.trans (hb401.mono hBe.size)
              obtain ⟨a3, b3, z3, rfl, hz3⟩ := hV401.code
              clear hV401
              go_wp2_with fail
              refine hKC.out _ _ (keep9.out _ hB401) (fun hHeld401 => ?_)
              clear hKC KC
              try simp only [Act.put, List.setIfInBounds_toArray, List.set_cons_zero, List.set_cons_succ]
              refine anyH_take (i := 5) (v := .tuple #[a3, b3, .int .i64 z3]) (some 110) rfl rfl (by kernel_rfl) (by kernel_rfl) (by kernel_rfl) (fun _ _ _ h => h) (Or.inl ⟨by rfl, fun _ hw => by rfl⟩) (by assumption) ?_
              simp only [Act.put, List.setIfInBounds_toArray, List.set_cons_zero, List.set_cons_succ]
              refine anyH_take (i := 6) (v := a3) (some 116) rfl rfl (by kernel_rfl) (by kernel_rfl) (by kernel_rfl) (fun _ _ _ h => h) (Or.inl ⟨by rfl, fun _ hw => by go_simp⟩) (by assumption) ?_
              simp only [Act.put, List.setIfInBounds_toArray, List.set_cons_zero, List.set_cons_succ]
              refine anyH_take (i := 7) (v := b3) (some 117) rfl rfl (by kernel_rfl) (by kernel_rfl) (by kernel_rfl) (fun _ _ _ h => h) (Or.inl ⟨by rfl, fun _ hw => by go_simp⟩) (by assumption) ?_
              simp only [Act.put, List.setIfInBounds_toArray, List.set_cons_zero, List.set_cons_succ]
              refine anyH_take (i := 8) (v := .int .i64 z3) (some 118) rfl rfl (by kernel_rfl) (by kernel_rfl) (by kernel_rfl) (fun _ _ _ h => h) (Or.inl ⟨by rfl, fun _ hw => by go_simp⟩) (by assumption) ?_
              simp only [Act.put, List.setIfInBounds_toArray, List.set_cons_zero, List.set_cons_succ]
              refine anyH_take (i := 9) (v := a3) (some 19) rfl rfl (by kernel_rfl) (by kernel_rfl) (by kernel_rfl) (fun _ _ _ h => h) (Or.inl ⟨by rfl, fun _ hw => by rfl⟩) (by assumption) ?_
              simp only [Act.put, List.setIfInBounds_toArray, List.set_cons_zero, List.set_cons_succ]
              refine anyH_take (i := 10) (v := b3) (some 20) rfl rfl (by kernel_rfl) (by kernel_rfl) (by kernel_rfl) (fun _ _ _ h => h) (Or.inl ⟨by rfl, fun _ hw => by rfl⟩) (by assumption) ?_
              simp only [Act.put, List.setIfInBounds_toArray, List.set_cons_zero, List.set_cons_succ]
              refine anyH_take (i := 11) (v := .int .i64 z3) (some 21) rfl rfl (by kernel_rfl) (by kernel_rfl) (by kernel_rfl) (fun _ _ _ h => h) (Or.inl ⟨by rfl, fun _ hw => by rfl⟩) (by assumption) ?_
              simp only [Act.put, List.setIfInBounds_toArray, List.set_cons_zero, List.set_cons_succ]
              refine wpAnyH_done (by kernel_rfl) ?_ _
              clear hHeld
              have hBz := hb9.trans (hB401.mono hb9.size)
              go_upto_region 22 with fail
              cases qb with
              | true =>
                rcases hz2 with ⟨rfl, _⟩ | ⟨rfl, _⟩
                · rcases hz3 with ⟨rfl, _⟩ | ⟨rfl, _⟩
                  · go_wp2_with fail
                    go_ret
                    exact ⟨rfl, hBz⟩
                  · go_wp2_with fail
                    go_ret
                    exact ⟨rfl, hBz⟩
                · go_wp2_with fail
                  go_ret
                  exact ⟨rfl, hBz⟩
              | false =>
                obtain ⟨hq1, hq2⟩ := Hqb.out rfl
                have e2 := HA2.out Hne.out hq1
                have e3 := HA3.out Hne.out hq1 hq2
                rcases hz2 with ⟨rfl, _⟩ | ⟨rfl, hz2⟩
                · rcases hz3 with ⟨rfl, _⟩ | ⟨rfl, hz3⟩
                  · clear e2 e3 hq1 hq2
                    go_wp2_with fail
                    go_ret
                    exact ⟨rfl, hBz⟩
                  · exact absurd e3 hz3
                · exact absurd e2 hz2

theorem papart_walk (A : Option Addr) (n c : Nat) (cs : List Cl8) (hn : cs.length = n) (hc : n ≤ c) (hm : c ≤ maxLen) (key : List UInt8) (Am : Option Addr) (cm : Nat) (more : List UInt8) (hcm : more.length ≤ cm) (hmm : cm ≤ maxLen) (w : World) (hcs : Cls8 w w.heap.size A cs) (hk : key.length = 32) (hbm : Bs w w.heap.size Am more) : Calls Tryz.prog 5 #[.slice A n c, .agg (Lib.byteCells key).toArray, .slice Am more.length cm] w fun e w' => e = .returned (.bool true) ∧ Below w.heap.size w w' := by
  rcases Nat.lt_or_ge 300 more.length with h3 | h3
  · exact papart_great A n c cs hn hc hm key Am cm more hcm hmm w hcs hk hbm (.inr h3)
  · cases h : great8 cs with
    | true => exact papart_great A n c cs hn hc hm key Am cm more hcm hmm w hcs hk hbm (.inl h)
    | false => exact papart_in A n c cs hn hc hm key Am cm more hcm hmm w hcs hk hbm h h3

end Go.Proofs.YtblgmnjegkfoaaaGreat

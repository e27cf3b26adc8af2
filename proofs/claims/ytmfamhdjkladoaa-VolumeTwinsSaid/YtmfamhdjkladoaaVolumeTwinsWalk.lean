/-
  VolumeTwins' walk.
-/
import Derived.Test.YtmfamhdjkladoaaVolumeTwinsHead
namespace Go.Proofs.Ytmfamhdjkladoaa
open Go.RowKit
set_option linter.unusedVariables false
set_option linter.unusedSimpArgs false

set_option maxHeartbeats 16000000 in
set_option maxRecDepth 100000 in
theorem vtwins_walk (A : Option Addr) (n c : Nat) (xs : List Cl12) (hn : xs.length = n) (hc : n ≤ c) (hm : c ≤ maxLen) (A2 : Option Addr) (n2 c2 : Nat) (ys : List Cl12) (hn2 : ys.length = n2) (hc2 : n2 ≤ c2) (hm2 : c2 ≤ maxLen) (w : World) (hcs : Cls12 w w.heap.size A xs) (hcs2 : Cls12 w w.heap.size A2 ys) :
    Calls Try.prog 4 #[.slice A n c, .slice A2 n2 c2] w fun e w' => e = .returned (.bool true) ∧ Below w.heap.size w w' := by
  obtain ⟨CZ, hCZ⟩ : ∃ CZ, CZ = c12Z := ⟨_, rfl⟩
  have HZ := Lib.hid (fun w : World => show (zeroValue 42).run Try.prog w = .ok (.agg CZ.toArray) w by rw [hCZ]; exact c12Zero w)
  have HZl := Lib.hid (show CZ.length = 38 by rw [hCZ]; rfl)
  obtain ⟨VZ, hVZ⟩ : ∃ CZ, CZ = vlZ := ⟨_, rfl⟩
  have HVZ := Lib.hid (fun w : World => show (zeroValue 47).run Try.prog w = .ok (.agg VZ.toArray) w by rw [hVZ]; exact vlZero w)
  have HVZl := Lib.hid (show VZ.length = 4 by rw [hVZ]; rfl)
  obtain ⟨KZ, hKZ⟩ : ∃ CZ, CZ = clZ := ⟨_, rfl⟩
  have HKZ := Lib.hid (fun w : World => show (zeroValue 52).run Try.prog w = .ok (.agg KZ.toArray) w by rw [hKZ]; exact klZero w)
  have HKl := Lib.hid (show KZ.length = 33 by rw [hKZ]; rfl)
  clear hCZ hVZ hKZ
  have hm' : c ≤ 9223372036854775807 := by unfold maxLen at hm; omega
  have hm2' : c2 ≤ 9223372036854775807 := by unfold maxLen at hm2; omega
  have Hn := Lib.hid hn
  have Hn2 := Lib.hid hn2
  go_enter Try.func4, Try.ntmps4
  go_wp2_with fail
  refine Calls.mono (speaks12_any w) ?_
  rintro e w1 ⟨rfl, hb1⟩
  have hcs1 := (hcs.below hb1 (Nat.le_refl _)).more hb1.size
  obtain ⟨gr, hgr⟩ : ∃ z, great12 xs = z := ⟨_, rfl⟩
  have hg := great12_any xs A n c w1 hn hc hm' hcs1
  rw [hgr] at hg
  have Hg := Lib.hid hg
  have Hcs := Lib.hid hcs
  have Hcs2 := Lib.hid hcs2
  clear hg hn hcs hcs1
  go_wp2_with fail
  refine Calls.mono Hg.out ?_
  rintro e w2 ⟨rfl, hb2⟩
  have hb2w : Below w.heap.size w w2 := hb1.trans (hb2.mono hb1.size)
  have hcs2' := (hcs2.below hb2w (Nat.le_refl _)).more hb2w.size
  obtain ⟨gr2, hgr2⟩ : ∃ z, great12 ys = z := ⟨_, rfl⟩
  have hg2 := great12_any ys A2 n2 c2 w2 hn2 hc2 hm2' hcs2'
  rw [hgr2] at hg2
  have Hg2 := Lib.hid hg2
  clear hb1 hb2 Hg hg2 hcs2 hcs2' hn2
  cases gr with
  | true =>
    go_wp2_with fail
    go_ret
    exact ⟨rfl, hb2w⟩
  | false =>
    have Hn60 := Lib.hid (great12_no hgr)
    clear hgr
    go_wp2_with fail
    refine Calls.mono Hg2.out ?_
    rintro e w2 ⟨rfl, hb2⟩
    have hb2w : Below w.heap.size w w2 := hb2w.trans (hb2.mono hb2w.size)
    clear hb2 Hg2
    cases gr2 with
    | true =>
      go_wp2_with fail
      go_ret
      exact ⟨rfl, hb2w⟩
    | false =>
      have Hm60 := Lib.hid (great12_no hgr2)
      clear hgr2
      go_wp2_with fail
      refine Calls.mono (vnew_any w2) ?_
      rintro e w3 ⟨s, rfl, hs3, hS3, hb3⟩
      obtain ⟨B, hB⟩ : ∃ B, B = w.heap.size := ⟨_, rfl⟩
      have hB2 := hb2w.size
      rw [← hB] at hb2w hB2
      have hB3 : Below B w w3 := hb2w.trans (hb3.mono hB2)
      have hbn : Below w3.heap.size w3 (w3.alloc (.cells #[] 47)) := (Below.refl _ w3).alloc (Nat.le_refl _) _
      have hB3n : Below B w (w3.alloc (.cells #[] 47)) := hB3.trans (hbn.mono (by have := hB3.size; omega))
      have hP3 : Pair12 (w3.alloc (.cells #[] 47)) B s (some ⟨w3.heap.size, 0, none⟩) 0 0 [] := ⟨_, fun _ => False, hS3.below hbn, ⟨[], rfl, rfl, Nat.le_refl _, by unfold maxLen; omega, VsAt.nil_ _ _ _, .inr ⟨_, _, rfl⟩⟩, fun _ h => h.elim, fun _ h => h.elim, fun b h => h.elim (fun h => h.elim) fun h => by omega, fun _ h => h.elim⟩
      have HBw := Lib.hid hB.symm
      have hBw : B ≤ w.heap.size := by omega
      clear hb2w hb3 hs3 hS3 hB2 hB
      go_wp2_with fail
      go_loopw [6, 29] (fun l i wr => ∃ (k n' c' : Nat) (A' : Option Addr) (L : List Vol), k ≤ n ∧ i = .int .i64 k ∧ l = .slice A' n' c' ∧ Pair12 wr B s A' n' c' L ∧ Hid (L.length ≤ k) ∧ Below B w wr) (fun _ i _ => n - (Go.RowKit.intOf i).toNat)
      case atStart => exact ⟨0, _, _, _, [], Nat.zero_le _, rfl, rfl, hP3, Nat.le_refl _, hB3n⟩
      case round =>
        clear hP3 hB3 hB3n hbn
        obtain ⟨k, n', c', A', L, hk, rfl, rfl, hP, HL, hbr⟩ := hrel
        by_cases hlt : k < n
        · have hd1 : decide ((k : Int) < (n : Int)) = true := by simp; omega
          have hbw : Below w.heap.size w wr := by rw [HBw.out]; exact hbr
          obtain ⟨x, hx⟩ : ∃ x, xs[k]? = some x := ⟨xs[k]'(by rw [Hn.out]; exact hlt), List.getElem?_eq_getElem _⟩
          obtain ⟨b, off, rfl, hblk, hrow⟩ := Hcs.out.2 (by rw [Hn.out]; omega)
          have hxo := Hcs.out.1 x (List.mem_of_getElem? hx)
          obtain ⟨VL, hVL⟩ : ∃ VL, VL = c12C x := ⟨_, rfl⟩
          have hVl : VL.length = 38 := by rw [hVL, c12C_length hxo.f32]
          have hrg : wr.rangeAt b (off + k * 38) VL := fun j v hj => by
            rw [hVL] at hj
            rw [← hrow k x hx j v hj]
            exact World.cell?_of_block (hbw.block b hblk)
          have HVi := Lib.hid (show (Try.prog.info? 42).map (·.size) = some VL.length by rw [hVl]; exact c12Size)
          have HVj := Lib.hid (show (Try.prog.info? 42).map (·.size) = some VL.toArray.size by rw [List.size_toArray, hVl]; exact c12Size)
          have HV1 := Lib.hid (show VL.toArray.all (·.oneCell') = true by rw [hVL]; exact all_oneCell_toArray (c12C_one x))
          have HVz := Lib.hid (show CZ.toArray.size = VL.toArray.size by rw [List.size_toArray, List.size_toArray, HZl.out, hVl])
          obtain ⟨wa, hwa⟩ : ∃ W, W = (wr.alloc (.cells CZ.toArray 42)).setRow wr.heap.size VL.toArray := ⟨_, rfl⟩
          obtain ⟨hVa, hbra⟩ := alloc_row wr 42 CZ.toArray VL
          rw [← hwa] at hVa hbra
          have Hwa := Lib.hid hwa
          have Hxo := Lib.hid hxo
          have HVL := Lib.hid hVL
          clear hwa hx hrow hVL hVl hxo
          have hPa := hP.below hbra
          have hrB : B ≤ wr.heap.size := by have := hbr.size; omega
          have hba : Below B w wa := hbr.trans (hbra.mono hrB)
          have haB : B ≤ wa.heap.size := by have := hba.size; omega
          have hL' : L.length ≤ 100000 := by have := HL.out; have := Hn60.out.1; rw [Hn.out] at this; omega
          have HL' := Lib.hid hL'
          have HPa := Lib.hid hPa
          clear hbra hbr hP hL' hPa hbw
          go_upto_region 9 with (first
            | (refine wpList_load_mid rfl _ _ rfl b (off + k * 38) rfl VL _ hrg Try.underlying42 rfl HVi.out ?_)
            | (refine wpList_allocZ12 rfl 42 rfl CZ.toArray (HZ.out _) ?_)
            | (refine wpList_store_row rfl _ _ _ rfl wr.heap.size VL.toArray rfl rfl 42 CZ.toArray (heap_alloc_new wr _) HVj.out HVz.out HV1.out ?_; rw [← Hwa.out]))
          go_wp2_with (refine wpList_load_row rfl _ _ rfl wr.heap.size rfl 42 VL.toArray (0, 0) _ hVa Try.underlying42 rfl HVj.out ?_)
          refine Calls.mono (HPa.out.call haB x Hxo.out VL HVL.out HL'.out) ?_
          rintro e w4 ⟨A4, n4, c4, rfl, hP4, hri, hb4⟩
          have hl4 := opL_len hri x
          have HL4 : Hid ((opL L x).1.length ≤ k + 1) := Lib.hid (by have := HL.out; omega)
          obtain ⟨L4, hL4⟩ : ∃ z, (opL L x).1 = z := ⟨_, rfl⟩
          rw [hL4] at hP4 HL4
          have hb4B : Below B w w4 := hba.trans hb4
          clear hl4 hL4 hri hb4 HPa
          go_wp2_with fail
          go_roundw
          case rel => exact ⟨k + 1, _, _, _, L4, by omega, by go_num, rfl, hP4, HL4, hb4B⟩
          case measure => simp [Go.RowKit.intOf]; omega
        · obtain rfl : k = n := by omega
          have hd1 : decide (k < k) = false := by simp
          have hL' : L.length ≤ 60 := by have := HL.out; have := Hn60.out.1; rw [Hn.out] at this; omega
          have HL' := Lib.hid hL'
          obtain ⟨wv, rfl⟩ : ∃ z, z = wr := ⟨_, rfl⟩
          have hvB : B ≤ wv.heap.size := by have := hbr.size; omega
          have HP := Lib.hid hP
          obtain ⟨F, G, hS, -⟩ := hP
          clear hL'
          go_wp2_with fail
          refine Calls.mono (twin_any s wv F L hS (Nat.le_trans HL'.out (by omega))) ?_
          rintro e wt ⟨s2, F2, rfl, hS2, hF2, hbt⟩
          have hT : Twn wt wv.heap.size s2 L := ⟨F2, hS2, hF2⟩
          clear hS hS2 hF2
          go_wp2_with fail
          go_loopw [45] (fun i wr => ∃ (k2 : Nat) (L2 : List Vol), k2 ≤ n2 ∧ i = .int .i64 k2 ∧ Twn wr wv.heap.size s2 L2 ∧ Hid (L2.length ≤ 60 + k2) ∧ Below wv.heap.size wv wr) (fun i _ => n2 - (Go.RowKit.intOf i).toNat)
          case atStart => exact ⟨0, L, Nat.zero_le _, rfl, hT, Lib.hid HL'.out, hbt⟩
          case round =>
            clear hT hbt
            obtain ⟨k2, L2, hk2, rfl, hT, HL2, hbr2⟩ := hrel
            by_cases hlt2 : k2 < n2
            · have hd1 : decide ((k2 : Int) < (n2 : Int)) = true := by simp; omega
              have hbw : Below w.heap.size w wr := by rw [HBw.out]; exact hbr.trans (hbr2.mono hvB)
              obtain ⟨x, hx⟩ : ∃ x, ys[k2]? = some x := ⟨ys[k2]'(by rw [Hn2.out]; exact hlt2), List.getElem?_eq_getElem _⟩
              obtain ⟨b, off, rfl, hblk, hrow⟩ := Hcs2.out.2 (by rw [Hn2.out]; omega)
              have hxo := Hcs2.out.1 x (List.mem_of_getElem? hx)
              obtain ⟨VL, hVL⟩ : ∃ VL, VL = c12C x := ⟨_, rfl⟩
              have hVl : VL.length = 38 := by rw [hVL, c12C_length hxo.f32]
              have hrg : wr.rangeAt b (off + k2 * 38) VL := fun j v hj => by
                rw [hVL] at hj
                rw [← hrow k2 x hx j v hj]
                exact World.cell?_of_block (hbw.block b hblk)
              have HVi := Lib.hid (show (Try.prog.info? 42).map (·.size) = some VL.length by rw [hVl]; exact c12Size)
              have HVj := Lib.hid (show (Try.prog.info? 42).map (·.size) = some VL.toArray.size by rw [List.size_toArray, hVl]; exact c12Size)
              have HV1 := Lib.hid (show VL.toArray.all (·.oneCell') = true by rw [hVL]; exact all_oneCell_toArray (c12C_one x))
              have HVz := Lib.hid (show CZ.toArray.size = VL.toArray.size by rw [List.size_toArray, List.size_toArray, HZl.out, hVl])
              obtain ⟨wa, hwa⟩ : ∃ W, W = (wr.alloc (.cells CZ.toArray 42)).setRow wr.heap.size VL.toArray := ⟨_, rfl⟩
              obtain ⟨hVa, hbra⟩ := alloc_row wr 42 CZ.toArray VL
              rw [← hwa] at hVa hbra
              have Hwa := Lib.hid hwa
              have Hxo := Lib.hid hxo
              have HVL := Lib.hid hVL
              clear hwa hx hrow hVL hVl hxo
              have HTa := Lib.hid (hT.below hbra)
              have hba := hbr2.trans (hbra.mono hbr2.size)
              have haB := hba.size
              have hL2' : L2.length ≤ 100000 := by have := HL2.out; have := Hm60.out.1; rw [Hn2.out] at this; omega
              have HL2' := Lib.hid hL2'
              clear hbra hbr2 hT hL2' hbw
              go_upto_region 15 with (first
                | (refine wpList_load_mid rfl _ _ rfl b (off + k2 * 38) rfl VL _ hrg Try.underlying42 rfl HVi.out ?_)
                | (refine wpList_allocZ12 rfl 42 rfl CZ.toArray (HZ.out _) ?_)
                | (refine wpList_store_row rfl _ _ _ rfl wr.heap.size VL.toArray rfl rfl 42 CZ.toArray (heap_alloc_new wr _) HVj.out HVz.out HV1.out ?_; rw [← Hwa.out]))
              go_wp2_with (refine wpList_load_row rfl _ _ rfl wr.heap.size rfl 42 VL.toArray (0, 0) _ hVa Try.underlying42 rfl HVj.out ?_)
              refine Calls.mono (HTa.out.call haB x Hxo.out VL HVL.out HL2'.out) ?_
              rintro e w4 ⟨v4, rfl, ⟨L4, hT4, hl4⟩, hb4⟩
              have HL4 : Hid (L4.length ≤ 60 + (k2 + 1)) := Lib.hid (by have := HL2.out; omega)
              have hb4B := hba.trans hb4
              clear hl4 hb4 HTa
              go_wp2_with fail
              go_roundw
              case rel => exact ⟨k2 + 1, L4, by omega, by go_num, hT4, HL4, hb4B⟩
              case measure => simp [Go.RowKit.intOf]; omega
            · obtain rfl : k2 = n2 := by omega
              have hd1 : decide (k2 < k2) = false := by simp
              have hP := HP.out.below hbr2
              have hbrB := hbr.trans (hbr2.mono hvB)
              obtain ⟨w5, rfl⟩ : ∃ z, z = wr := ⟨_, rfl⟩
              have h5B : B ≤ w5.heap.size := by have := hbrB.size; omega
              have HP5 := Lib.hid hP
              obtain ⟨F5, G5, hS5, hV5, hFG5, -, -, -⟩ := hP
              obtain ⟨xs0, e0, n0, c0, m0, V0, _⟩ := hV5
              have He0 := Lib.hid e0
              have Hn0 := Lib.hid n0
              have HV0 := Lib.hid V0
              have HS5 := Lib.hid hS5
              clear hT hbr2 HP hS5 e0 n0 V0 hvB hbr HL2
              go_wp2_with fail
              refine Calls.mono (all_any s w5 F5 L HS5.out (Nat.le_trans HL'.out (by omega))) ?_
              rintro e w6 ⟨A1, c1, xs1, rfl, h1c, h1m, hV1, hx1, hb6⟩
              have hb6B : Below B w w6 := hbrB.trans (hb6.mono h5B)
              have HV6 := Lib.hid ((HV0.out.keep hb6.size (fun b _ hlt => hb6.block b hlt) (G' := G5) (fun _ _ h => h)))
              have HP6 := Lib.hid (HP5.out.below hb6)
              obtain ⟨n1, hn1⟩ : ∃ z, xs1.length = z := ⟨_, rfl⟩
              rw [hn1] at h1c ⊢
              have Hn1 := Lib.hid hn1
              have Hx1 := Lib.hid hx1
              have HV1 := Lib.hid hV1
              clear hn1 hx1 hV1 hb6 HV0 HP5 hbrB h5B HS5 hFG5
              go_wp2_with fail
              refine Calls.mono (same12_below A1 A' n1 c1 n' c' xs1 xs0 w6 _ G5 HV1.out HV6.out Hn1.out Hn0.out h1c h1m c0 m0 true (by rw [He0.out, Hx1.out]; exact ⟨fun _ => rfl, fun _ => rfl⟩)) ?_
              rintro e w7 ⟨rfl, hb7⟩
              have h6B : B ≤ w6.heap.size := by have := hb6B.size; omega
              have hP7 := HP6.out.below hb7
              have hb7B : Below B w w7 := hb6B.trans (hb7.mono h6B)
              clear hb7 HP6 hb6B HV6 HV1 He0 Hn0 h6B Hn1 Hx1
              have hnL : L.length = n' := by
                obtain ⟨_, _, _, ⟨xs, e1, e2, _⟩, _⟩ := hP7
                rw [← e1, List.length_map, e2]
              have HnL := Lib.hid hnL
              clear hnL
              go_wp2_with fail
              go_loopw [60] (fun i wr => ∃ (k3 : Nat), k3 ≤ n' ∧ i = .int .i64 k3 ∧ Pair12 wr B s A' n' c' L ∧ Below B w wr) (fun i _ => n' - (Go.RowKit.intOf i).toNat)
              case atStart => exact ⟨0, Nat.zero_le _, rfl, hP7, hb7B⟩
              case round =>
                clear hP7 hb7B
                obtain ⟨k3, hk3, rfl, hP, hbr⟩ := hrel
                have hrB : B ≤ wr.heap.size := by have := hbr.size; omega
                by_cases hlt3 : k3 < n'
                · have hd1 : decide ((k3 : Int) < (n' : Int)) = true := by simp; omega
                  have hn60 : n' ≤ 60 := by rw [← HnL.out]; exact HL'.out
                  obtain ⟨F, G, hS, hV, hFG, hG, hFB, hGB⟩ := hP
                  obtain ⟨xs0, e0, n0, c0, m0, V0, hA0⟩ := hV
                  obtain ⟨y, hy⟩ : ∃ y, xs0[k3]? = some y := ⟨xs0[k3]'(by rw [n0]; exact hlt3), List.getElem?_eq_getElem _⟩
                  obtain ⟨b2, off2, rfl, hb2lt, hrow2⟩ := V0.at4 hy
                  have hyo := V0.2 y (List.mem_of_getElem? hy)
                  have hyv : y.v ∈ L := by rw [← e0]; exact List.mem_map_of_mem (List.mem_of_getElem? hy)
                  have hvok := hS.ok y.v hyv
                  have hV0' : VSl wr G (some ⟨b2, off2, none⟩) n' c' L := ⟨xs0, e0, n0, c0, m0, V0, hA0⟩
                  obtain ⟨YL, hYL⟩ : ∃ YL, YL = volC y := ⟨_, rfl⟩
                  have hYl : YL.length = 4 := by rw [hYL]; rfl
                  rw [← hYL] at hrow2
                  have HYi := Lib.hid (show (Try.prog.info? 47).map (·.size) = some YL.length by rw [hYl]; exact vlSize)
                  have HYj := Lib.hid (show (Try.prog.info? 47).map (·.size) = some YL.toArray.size by rw [List.size_toArray, hYl]; exact vlSize)
                  have HY1 := Lib.hid (show YL.toArray.all (·.oneCell') = true by rw [hYL]; exact all_oneCell_toArray (volC_one y))
                  have HYz := Lib.hid (show VZ.toArray.size = YL.toArray.size by rw [List.size_toArray, List.size_toArray, HVZl.out, hYl])
                  obtain ⟨wz, hwz⟩ : ∃ W, W = (wr.alloc (.cells VZ.toArray 47)).setRow wr.heap.size YL.toArray := ⟨_, rfl⟩
                  obtain ⟨hYa, hbz⟩ := alloc_row wr 47 VZ.toArray YL
                  rw [← hwz] at hYa hbz
                  have hbzB : Below B w wz := hbr.trans (hbz.mono hrB)
                  have HSz := Lib.hid (hS.below hbz)
                  have hS0 := hS
                  have HVz := Lib.hid (hV0'.below hbz)
                  have HYo := Lib.hid (hyo.keep hbz.size (fun b _ hlt => hbz.block b hlt) (G' := G) fun _ _ h => h)
                  have HFB := Lib.hid hFB
                  have HGB := Lib.hid hGB
                  have HFG := Lib.hid hFG
                  have HG := Lib.hid hG
                  have Hwz := Lib.hid hwz
                  have HYL := Lib.hid hYL
                  have HYl := Lib.hid hYl
                  have hy0 : wz.cell? ⟨wr.heap.size, 0, none⟩ = some (.string y.v.name) := by rw [hYa.cell, hYL]; rfl
                  have hname := namedB_size hvok.nm
                  obtain ⟨vn, hvn⟩ : ∃ z, y.v.name = z := ⟨_, rfl⟩
                  rw [hvn] at hy0 hname
                  have hname' : vn.size ≤ maxLen := by unfold maxLen; omega
                  have hzs := hbz.size
                  have hltz := hYa.lt
                  obtain ⟨ch, hch⟩ : ∃ z, z = digs36.extract (k3 % 36) (k3 % 36 + 1) := ⟨_, rfl⟩
                  have hsl := slice36 k3
                  have hch1 := slice36_size k3
                  rw [← hch] at hsl hch1
                  clear hch
                  clear hwz hYL hYl hyo hyv hvok hvn hV0' hS hy hbz hFB hGB hFG hG e0 n0 V0 hA0
                  go_upto_region 22 with (first
                    | (refine wpList_load_mid rfl _ _ rfl b2 (off2 + k3 * 4) rfl YL _ hrow2 Try.underlying47 rfl HYi.out ?_)
                    | (refine wpList_allocZ12 rfl 47 rfl VZ.toArray (HVZ.out _) ?_)
                    | (refine wpList_store_row rfl _ _ _ rfl wr.heap.size YL.toArray rfl rfl 47 VZ.toArray (heap_alloc_new wr _) HYj.out HYz.out HY1.out ?_; rw [← Hwz.out]))
                  clear hrow2 hb2lt
                  go_upto_region 23 with fail
                  obtain ⟨nm5, hnm5⟩ : ∃ z, z = (⟨#[99, 111, 112, 121]⟩ : ByteArray) ++ ch := ⟨_, rfl⟩
                  rw [← hnm5]
                  have hnm5s : nm5.size ≤ maxLen := by
                    have h4 : (⟨#[99, 111, 112, 121]⟩ : ByteArray).size = 4 := rfl
                    rw [hnm5, ByteArray.size_append]
                    unfold maxLen
                    omega
                  clear hnm5 hch1 hsl
                  obtain ⟨L', k', hk'⟩ : ∃ L' k', copyL L vn nm5 1048576 false = (L', k') := ⟨_, _, rfl⟩
                  have Hk := Lib.hid hk'
                  clear hk'
                  go_wp2_with fail
                  refine Calls.mono (copy_any s vn nm5 hname' hnm5s 1048576 (by omega) (by omega) false wz F L HSz.out (Nat.le_trans HL'.out (by omega)) L' k' Hk.out) ?_
                  rintro e w4 ⟨rfl, hS4, hO4⟩
                  have hV4 : VSl w4 G (some ⟨b2, off2, none⟩) n' c' L := HVz.out.only hO4 HFG.out
                  have hzB : B ≤ wz.heap.size := by omega
                  have hb4B : Below B w w4 := hbzB.trans (hO4.below hzB HFB.out)
                  have hF4 : ∀ b, newF F wz w4 b → F b ∨ wz.heap.size ≤ b := fun b hb => hb.elim .inl fun h => .inr h.1
                  have hFlt : ∀ b, F b → b < wr.heap.size := fun b hb => by
                    obtain ⟨M, ⟨mb, q⟩, _⟩ := hS0
                    exact q.Flt b hb
                  obtain ⟨F4, hFe⟩ : ∃ z, z = newF F wz w4 := ⟨_, rfl⟩
                  rw [← hFe] at hS4 hF4
                  have hdis4 : ∀ b, G b → ¬ F4 b := fun b hg hf => (hF4 b hf).elim (HFG.out b hg) fun h => by have := HG.out b hg; omega
                  have hY4 : Arr w4 wr.heap.size 47 YL := hYa.only hO4 fun h => by have := hFlt _ h; omega
                  have hyo4 : VxOk w4 G y := HYo.out.keep hO4.size (fun b hg hlt => hO4.block b hlt (HFG.out b hg)) fun _ _ h => h
                  have h4s := hO4.size
                  have HF4 := Lib.hid hF4
                  have Hdis4 := Lib.hid hdis4
                  have HFlt := Lib.hid hFlt
                  clear hO4 hFe hYa HVz HYo hF4 hdis4 hFlt hy0 hbzB hS0
                  by_cases hk0 : k' = 0
                  · subst hk0
                    have q1 : ((0 : Int) != 0) = false := by simp
                    have hd4 : delV L' nm5 = L := copy_del Hk.out
                    have hl4 : L'.length ≤ 100 := by have := (copyL_ok HSz.out.rise Hk.out).len; have := HL'.out; omega
                    obtain ⟨X5, o5, b5, k5, hk5⟩ : ∃ X5 o5 b5 k5, putL L' nm5 5 ff32 = (X5, o5, b5, k5) := ⟨_, _, _, _, rfl⟩
                    have Hd5 := Lib.hid (show delV X5 nm5 = L ∧ X5.length ≤ 100 from ⟨by rw [(put_del hk5).1, hd4], by rw [(put_del hk5).2]; exact hl4⟩)
                    obtain ⟨FL, hFL⟩ : ∃ z, z = Lib.byteCells ff32 := ⟨_, rfl⟩
                    have HFb := Lib.hid (show Try.prog.built 40 [(0, .int .u8 255)] = some FL.toArray by rw [hFL]; exact ff32_built)
                    have HFL := Lib.hid hFL
                    have Hk5 := Lib.hid hk5
                    have HS4 := Lib.hid hS4
                    clear hd4 hl4 hk5 hFL hS4
                    go_wp2_with (refine wpList_builtV rfl _ _ rfl _ rfl FL.toArray HFb.out ?_)
                    refine Calls.mono (put_any s nm5 hnm5s 5 w4 F4 L' HS4.out ff32 rfl FL HFL.out X5 o5 b5 k5 Hk5.out (Lib.byteCells o5) rfl) ?_
                    rintro e w5 ⟨rfl, hS5, hO5⟩
                    have hF5 : ∀ b, newF F4 w4 w5 b → F b ∨ wz.heap.size ≤ b := fun b hb => hb.elim (HF4.out b) fun h => .inr (by omega)
                    have h5s := hO5.size
                    have hV5 : VSl w5 G (some ⟨b2, off2, none⟩) n' c' L := hV4.only hO5 Hdis4.out
                    have hY5 : Arr w5 wr.heap.size 47 YL := hY4.only hO5 fun h => (HF4.out _ h).elim (fun h => by have := HFlt.out _ h; omega) fun h => by omega
                    have hyo5 : VxOk w5 G y := hyo4.keep hO5.size (fun b hg hlt => hO5.block b hlt (Hdis4.out b hg)) fun _ _ h => h
                    have hb5B : Below B w w5 := hb4B.trans (hO5.below (by omega) fun b hb => (HF4.out b hb).elim (HFB.out b) fun h => by omega)
                    obtain ⟨F5, hFe⟩ : ∃ z, z = newF F4 w4 w5 := ⟨_, rfl⟩
                    rw [← hFe] at hS5 hF5
                    have hdis5 : ∀ b, G b → ¬ F5 b := fun b hg hf => (hF5 b hf).elim (HFG.out b hg) fun h => by have := HG.out b hg; omega
                    have hfin5 : ∀ (w9 : World) (F9 : Nat → Prop), Only F5 w5 w9 → SetL w9 F9 s L → (∀ b, F9 b → F5 b ∨ w5.heap.size ≤ b) → Pair12 w9 B s (some ⟨b2, off2, none⟩) n' c' L ∧ Below B w w9 := fun w9 F9 hO hS hF => by
                      have hF9 : ∀ b, F9 b → F b ∨ wz.heap.size ≤ b := fun b hb => (hF b hb).elim (hF5 b) fun h => .inr (by omega)
                      refine ⟨⟨F9, G, hS, hV5.only hO hdis5, fun b hg hf => (hF9 b hf).elim (HFG.out b hg) fun h => by have := HG.out b hg; omega, fun b hg => by have := HG.out b hg; have := hO.size; omega, fun b hf => (hF9 b hf).elim (HFB.out b) fun h => by omega, HGB.out⟩, hb5B.trans (hO.below (by omega) fun b hb => (hF5 b hb).elim (HFB.out b) fun h => by omega)⟩
                    have Hfin5 := Lib.hid hfin5
                    have Hdis5 := Lib.hid hdis5
                    have HF5 := Lib.hid hF5
                    have Hyo5 := Lib.hid hyo5
                    obtain ⟨Ay, hAy⟩ : ∃ z, y.adr = z := ⟨_, rfl⟩
                    obtain ⟨cy, hcy⟩ : ∃ z, y.cap = z := ⟨_, rfl⟩
                    obtain ⟨ul, hul⟩ : ∃ z, y.v.cells.length = z := ⟨_, rfl⟩
                    have y3 : w5.cell? ⟨wr.heap.size, 3, none⟩ = some (.slice Ay ul cy) := by rw [hY5.cell, HYL.out, ← hAy, ← hcy, ← hul]; rfl
                    have hlcy : ul ≤ cy ∧ cy ≤ 9223372036854775807 := by rw [← hul, ← hcy]; exact ⟨hyo5.le, by have := hyo5.lim; unfold maxLen at this; omega⟩
                    have HAy := Lib.hid hAy
                    have Hul := Lib.hid hul
                    clear hO5 hFe hY4 hyo4 hV4 hV5 hY5 hyo5 hfin5 hdis5 hF5 hAy hcy hul hb4B hb5B
                    go_wp2_with fail
                    go_loopw [85] (fun i wr => ∃ (k4 : Nat) (F6 : Nat → Prop) (X6 : List Vol), k4 ≤ ul ∧ i = .int .i64 k4 ∧ SetL wr F6 s X6 ∧ Hid (delV X6 nm5 = L ∧ X6.length ≤ 100) ∧ Hid (∀ b, F6 b → F5 b ∨ w5.heap.size ≤ b) ∧ Only F5 w5 wr) (fun i _ => ul - (Go.RowKit.intOf i).toNat)
                    case atStart => exact ⟨0, F5, X5, Nat.zero_le _, rfl, hS5, Lib.hid Hd5.out, fun b hb => .inl hb, Only.refl _ _⟩
                    case round =>
                      clear hS5 y3
                      obtain ⟨k4, F6, X6, hk4, rfl, hS6, HX6, HF6, hOl⟩ := hrel
                      by_cases hlt4 : k4 < ul
                      · have hd2 : decide ((k4 : Int) < (ul : Int)) = true := by simp; omega
                        obtain ⟨cx, hcx⟩ : ∃ z, y.v.cells[k4]? = some z := ⟨_, List.getElem?_eq_getElem (by rw [Hul.out]; exact hlt4)⟩
                        have hyol : VxOk wr G y := Hyo5.out.keep hOl.size (fun b hg hlt => hOl.block b hlt (Hdis5.out b hg)) fun _ _ h => h
                        obtain ⟨cb, coff, hax, hcb, hx32, hrx0⟩ := hyol.cell hcx
                        rw [HAy.out] at hax
                        subst hax
                        obtain ⟨XL, hXL⟩ : ∃ z, z = cellC cx := ⟨_, rfl⟩
                        have hXl : XL.length = 33 := by rw [hXL, cellC_length hx32]
                        have hrX : wr.rangeAt cb (coff + k4 * 33) XL := fun t v hv => by rw [hXL] at hv; exact hrx0 t v hv
                        have HXi := Lib.hid (show (Try.prog.info? 52).map (·.size) = some XL.length by rw [hXl]; exact clSize)
                        have HXj := Lib.hid (show (Try.prog.info? 52).map (·.size) = some XL.toArray.size by rw [List.size_toArray, hXl]; exact clSize)
                        have HX1 := Lib.hid (show XL.toArray.all (·.oneCell') = true by rw [hXL]; exact all_oneCell_toArray (cellC_one _))
                        have HXz := Lib.hid (show KZ.toArray.size = XL.toArray.size by rw [List.size_toArray, List.size_toArray, HKl.out, hXl])
                        obtain ⟨wa, hwa⟩ : ∃ W, W = (wr.alloc (.cells KZ.toArray 52)).setRow wr.heap.size XL.toArray := ⟨_, rfl⟩
                        obtain ⟨hXa, hba⟩ := alloc_row wr 52 KZ.toArray XL
                        rw [← hwa] at hXa hba
                        obtain ⟨cn, hcn⟩ : ∃ z, cx.1 = z := ⟨_, rfl⟩
                        have x0 : wa.cell? ⟨wr.heap.size, 0, none⟩ = some (.int .i64 (cn : Nat)) := by rw [hXa.cell, hXL, ← hcn]; rfl
                        have HS6 := Lib.hid (hS6.below hba)
                        have HOa := Lib.hid (hOl.step hba)
                        obtain ⟨X7, o7, b7, k7, hk7⟩ : ∃ X7 o7 b7 k7, dropL X6 nm5 (cn : Nat) = (X7, o7, b7, k7) := ⟨_, _, _, _, rfl⟩
                        have HX7 : Hid (delV X7 nm5 = L ∧ X7.length ≤ 100) := Lib.hid ⟨by rw [(drop_del hk7).1]; exact HX6.out.1, by rw [(drop_del hk7).2]; exact HX6.out.2⟩
                        have Hk7 := Lib.hid hk7
                        have Hwa := Lib.hid hwa
                        have hasz := HOa.out.size
                        clear hwa hXL hXl hcx hcb hrx0 hx32 hba hOl hS6 hyol hcn hk7 hXa
                        go_upto_region 28 with (first
                          | (refine wpList_load_mid rfl _ _ rfl cb (coff + k4 * 33) rfl XL _ hrX Try.underlying52 rfl HXi.out ?_)
                          | (refine wpList_allocZ12 rfl 52 rfl KZ.toArray (HKZ.out _) ?_)
                          | (refine wpList_store_row rfl _ _ _ rfl wr.heap.size XL.toArray rfl rfl 52 KZ.toArray (heap_alloc_new wr _) HXj.out HXz.out HX1.out ?_; rw [← Hwa.out]))
                        clear hrX
                        go_wp2_with fail
                        refine Calls.mono (drop_any s nm5 hnm5s (cn : Nat) wa F6 X6 HS6.out X7 o7 b7 k7 Hk7.out (Lib.byteCells o7) rfl) ?_
                        rintro e w8 ⟨rfl, hS8, hO8⟩
                        have hOn := HOa.out.then hO8 HF6.out
                        have HF7 : Hid (∀ b, newF F6 wa w8 b → F5 b ∨ w5.heap.size ≤ b) := Lib.hid fun b hb => hb.elim (HF6.out b) fun h => .inr (by omega)
                        clear hO8 x0
                        go_wp2_with fail
                        go_roundw
                        case rel => exact ⟨k4 + 1, _, X7, by omega, by go_num, hS8, HX7, HF7, hOn⟩
                        case measure => simp [Go.RowKit.intOf]; omega
                      · obtain rfl : k4 = ul := by omega
                        have hd2 : decide (k4 < k4) = false := by simp
                        obtain ⟨X9, k9, hk9⟩ : ∃ X9 k9, deleteL X6 nm5 = (X9, k9) := ⟨_, _, rfl⟩
                        have HX9 := Lib.hid (show X9 = L by rw [delete_del hk9]; exact HX6.out.1)
                        have Hk9 := Lib.hid hk9
                        have HS6 := Lib.hid hS6
                        have HOl := Lib.hid hOl
                        have hlsz := hOl.size
                        clear hk9 hS6 hOl
                        go_wp2_with fail
                        refine Calls.mono (delete_any s nm5 hnm5s wr F6 X6 HS6.out X9 k9 Hk9.out) ?_
                        rintro e w9 ⟨rfl, hS9, hO9⟩
                        rw [HX9.out] at hS9
                        obtain ⟨hP9, hb9⟩ := Hfin5.out w9 _ (HOl.out.then hO9 HF6.out) hS9 fun b hb => hb.elim (HF6.out b) fun h => .inr (by omega)
                        clear hS9 hO9
                        go_wp2_with fail
                        go_roundw
                        case rel => exact ⟨k3 + 1, by omega, by go_num, hP9, hb9⟩
                        case measure => simp [Go.RowKit.intOf]; omega
                  · have q1 : (k' != 0) = true := by simpa using hk0
                    have hLL : L' = L := (copyL_ok HSz.out.rise Hk.out).err hk0
                    rw [hLL] at hS4
                    have hP4 : Pair12 w4 B s (some ⟨b2, off2, none⟩) n' c' L := ⟨F4, G, hS4, hV4, Hdis4.out, fun b hg => by have := HG.out b hg; omega, fun b hf => (HF4.out b hf).elim (HFB.out b) fun h => by omega, HGB.out⟩
                    clear hS4 hV4 hY4 hyo4 hLL hk0
                    go_wp2_with fail
                    go_roundw
                    case rel => exact ⟨k3 + 1, by omega, by go_num, hP4, hb4B⟩
                    case measure => simp [Go.RowKit.intOf]; omega
                · obtain rfl : k3 = n' := by omega
                  have hd1 : decide (k3 < k3) = false := by simp
                  obtain ⟨F5, G5, hS5, hV5, -, -, -, -⟩ := hP
                  obtain ⟨xs0, e0, n0, c0, m0, V0, _⟩ := hV5
                  have He0 := Lib.hid e0
                  have Hn0 := Lib.hid n0
                  have HV0 := Lib.hid V0
                  have HS5 := Lib.hid hS5
                  clear hS5 e0 n0 V0
                  go_wp2_with fail
                  refine Calls.mono (all_any s wr F5 L HS5.out (Nat.le_trans HL'.out (by omega))) ?_
                  rintro e w6 ⟨A1, c1, xs1, rfl, h1c, h1m, hV1, hx1, hb6⟩
                  have hb6B : Below B w w6 := hbr.trans (hb6.mono hrB)
                  have HV6 := Lib.hid ((HV0.out.keep hb6.size (fun b _ hlt => hb6.block b hlt) (G' := G5) (fun _ _ h => h)))
                  obtain ⟨n1, hn1⟩ : ∃ z, xs1.length = z := ⟨_, rfl⟩
                  rw [hn1] at h1c ⊢
                  have Hn1 := Lib.hid hn1
                  have Hx1 := Lib.hid hx1
                  have HV1 := Lib.hid hV1
                  have h6B : B ≤ w6.heap.size := by have := hb6B.size; omega
                  clear hn1 hx1 hV1 hb6 HV0 HS5
                  go_wp2_with fail
                  refine Calls.mono (same12_below A1 A' n1 c1 k3 c' xs1 xs0 w6 _ G5 HV1.out HV6.out Hn1.out Hn0.out h1c h1m c0 m0 true (by rw [He0.out, Hx1.out]; exact ⟨fun _ => rfl, fun _ => rfl⟩)) ?_
                  rintro e w7 ⟨rfl, hb7⟩
                  go_wp2_with fail
                  go_ret
                  exact ⟨rfl, by rw [HBw.out]; exact hb6B.trans (hb7.mono h6B)⟩

end Go.Proofs.Ytmfamhdjkladoaa

/-
  VolumeCopies' walk.
-/
import Derived.Test.YtmfamhdjkladoaaVolSpeaks
import Derived.Test.YtmfamhdjkladoaaVolCallW
import Derived.Test.YtmfamhdjkladoaaVolAll
import Derived.Test.YtmfamhdjkladoaaVolumeCopiesHead
namespace Go.Proofs.Ytmfamhdjkladoaa
open Go.RowKit
set_option linter.unusedVariables false
set_option linter.unusedSimpArgs false

set_option maxHeartbeats 16000000 in
set_option maxRecDepth 100000 in
theorem vcopies_walk (A : Option Addr) (n c : Nat) (xs : List Cl12) (hn : xs.length = n) (hc : n ≤ c) (hm : c ≤ maxLen) (nm : ByteArray) (hnm : nm.size ≤ maxLen) (nu : Int) (hu0 : -9223372036854775808 ≤ nu) (hu1 : nu ≤ 9223372036854775807) (fi : List UInt8) (hfi : fi.length = 32) (DL : List Value) (hDL : DL = Lib.byteCells fi) (w : World) (hcs : Cls12 w w.heap.size A xs) :
    Calls Try.prog 6 #[.slice A n c, .string nm, .int .i64 nu, .agg DL.toArray] w fun e w' => e = .returned (.bool true) ∧ Below w.heap.size w w' := by
  obtain ⟨CZ, hCZ⟩ : ∃ CZ, CZ = c12Z := ⟨_, rfl⟩
  have HZ := Lib.hid (fun w : World => show (zeroValue 42).run Try.prog w = .ok (.agg CZ.toArray) w by rw [hCZ]; exact c12Zero w)
  have HZl := Lib.hid (show CZ.length = 38 by rw [hCZ]; rfl)
  obtain ⟨VZ, hVZ⟩ : ∃ CZ, CZ = vlZ := ⟨_, rfl⟩
  have HVZ := Lib.hid (fun w : World => show (zeroValue 47).run Try.prog w = .ok (.agg VZ.toArray) w by rw [hVZ]; exact vlZero w)
  have HVZl := Lib.hid (show VZ.length = 4 by rw [hVZ]; rfl)
  obtain ⟨W1, hW1⟩ : ∃ x, x = w.alloc (.cells DL.toArray 40) := ⟨_, rfl⟩
  have hR1 : Arr W1 w.heap.size 40 DL := by rw [hW1]; exact Arr.new w _ _
  have hW1s : W1.heap.size = w.heap.size + 1 := by rw [hW1]; simp
  have hb0 : Below w.heap.size w W1 := by rw [hW1]; exact (Below.refl _ w).alloc (Nat.le_refl _) _
  have hRw1 := hR1
  have HW1 := Lib.hid hW1
  have HDL := Lib.hid hDL
  clear hCZ hVZ hW1 hDL
  have hm' : c ≤ 9223372036854775807 := by unfold maxLen at hm; omega
  have Hn := Lib.hid hn
  go_enter Try.func6, Try.ntmps6
  go_upto_region 1 with fail
  change Code.wp _ _ _ _ (w.alloc (.cells DL.toArray 40))
  rw [← HW1.out]
  clear HW1
  go_wp2_with fail
  refine Calls.mono (speaks12_any W1) ?_
  rintro e w1 ⟨rfl, hb1⟩
  have hb1w : Below w.heap.size w w1 := hb0.trans (hb1.mono hb0.size)
  have hcs1 := (hcs.below hb1w (Nat.le_refl _)).more hb1w.size
  have hR1 : Arr w1 w.heap.size 40 DL := hR1.below hb1 hR1.lt
  have hB1 : Below (w.heap.size + 1) W1 w1 := hb1.mono (by omega)
  obtain ⟨gr, hgr⟩ : ∃ z, great12 xs = z := ⟨_, rfl⟩
  have hg := great12_any xs A n c w1 hn hc hm' hcs1
  rw [hgr] at hg
  have Hg := Lib.hid hg
  have Hcs := Lib.hid hcs
  clear hg hn hcs hcs1
  go_wp2_with fail
  refine Calls.mono Hg.out ?_
  rintro e w2 ⟨rfl, hb2⟩
  have hb2w : Below w.heap.size w w2 := hb1w.trans (hb2.mono hb1w.size)
  have hR2 : Arr w2 w.heap.size 40 DL := hR1.below hb2 hR1.lt
  have hB2 : Below (w.heap.size + 1) W1 w2 := hB1.trans (hb2.mono (by have := hB1.size; omega))
  clear hb2 hb1w hb1 hR1 hB1 Hg
  cases gr with
  | true =>
    go_wp2_with fail
    go_ret
    exact ⟨rfl, hb2w⟩
  | false =>
    have Hn60 := Lib.hid (great12_no hgr)
    clear hgr
    by_cases hlong : 100 < nm.size
    · have q0 : decide ((100 : Int) < (nm.size : Int)) = true := by simp; omega
      clear hlong
      go_wp2_with fail
      go_ret
      exact ⟨rfl, hb2w⟩
    have q0 : decide ((100 : Int) < (nm.size : Int)) = false := by simp; omega
    have Hns := Lib.hid hlong
    clear hlong
    go_wp2_with fail
    refine Calls.mono (vnew_any w2) ?_
    rintro e w3 ⟨s, rfl, hs3, hS3, hb3⟩
    obtain ⟨B, hB⟩ : ∃ B, B = w.heap.size + 1 := ⟨_, rfl⟩
    rw [← hB] at hB2 hW1s
    have hBw : w.heap.size < B := by omega
    have hB3 : Below B W1 w3 := hB2.trans (hb3.mono (by have := hB2.size; omega))
    have hbn : Below w3.heap.size w3 (w3.alloc (.cells #[] 47)) := (Below.refl _ w3).alloc (Nat.le_refl _) _
    have hB3n : Below B W1 (w3.alloc (.cells #[] 47)) := hB3.trans (hbn.mono (by have := hB3.size; omega))
    have hP3 : Pair12 (w3.alloc (.cells #[] 47)) B s (some ⟨w3.heap.size, 0, none⟩) 0 0 [] := ⟨_, fun _ => False, hS3.below hbn, ⟨[], rfl, rfl, Nat.le_refl _, by unfold maxLen; omega, VsAt.nil_ _ _ _, .inr ⟨_, _, rfl⟩⟩, fun _ h => h.elim, fun _ h => h.elim, fun b h => h.elim (fun h => h.elim) fun h => by have := hB2.size; omega, fun _ h => h.elim⟩
    have hWB : W1.heap.size = B := hW1s
    clear hb2w hb3 hs3 hS3 hR2 hB2 hB
    go_wp2_with fail
    go_loopw [10, 35] (fun l i wr => ∃ (k n' c' : Nat) (A' : Option Addr) (L : List Vol), k ≤ n ∧ i = .int .i64 k ∧ l = .slice A' n' c' ∧ Pair12 wr B s A' n' c' L ∧ Hid (L.length ≤ k) ∧ Below B W1 wr) (fun _ i _ => n - (Go.RowKit.intOf i).toNat)
    case atStart => exact ⟨0, _, _, _, [], Nat.zero_le _, rfl, rfl, hP3, Nat.le_refl _, hB3n⟩
    case round =>
      clear hP3 hB3 hB3n hbn
      obtain ⟨k, n', c', A', L, hk, rfl, rfl, hP, HL, hbr⟩ := hrel
      by_cases hlt : k < n
      · have hd1 : decide ((k : Int) < (n : Int)) = true := by simp; omega
        have hbw : Below w.heap.size w wr := hb0.trans (hbr.mono (Nat.le_of_lt hBw))
        obtain ⟨x, hx⟩ : ∃ x, xs[k]? = some x := ⟨xs[k]'(by rw [Hn.out]; exact hlt), List.getElem?_eq_getElem _⟩
        obtain ⟨b, off, rfl, hblk, hrow⟩ := Hcs.out.2 (by rw [Hn.out]; omega)
        have hxo := Hcs.out.1 x (List.mem_of_getElem? hx)
        obtain ⟨VL, hVL⟩ : ∃ VL, VL = c12C x := ⟨_, rfl⟩
        have hVl : VL.length = 38 := by rw [hVL, c12C_length hxo.f32]
        have hrg : wr.rangeAt b (off + k * 38) VL := fun j v hj => by
          rw [hVL] at hj
          rw [← hrow k x hx j v hj]
          exact World.cell?_of_block (hbw.block b hblk)
        have HVi := Lib.hid (show (Try.prog.info? 42).map (·.size) = some VL.length by rw [hVl]; exact c12Size)
        have HVj := Lib.hid (show (Try.prog.info? 42).map (·.size) = some VL.toArray.size by rw [List.size_toArray, hVl]; exact c12Size)
        have HV1 := Lib.hid (show VL.toArray.all (·.oneCell') = true by rw [hVL]; exact all_oneCell_toArray (c12C_one x))
        have HVz := Lib.hid (show CZ.toArray.size = VL.toArray.size by rw [List.size_toArray, List.size_toArray, HZl.out, hVl])
        obtain ⟨wa, hwa⟩ : ∃ W, W = (wr.alloc (.cells CZ.toArray 42)).setRow wr.heap.size VL.toArray := ⟨_, rfl⟩
        obtain ⟨hVa, hbra⟩ := alloc_row wr 42 CZ.toArray VL
        rw [← hwa] at hVa hbra
        have hPa := hP.below hbra
        have hrB : B ≤ wr.heap.size := by have := hbr.size; omega
        have hba : Below B W1 wa := hbr.trans (hbra.mono hrB)
        have hwlt : wr.heap.size < wa.heap.size := hVa.lt
        have Hwa := Lib.hid hwa
        have Hxo := Lib.hid hxo
        have HVL := Lib.hid hVL
        have hL' : L.length ≤ 100000 := by have := HL.out; have := Hn60.out.1; rw [Hn.out] at this; omega
        have HL' := Lib.hid hL'
        have HPa := Lib.hid hPa
        clear hwa hx hrow hVL hVl hbra hbr hxo hP hL' hPa hbw
        go_upto_region 9 with (first
          | (refine wpList_load_mid rfl _ _ rfl b (off + k * 38) rfl VL _ hrg Try.underlying42 rfl HVi.out ?_)
          | (refine wpList_allocZ12 rfl 42 rfl CZ.toArray (HZ.out _) ?_)
          | (refine wpList_store_row rfl _ _ _ rfl wr.heap.size VL.toArray rfl rfl 42 CZ.toArray (heap_alloc_new wr _) HVj.out HVz.out HV1.out ?_; rw [← Hwa.out]))
        go_wp2_with (refine wpList_load_row rfl _ _ rfl wr.heap.size rfl 42 VL.toArray (0, 0) _ hVa Try.underlying42 rfl HVj.out ?_)
        refine Calls.mono (HPa.out.call (by have := hba.size; omega) x Hxo.out VL HVL.out HL'.out) ?_
        rintro e w4 ⟨A4, n4, c4, rfl, hP4, hri, hb4⟩
        have hl4 := opL_len hri x
        have HL4 : Hid ((opL L x).1.length ≤ k + 1) := Lib.hid (by have := HL.out; omega)
        obtain ⟨L4, hL4⟩ : ∃ z, (opL L x).1 = z := ⟨_, rfl⟩
        rw [hL4] at hP4 HL4
        have hb4B : Below B W1 w4 := hba.trans hb4
        clear hl4 hL4 hri hb4 HPa
        go_wp2_with fail
        go_roundw
        case rel => exact ⟨k + 1, _, _, _, L4, by omega, by go_num, rfl, hP4, HL4, hb4B⟩
        case measure => simp [Go.RowKit.intOf]; omega
      · obtain rfl : k = n := by omega
        have hd1 : decide (k < k) = false := by simp
        have hL' : L.length ≤ 100000 := by have := HL.out; have := Hn60.out.1; rw [Hn.out] at this; omega
        have hbw : Below w.heap.size w wr := hb0.trans (hbr.mono (Nat.le_of_lt hBw))
        have hrB : B ≤ wr.heap.size := by have := hbr.size; omega
        obtain ⟨F, G, hS, hV, hFG, hG, hFB, hGB⟩ := hP
        obtain ⟨L', k', hk'⟩ : ∃ L' k', copyL L nm ownN 1048576 true = (L', k') := ⟨_, _, rfl⟩
        have Hk := Lib.hid hk'
        have HG := Lib.hid hG
        have HL' := Lib.hid hL'
        have hnm' : nm.size ≤ maxLen := hnm
        clear hk' hG hL'
        go_wp2_with fail
        refine Calls.mono (copy_any s nm ownN hnm (by unfold maxLen; decide) 1048576 (by omega) (by omega) true wr F L hS HL'.out L' k' Hk.out) ?_
        rintro e w4 ⟨rfl, hS4, hO4⟩
        have hV4 : VSl w4 G A' n' c' L := hV.only hO4 hFG
        have hb4B : Below B W1 w4 := hbr.trans (hO4.below hrB hFB)
        have h4B : B ≤ w4.heap.size := by have := hb4B.size; omega
        have hF4 : ∀ b, newF F wr w4 b → B ≤ b := fun b hb => hb.elim (hFB b) fun h => by omega
        have hl4 : L'.length ≤ 100000 := by
          have := (copyL_ok hS.rise Hk.out).len
          have := HL.out; have := Hn60.out.1; rw [Hn.out] at this; omega
        have hl4s : L'.length ≤ 1000 := by
          have := (copyL_ok hS.rise Hk.out).len
          have := HL.out; have := Hn60.out.1; rw [Hn.out] at this; omega
        have Hl4s := Lib.hid hl4s
        have Hlt4 := Lib.hid hS4.lt
        have HS4 := Lib.hid hS4
        have Hl4 := Lib.hid hl4
        have Hri := Lib.hid hS4.rise
        have HRL := Lib.hid hS.rise
        clear hS4 hl4 hS hbr hO4 hbw hrB hV hl4s
        by_cases hk0 : k' = 0
        · subst hk0
          obtain ⟨i, j, u, cc, hi, hiu, hfu, hj, hjc, hcn, hcf, hcc, hne⟩ := copy_found Hri.out Hk.out
          have q1 : ((0 : Int) != 0) = false := by simp
          clear hV4
          go_wp2_with fail
          refine Calls.mono (all_any s w4 _ _ HS4.out Hl4.out) ?_
          rintro e w5 ⟨A1, c1, xs1, rfl, h1c, h1m, hV1, hx1, hb5⟩
          obtain ⟨n1, hn1⟩ : ∃ z, xs1.length = z := ⟨_, rfl⟩
          rw [hn1] at h1c ⊢
          have HS5 := Lib.hid (HS4.out.below hb5)
          have hb5B : Below B W1 w5 := hb4B.trans (hb5.mono h4B)
          have hz45 := hb5.size
          clear hb5 HS4 hb4B
          have Hn1 := Lib.hid hn1
          have Hx1 := Lib.hid hx1
          have HV1 := Lib.hid hV1
          have Hi := Lib.hid hi
          have Hj := Lib.hid hj
          have hin : i < n1 := by
            have := (List.getElem?_eq_some_iff.1 hiu).1
            rw [← hx1, List.length_map] at this; omega
          have hjn : j < n1 := by
            have := (List.getElem?_eq_some_iff.1 hjc).1
            rw [← hx1, List.length_map] at this; omega
          have Hiu := Lib.hid hiu
          have Hfu := Lib.hid hfu
          have Hjc := Lib.hid hjc
          have Hcn := Lib.hid hcn
          have Hcf := Lib.hid hcf
          have Hcc := Lib.hid hcc
          have Hne := Lib.hid hne
          clear hn1 hx1 hV1 hi hj hiu hfu hjc hcn hcf hcc hne
          go_wp2_with fail
          refine Calls.mono (find12_any A1 n1 c1 xs1 nm hnm w5 _ HV1.out Hn1.out h1c h1m) ?_
          rintro e w6 ⟨rfl, rfl⟩
          rw [Hx1.out, Hi.out]
          go_wp2_with fail
          refine Calls.mono (find12_any A1 n1 c1 xs1 ownN (by unfold maxLen; decide) w5 _ HV1.out Hn1.out h1c h1m) ?_
          rintro e w6 ⟨rfl, rfl⟩
          rw [Hx1.out, Hj.out]
          obtain ⟨xi, hxi, hxv⟩ : ∃ xi, xs1[i]? = some xi ∧ xi.v = u := by
            have := Hiu.out
            rw [← Hx1.out, List.getElem?_map, Option.map_eq_some_iff] at this
            exact this
          obtain ⟨xj, hxj, hyv⟩ : ∃ xj, xs1[j]? = some xj ∧ xj.v = cc := by
            have := Hjc.out
            rw [← Hx1.out, List.getElem?_map, Option.map_eq_some_iff] at this
            exact this
          obtain ⟨b1, off1, rfl, hb1l, _, pi0, pi1, pi2, pi3⟩ := HV1.out.at_ hxi
          obtain ⟨b1', off1', e1, _, _, pj0, pj1, pj2, pj3⟩ := HV1.out.at_ hxj
          injection e1 with e1
          injection e1 with e1 e2
          subst e1 e2
          obtain ⟨ul, hul⟩ : ∃ z, xi.v.cells.length = z := ⟨_, rfl⟩
          have hul' : xj.v.cells.length = ul := by rw [hyv, Hcc.out, ← hxv]; exact hul
          have hfz : xj.v.frozen = true := by rw [hyv]; exact Hcf.out
          rw [hul] at pi3
          rw [hul'] at pj3
          rw [hfz] at pj2
          have Hxi := Lib.hid hxi
          have Hxj := Lib.hid hxj
          have Hxv := Lib.hid hxv
          have Hyv := Lib.hid hyv
          have Hul := Lib.hid hul
          have d1 : decide ((i : Int) < 0) = false := by simp
          have d2 : decide ((j : Int) < 0) = false := by simp
          have d3 : ((ul : Int) != (ul : Int)) = false := by simp
          clear hxi hxj hxv hyv hul hul' hfz pi0 pi1 pi2 pj0 pj1
          go_upto_region 15 with fail
          go_quiet (fail)
          go_upto_region 17 with fail
          have hbd : Below w5.heap.size w5 (w5.drewN nq) := Below.dN (Below.refl _ _) nq
          obtain ⟨w6, hw6⟩ : ∃ z, z = w5.drewN nq := ⟨_, rfl⟩
          rw [← hw6] at hbd ⊢
          have hb6B : Below B W1 w6 := hb5B.trans (hbd.mono (by have := hb5B.size; omega))
          have hz46 : w4.heap.size ≤ w6.heap.size := Nat.le_trans hz45 hbd.size
          have HS6 := Lib.hid (HS5.out.below hbd)
          have HV6 := Lib.hid (HV1.out.keep hbd.size (fun b _ hlt => hbd.block b hlt) (G' := fun b => w4.heap.size ≤ b ∧ b < w5.heap.size) (fun b hlt h => ⟨h, hlt⟩))
          have hz56 := hbd.size
          clear hw6 hbd hb5B HS5 pi3 pj2 pj3
          obtain ⟨b2, off2, e2, hb2lt, hrow2⟩ := HV6.out.at4 Hxj.out
          injection e2 with e2
          injection e2 with e2 e3
          subst e2 e3
          have hyo := HV6.out.2 xj (List.mem_of_getElem? Hxj.out)
          obtain ⟨YL, hYL⟩ : ∃ YL, YL = volC xj := ⟨_, rfl⟩
          have hYl : YL.length = 4 := by rw [hYL]; rfl
          rw [← hYL] at hrow2
          have HYi := Lib.hid (show (Try.prog.info? 47).map (·.size) = some YL.length by rw [hYl]; exact vlSize)
          have HYj := Lib.hid (show (Try.prog.info? 47).map (·.size) = some YL.toArray.size by rw [List.size_toArray, hYl]; exact vlSize)
          have HY1 := Lib.hid (show YL.toArray.all (·.oneCell') = true by rw [hYL]; exact all_oneCell_toArray (volC_one xj))
          have HYz := Lib.hid (show VZ.toArray.size = YL.toArray.size by rw [List.size_toArray, List.size_toArray, HVZl.out, hYl])
          obtain ⟨w7, hw7⟩ : ∃ W, W = (w6.alloc (.cells VZ.toArray 47)).setRow w6.heap.size YL.toArray := ⟨_, rfl⟩
          obtain ⟨hYa, hb67⟩ := alloc_row w6 47 VZ.toArray YL
          rw [← hw7] at hYa hb67
          have h6B : B ≤ w6.heap.size := by have := hb6B.size; omega
          have hb7B : Below B W1 w7 := hb6B.trans (hb67.mono h6B)
          have HS7 := Lib.hid (HS6.out.below hb67)
          have HV7 := Lib.hid (HV6.out.keep hb67.size (fun b _ hlt => hb67.block b hlt) (G' := fun b => w4.heap.size ≤ b ∧ b < w5.heap.size) (fun _ _ h => h))
          have hz57 := Nat.le_trans hz56 hb67.size
          have hR7 : Arr w7 w.heap.size 40 DL := hRw1.below hb7B hBw
          have HDi := Lib.hid (show (Try.prog.info? 40).map (·.size) = some DL.toArray.size by rw [List.size_toArray, HDL.out, Lib.byteCells_length, hfi]; exact digInfo)
          have Hw7 := Lib.hid hw7
          have HYL := Lib.hid hYL
          have Hyo := Lib.hid hyo
          clear hw7 hYL hYl hyo hb67 hb6B HS6 HV6
          obtain ⟨L'', o', b', e', hp⟩ : ∃ L'' o' b' e', putL L' nm nu fi = (L'', o', b', e') := ⟨_, _, _, _, rfl⟩
          have hjl : L''[j]? = some cc := put_other hp Hjc.out (by rw [Hcn.out]; exact Hne.out)
          have h32 : o'.length = 32 := putL_32 HS7.out.ok hp
          have hl8 : L''.length ≤ 1001 := by have := (putL_ok Hri.out hp).len; have := Hl4s.out; omega
          have Hp := Lib.hid hp
          have Hjl := Lib.hid hjl
          obtain ⟨OL, hOL⟩ : ∃ z, z = Lib.byteCells o' := ⟨_, rfl⟩
          have HOI := Lib.hid (show (Try.prog.info? 40).map (·.size) = some OL.toArray.size ∧ (Lib.byteCells zeros).toArray.size = OL.toArray.size by rw [hOL, List.size_toArray, List.size_toArray, Lib.byteCells_length, Lib.byteCells_length, h32]; exact ⟨digInfo, rfl⟩)
          have HO1 := Lib.hid (show OL.toArray.all (·.oneCell') = true by rw [hOL]; exact dig_one _)
          have HOL := Lib.hid hOL
          have HYl := Lib.hid (show YL.length = 4 by rw [HYL.out]; rfl)
          have Hl8 := Lib.hid hl8
          clear hp hOL h32 hl8 hjl
          go_upto_region 18 with (first
            | (refine wpList_load_mid rfl _ _ rfl b1 (off1 + j * 4) rfl YL _ hrow2 Try.underlying47 rfl HYi.out ?_)
            | (refine wpList_allocZ12 rfl 47 rfl VZ.toArray (HVZ.out _) ?_)
            | (refine wpList_store_row rfl _ _ _ rfl w6.heap.size YL.toArray rfl rfl 47 VZ.toArray (heap_alloc_new w6 _) HYj.out HYz.out HY1.out ?_; rw [← Hw7.out]))
          go_wp2_with (refine wpList_load_row rfl _ _ rfl w.heap.size rfl 40 DL.toArray (0, 0) _ hR7 Try.underlying40 rfl HDi.out ?_)
          refine Calls.mono (put_any s nm hnm nu w7 _ L' HS7.out fi hfi DL HDL.out L'' o' b' e' Hp.out OL HOL.out) ?_
          rintro e w8 ⟨rfl, hS8, hO8⟩
          have hF8 : ∀ b, newF (newF F wr w4) w7 w8 b → B ≤ b := fun b hb => hb.elim (hF4 b) fun h => by have := hb7B.size; omega
          have hdis : ∀ b, w4.heap.size ≤ b ∧ b < w5.heap.size → ¬ newF (newF F wr w4) w7 w8 b := fun b hb h => h.elim (fun h => by have := Hlt4.out _ h; omega) fun h => by omega
          obtain ⟨F8, hFe⟩ : ∃ z, z = newF (newF F wr w4) w7 w8 := ⟨_, rfl⟩
          rw [← hFe] at hF8 hS8 hdis
          have Hdis := Lib.hid hdis
          obtain ⟨g6, hg6⟩ : ∃ z, z = w6.heap.size := ⟨_, rfl⟩
          rw [← hg6] at hYa hz46 ⊢
          have hY8 : Arr w8 g6 47 YL := hYa.only hO8 fun h => by have := Hlt4.out _ h; omega
          have hV8 : VsAt w8 (fun b => w4.heap.size ≤ b ∧ b < w5.heap.size) (some ⟨b1, off1, none⟩) xs1 := HV7.out.only hO8 fun b hb h => by have := Hlt4.out _ h; omega
          have hb8B : Below B W1 w8 := hb7B.trans (hO8.below (by have := hb7B.size; omega) hF4)
          have h8B : B ≤ w8.heap.size := by have := hb8B.size; omega
          have HF8 := Lib.hid hF8
          clear hO8 hYa HV7 hb7B hF8 hFe HS7 hR7 hg6 Hw7 hrow2 hb2lt h6B hdis
          go_upto_region 19 with (first | (change wpList _ _ _ _ _ (w8.alloc (.cells (Lib.byteCells zeros).toArray 40)); refine wpList_store_row rfl _ _ _ rfl w8.heap.size OL.toArray rfl rfl 40 (Lib.byteCells zeros).toArray (heap_alloc_new w8 _) HOI.out.1 HOI.out.2 HO1.out ?_; obtain ⟨w9, hw9⟩ : ∃ x, x = (w8.alloc (.cells (Lib.byteCells zeros).toArray 40)).setRow w8.heap.size OL.toArray := ⟨_, rfl⟩; rw [← hw9]; obtain ⟨hP9, hb9⟩ := alloc_row w8 40 (Lib.byteCells zeros).toArray OL; rw [← hw9] at hP9 hb9; clear hw9))
          have hY9 := hY8.up hb9
          have HV9 := Lib.hid (hV8.below hb9)
          have HS9 := Lib.hid (hS8.below hb9)
          have hb9B := hb8B.trans (hb9.mono h8B)
          have h9B : B ≤ w9.heap.size := by have := hb9B.size; omega
          have hlt9 := hY9.lt
          have HYo := Lib.hid (HV9.out.2 xj (List.mem_of_getElem? Hxj.out))
          have Hwrap := Lib.hid (show IntKind.i64.wrap ((j : Int) + 1) = (j : Int) + 1 from IntWalk.i64_in _ (by unfold maxLen at h1m; omega))
          clear hV8 hS8 hb9 hb8B hY8 hP9
          go_cut [113] (fun s113 wx => s113 = .bool false ∧ Below w9.heap.size w9 wx)
          case first =>
            refine wp_region_held_drew (S := fun w' => Arr w' g6 47 YL) (by kernel_rfl) hY9 (fun hHeld => ?_)
            have hB0 : Below w9.heap.size w9 w9.drew := Below.dN (Below.refl _ _) 1
            obtain ⟨wd, hwd⟩ : ∃ x, x = w9.drew := ⟨_, rfl⟩
            rw [← hwd] at hB0 ⊢
            try rw [← hwd] at hHeld
            clear hwd
            refine anyH_take (i := 0) (v := .pointer (some ⟨s, 0, none⟩)) (some 104) rfl rfl (by kernel_rfl) (by kernel_rfl) (by kernel_rfl) (fun _ _ _ h => h) (Or.inl ⟨by rfl, fun _ hw => by rfl⟩) (by assumption) ?_
            simp only [Act.put, List.setIfInBounds_toArray, List.set_cons_zero, List.set_cons_succ]
            refine anyH_take (i := 2) (v := .int .i64 (j : Nat)) (some 106) rfl rfl (by kernel_rfl) (by kernel_rfl) (by kernel_rfl) (fun _ _ _ h => h) (Or.inl ⟨by rfl, fun _ hw => by rfl⟩) (by assumption) ?_
            simp only [Act.put, List.setIfInBounds_toArray, List.set_cons_zero, List.set_cons_succ]
            refine anyH_take (i := 3) (v := .int .i64 (j : Nat)) (some 107) rfl rfl (by kernel_rfl) (by kernel_rfl) (by kernel_rfl) (fun _ _ _ h => h) (Or.inl ⟨by rfl, fun _ hw => by rfl⟩) (by assumption) ?_
            simp only [Act.put, List.setIfInBounds_toArray, List.set_cons_zero, List.set_cons_succ]
            refine anyH_take (i := 4) (v := .int .i64 ((j : Int) + 1)) (some 108) rfl rfl (by kernel_rfl) (by kernel_rfl) (by kernel_rfl) (fun _ _ _ h => h) (Or.inl ⟨by rfl, fun _ hw => by (have hwp := Hwrap.out; go_simp)⟩) (by assumption) ?_
            simp only [Act.put, List.setIfInBounds_toArray, List.set_cons_zero, List.set_cons_succ]
            refine anyH_take (i := 6) (some 110) rfl rfl (by kernel_rfl) (by kernel_rfl) (by kernel_rfl) (fun _ _ _ h => h) (yieldsIf_load_mid (by rfl) 47 (.tmp 16) rfl g6 0 rfl YL _ (fun _ h => Arr.range h) Try.underlying47 rfl HYi.out) (by assumption) ?_
            simp only [Act.put, List.setIfInBounds_toArray, List.set_cons_zero, List.set_cons_succ]
            refine wpAnyH_ready (rs := [1, 7]) (by kernel_rfl) (by simp) ?_
            refine AllReadyH.cons rfl (fun KC hKC => ?_) (AllReadyH.cons rfl (fun KC hKC => ?_) AllReadyH.nil)
            · go_simp
              go_at_call 11
              refine Calls.mono (all_any s _ _ L'' (HS9.out.below hB0) (Nat.le_trans Hl8.out (by omega))) ?_
              rintro e w31 ⟨A31, c31, xs31, rfl, h31c, h31m, hV31, hx31, hb31⟩
              have hB31 := hB0.trans (hb31.mono hB0.size)
              obtain ⟨n31, hn31⟩ : ∃ z, xs31.length = z := ⟨_, rfl⟩
              rw [hn31] at h31c ⊢
              obtain ⟨x31, hxk31, hyk31⟩ : ∃ x, xs31[j]? = some x ∧ x.v = cc := by
                have := Hjl.out
                rw [← hx31, List.getElem?_map, Option.map_eq_some_iff] at this
                exact this
              have hjn31 : j < n31 := by have := (List.getElem?_eq_some_iff.1 hxk31).1; omega
              obtain ⟨bb31, of31, rfl, _, _⟩ := hV31.at4 hxk31
              have HA31 := Lib.hid (hV31.sub hxk31)
              have Hsm31 := Lib.hid (show [x31].map (·.v) = [xj].map (·.v) by simp [hyk31, Hyv.out])
              have Hs131 := Lib.hid (show 0 ≤ (j : Int) + 1 ∧ (j : Int) + 1 ≤ (c31 : Int) by omega)
              have Hs231 := Lib.hid (show ¬ c31 = j by omega)
              have hcm31 : c31 ≤ 9223372036854775807 := by unfold maxLen at h31m; omega
              clear hn31 hx31 hV31 hxk31 hyk31 hb31
              go_wp2_with fail
              refine hKC.out _ _ (hY9.up hB31) (fun hHeld31 => ?_)
              clear hKC KC
              try simp only [Act.put, List.setIfInBounds_toArray, List.set_cons_zero, List.set_cons_succ]
              refine anyH_take (i := 5) (v := .slice (some ⟨bb31, of31 + j * 4, none⟩) 1 (c31 - j)) (some 109) rfl rfl (by kernel_rfl) (by kernel_rfl) (by kernel_rfl) (fun _ _ _ h => h) (Or.inl ⟨by rfl, fun _ hw => by (have hwp := Hwrap.out; go_simp; rw [if_pos Hs131.out, if_neg Hs231.out])⟩) (by assumption) ?_
              simp only [Act.put, List.setIfInBounds_toArray, List.set_cons_zero, List.set_cons_succ]
              refine wpAnyH_ready (rs := [7]) (by kernel_rfl) (by simp) ?_
              refine AllReadyH.cons rfl (fun KC hKC => ?_) AllReadyH.nil
              rw [if_pos (by rfl)]
              refine wp_build_vl (some 111) rfl _ rfl YL HYl.out rfl ?_
              simp only [Act.put, List.setIfInBounds_toArray, List.set_cons_zero, List.set_cons_succ]
              refine hKC.out _ _ (hY9.up (Below.alloc hB31 hB31.size _)) (fun hHeld32 => ?_)
              clear hKC KC
              try simp only [Act.put, List.setIfInBounds_toArray, List.set_cons_zero, List.set_cons_succ]
              change wpAnyH _ _ _ _ _ _ _ _ (w31.alloc (.cells YL.toArray 47))
              have hA32 := Arr.new w31 47 YL
              have hb32 : Below w31.heap.size w31 (w31.alloc (.cells YL.toArray 47)) := (Below.refl _ _).alloc (Nat.le_refl _) _
              obtain ⟨w32, hw32⟩ : ∃ x, x = w31.alloc (.cells YL.toArray 47) := ⟨_, rfl⟩
              rw [← hw32] at hA32 hb32 ⊢
              have hB32 := hB31.trans (hb32.mono hB31.size)
              have HO32 := Lib.hid (VsAt.one HYL.out hA32 (HYo.out.keep hB32.size (fun b _ hlt => hB32.block b hlt) fun _ _ h => h))
              have HA32 := Lib.hid (HA31.out.below hb32)
              clear hw32 hA32 hb32
              refine wpAnyH_ready (rs := [8]) (by kernel_rfl) (by simp) ?_
              refine AllReadyH.cons rfl (fun KC hKC => ?_) AllReadyH.nil
              go_simp
              go_at_call 10
              refine Calls.mono (same12_below _ _ 1 (c31 - j) 1 1 [x31] [xj] _ _ _ HA32.out HO32.out rfl rfl (by omega) (by unfold maxLen; omega) (Nat.le_refl _) (by unfold maxLen; omega) true (by rw [Hsm31.out]; simp)) ?_
              rintro e w33 ⟨rfl, hb33⟩
              have hB33 := hB32.trans (hb33.mono hB32.size)
              go_wp2_with fail
              refine hKC.out _ _ (hY9.up hB33) (fun hHeld33 => ?_)
              clear hKC KC
              try simp only [Act.put, List.setIfInBounds_toArray, List.set_cons_zero, List.set_cons_succ]
              refine anyH_take (i := 9) (v := .bool false) (some 113) rfl rfl (by kernel_rfl) (by kernel_rfl) (by kernel_rfl) (fun _ _ _ h => h) (Or.inl ⟨by rfl, fun _ hw => by (go_simp)⟩) (by assumption) ?_
              simp only [Act.put, List.setIfInBounds_toArray, List.set_cons_zero, List.set_cons_succ]
              refine wpAnyH_done (by kernel_rfl) ?_ _
              clear hHeld
              go_wp2_with fail
              go_meet
              exact ⟨rfl, hB33⟩
            · rw [if_pos (by rfl)]
              refine wp_build_vl (some 111) rfl _ rfl YL HYl.out rfl ?_
              simp only [Act.put, List.setIfInBounds_toArray, List.set_cons_zero, List.set_cons_succ]
              refine hKC.out _ _ (hY9.up (Below.alloc hB0 hB0.size _)) (fun hHeld34 => ?_)
              clear hKC KC
              try simp only [Act.put, List.setIfInBounds_toArray, List.set_cons_zero, List.set_cons_succ]
              change wpAnyH _ _ _ _ _ _ _ _ (wd.alloc (.cells YL.toArray 47))
              have hA34 := Arr.new wd 47 YL
              have hb34 : Below wd.heap.size wd (wd.alloc (.cells YL.toArray 47)) := (Below.refl _ _).alloc (Nat.le_refl _) _
              obtain ⟨w34, hw34⟩ : ∃ x, x = wd.alloc (.cells YL.toArray 47) := ⟨_, rfl⟩
              rw [← hw34] at hA34 hb34 ⊢
              have hB34 := hB0.trans (hb34.mono hB0.size)
              have HO34 := Lib.hid (VsAt.one HYL.out hA34 (HYo.out.keep hB34.size (fun b _ hlt => hB34.block b hlt) fun _ _ h => h))
              clear hw34 hA34 hb34
              refine wpAnyH_ready (rs := [1]) (by kernel_rfl) (by simp) ?_
              refine AllReadyH.cons rfl (fun KC hKC => ?_) AllReadyH.nil
              go_simp
              go_at_call 11
              refine Calls.mono (all_any s _ _ L'' (HS9.out.below hB34) (Nat.le_trans Hl8.out (by omega))) ?_
              rintro e w35 ⟨A35, c35, xs35, rfl, h35c, h35m, hV35, hx35, hb35⟩
              have hB35 := hB34.trans (hb35.mono hB34.size)
              obtain ⟨n35, hn35⟩ : ∃ z, xs35.length = z := ⟨_, rfl⟩
              rw [hn35] at h35c ⊢
              obtain ⟨x35, hxk35, hyk35⟩ : ∃ x, xs35[j]? = some x ∧ x.v = cc := by
                have := Hjl.out
                rw [← hx35, List.getElem?_map, Option.map_eq_some_iff] at this
                exact this
              have hjn35 : j < n35 := by have := (List.getElem?_eq_some_iff.1 hxk35).1; omega
              obtain ⟨bb35, of35, rfl, _, _⟩ := hV35.at4 hxk35
              have HA35 := Lib.hid (hV35.sub hxk35)
              have Hsm35 := Lib.hid (show [x35].map (·.v) = [xj].map (·.v) by simp [hyk35, Hyv.out])
              have Hs135 := Lib.hid (show 0 ≤ (j : Int) + 1 ∧ (j : Int) + 1 ≤ (c35 : Int) by omega)
              have Hs235 := Lib.hid (show ¬ c35 = j by omega)
              have hcm35 : c35 ≤ 9223372036854775807 := by unfold maxLen at h35m; omega
              have HO35 := Lib.hid (HO34.out.below hb35)
              clear hn35 hx35 hV35 hxk35 hyk35 hb35
              go_wp2_with fail
              refine hKC.out _ _ (hY9.up hB35) (fun hHeld35 => ?_)
              clear hKC KC
              try simp only [Act.put, List.setIfInBounds_toArray, List.set_cons_zero, List.set_cons_succ]
              refine anyH_take (i := 5) (v := .slice (some ⟨bb35, of35 + j * 4, none⟩) 1 (c35 - j)) (some 109) rfl rfl (by kernel_rfl) (by kernel_rfl) (by kernel_rfl) (fun _ _ _ h => h) (Or.inl ⟨by rfl, fun _ hw => by (have hwp := Hwrap.out; go_simp; rw [if_pos Hs135.out, if_neg Hs235.out])⟩) (by assumption) ?_
              simp only [Act.put, List.setIfInBounds_toArray, List.set_cons_zero, List.set_cons_succ]
              refine wpAnyH_ready (rs := [8]) (by kernel_rfl) (by simp) ?_
              refine AllReadyH.cons rfl (fun KC hKC => ?_) AllReadyH.nil
              go_simp
              go_at_call 10
              refine Calls.mono (same12_below _ _ 1 (c35 - j) 1 1 [x35] [xj] _ _ _ HA35.out HO35.out rfl rfl (by omega) (by unfold maxLen; omega) (Nat.le_refl _) (by unfold maxLen; omega) true (by rw [Hsm35.out]; simp)) ?_
              rintro e w36 ⟨rfl, hb36⟩
              have hB36 := hB35.trans (hb36.mono hB35.size)
              go_wp2_with fail
              refine hKC.out _ _ (hY9.up hB36) (fun hHeld36 => ?_)
              clear hKC KC
              try simp only [Act.put, List.setIfInBounds_toArray, List.set_cons_zero, List.set_cons_succ]
              refine anyH_take (i := 9) (v := .bool false) (some 113) rfl rfl (by kernel_rfl) (by kernel_rfl) (by kernel_rfl) (fun _ _ _ h => h) (Or.inl ⟨by rfl, fun _ hw => by (go_simp)⟩) (by assumption) ?_
              simp only [Act.put, List.setIfInBounds_toArray, List.set_cons_zero, List.set_cons_succ]
              refine wpAnyH_done (by kernel_rfl) ?_ _
              clear hHeld
              go_wp2_with fail
              go_meet
              exact ⟨rfl, hB36⟩
          case rest =>
            obtain ⟨rfl, hbc⟩ := hcut
            have HS10 := Lib.hid (HS9.out.below hbc)
            have HV10 := Lib.hid (HV9.out.below hbc)
            have hb10B := hb9B.trans (hbc.mono h9B)
            have HY10 := Lib.hid (hY9.up hbc)
            have h10B : B ≤ wc.heap.size := by have := hb10B.size; omega
            obtain ⟨w10, hw10⟩ : ∃ z, z = wc := ⟨_, rfl⟩
            rw [← hw10] at HS10 HV10 hb10B HY10 h10B ⊢
            clear HS9 HV9 hb9B HYo hbc hw10 wc hY9 hlt9 h9B
            by_cases hdr : e' = 0 ∧ b' = false
            · obtain ⟨rfl, rfl⟩ := hdr
              have Hpd := Lib.hid (put_drop Hri.out Hp.out)
              obtain ⟨L3, o3, b3, k3, hd3⟩ : ∃ L3 o3 b3 k3, dropL L'' nm nu = (L3, o3, b3, k3) := ⟨_, _, _, _, rfl⟩
              have HL3 := Lib.hid (show L3 = L' by rw [← Hpd.out, hd3])
              have Hd3 := Lib.hid hd3
              have q5 : ((0 : Int) == 0) = true := by simp
              clear hd3
              go_wp2_with fail
              refine Calls.mono (drop_any s nm hnm nu w10 F8 L'' HS10.out L3 o3 b3 k3 Hd3.out (Lib.byteCells o3) rfl) ?_
              rintro e w11 ⟨rfl, hS11, hO11⟩
              have HV11 := Lib.hid (HV10.out.only hO11 (fun b hb => Hdis.out b hb))
              have hb11B := hb10B.trans (hO11.below h10B HF8.out)
              have h11B : B ≤ w11.heap.size := by have := hb11B.size; omega
              have HS11 := Lib.hid hS11
              have hl3 : L3.length ≤ 100000 := by rw [HL3.out]; have := Hl4s.out; omega
              clear hS11 hO11 HS10 HV10 hb10B HY10 h10B
              go_wp2_with fail
              refine Calls.mono (all_any s w11 _ L3 HS11.out hl3) ?_
              rintro e w12 ⟨A2, c2, xs2, rfl, h2c, h2m, hV2, hx2, hb12⟩
              obtain ⟨n2, hn2⟩ : ∃ z, xs2.length = z := ⟨_, rfl⟩
              rw [hn2] at h2c ⊢
              have Hn2 := Lib.hid hn2
              have Hx2 := Lib.hid hx2
              have HV2 := Lib.hid hV2
              have HV12 := Lib.hid (HV11.out.below hb12)
              have hb12B := hb11B.trans (hb12.mono h11B)
              clear hn2 hx2 hV2 hb12 HS11 HV11 hb11B hl3
              go_wp2_with fail
              refine Calls.mono (same12_any A2 (some ⟨b1, off1, none⟩) n2 c2 n1 c1 xs2 xs1 w12 _ _ HV2.out HV12.out Hn2.out Hn1.out h2c h2m h1c h1m true (by rw [Hx1.out, Hx2.out, HL3.out]; simp)) ?_
              rintro e w13 ⟨rfl, nd13, rfl⟩
              go_wp2_with fail
              go_ret
              exact ⟨rfl, Below.dN (hb0.trans (hb12B.mono (Nat.le_of_lt hBw))) nd13⟩
            · obtain ⟨qe, hqe⟩ : ∃ z, (e' == 0) = z := ⟨_, rfl⟩
              have hqb : qe = true → b' = true := fun h => by
                cases hb : b' with
                | true => rfl
                | false => rw [h] at hqe; exact absurd ⟨by simpa using hqe, hb⟩ hdr
              obtain ⟨b1', off1', e1, _, _, pi0, pi1, pi2, pi3⟩ := HV10.out.at_ Hxi.out
              injection e1 with e1
              injection e1 with e1 e2
              subst e1 e2
              have HVi := Lib.hid (HV10.out.2 xi (List.mem_of_getElem? Hxi.out))
              have HVj := Lib.hid (HV10.out.2 xj (List.mem_of_getElem? Hxj.out))
              obtain ⟨Ai, hAi⟩ : ∃ z, xi.adr = z := ⟨_, rfl⟩
              obtain ⟨ci, hci⟩ : ∃ z, xi.cap = z := ⟨_, rfl⟩
              obtain ⟨cj, hcj⟩ : ∃ z, xj.cap = z := ⟨_, rfl⟩
              have hulj : xj.v.cells.length = ul := by rw [Hyv.out, Hcc.out, ← Hxv.out]; exact Hul.out
              rw [Hul.out, hAi, hci] at pi3
              have hlci : ul ≤ ci ∧ ci ≤ 9223372036854775807 := by rw [← Hul.out, ← hci]; exact ⟨HVi.out.le, by have := HVi.out.lim; unfold maxLen at this; omega⟩
              have hlcj : ul ≤ cj ∧ cj ≤ 9223372036854775807 := by rw [← hulj, ← hcj]; exact ⟨HVj.out.le, by have := HVj.out.lim; unfold maxLen at this; omega⟩
              have HAi := Lib.hid hAi
              have Hcj := Lib.hid hcj
              have Hulj := Lib.hid hulj
              obtain ⟨KZ, hKZ⟩ : ∃ CZ, CZ = clZ := ⟨_, rfl⟩
              have HKZ := Lib.hid (fun w : World => show (zeroValue 52).run Try.prog w = .ok (.agg KZ.toArray) w by rw [hKZ]; exact klZero w)
              have HKl := Lib.hid (show KZ.length = 33 by rw [hKZ]; rfl)
              clear hAi hci hcj hulj hKZ pi0 pi1 pi2 hdr HS10
              go_upto_region 21 with fail
              go_cut [119] (fun s wx => s = .bool false ∧ wx = w10)
              case first =>
                cases qe with
                | false =>
                  clear hqb
                  go_wp2_with fail
                  go_meet
                  exact ⟨rfl, rfl⟩
                | true =>
                  have hb := hqb rfl
                  subst hb
                  obtain rfl : e' = 0 := by simpa using hqe
                  clear hqe hqb
                  go_wp2_with fail
                  go_meet
                  exact ⟨rfl, rfl⟩
              case rest =>
                obtain ⟨rfl, rfl⟩ := hcut
                clear hqb hqe
                go_wp2_with fail
                go_loopw [134] (fun i wr => ∃ k : Nat, k ≤ ul ∧ i = .int .i64 k ∧ Below wc.heap.size wc wr) (fun i _ => ul - (Go.RowKit.intOf i).toNat)
                case atStart => exact ⟨0, Nat.zero_le _, rfl, Below.refl _ _⟩
                case round =>
                  obtain ⟨k2, hk2, rfl, hbr2⟩ := hrel
                  by_cases hkl : k2 < ul
                  · have hd4 : decide ((k2 : Int) < (ul : Int)) = true := by simp; omega
                    obtain ⟨cx, hcx⟩ : ∃ z, xi.v.cells[k2]? = some z := ⟨_, List.getElem?_eq_getElem (by rw [Hul.out]; exact hkl)⟩
                    have hcy : xj.v.cells[k2]? = some cx := by rw [Hyv.out, Hcc.out, ← Hxv.out]; exact hcx
                    obtain ⟨cb, coff, hax, hcb, hx32, hrx0⟩ := HVi.out.cell hcx
                    obtain ⟨db, doff, hay, hdb, _, hry0⟩ := HVj.out.cell hcy
                    rw [HAi.out] at hax
                    subst hax
                    obtain ⟨XL, hXL⟩ : ∃ z, z = cellC cx := ⟨_, rfl⟩
                    have hXl : XL.length = 33 := by rw [hXL, cellC_length hx32]
                    have hrX : wr.rangeAt cb (coff + k2 * 33) XL := fun t v hv => by rw [hXL] at hv; exact (World.cell?_of_block (hbr2.block cb hcb)).trans (hrx0 t v hv)
                    have HXi := Lib.hid (show (Try.prog.info? 52).map (·.size) = some XL.length by rw [hXl]; exact clSize)
                    have HXj := Lib.hid (show (Try.prog.info? 52).map (·.size) = some XL.toArray.size by rw [List.size_toArray, hXl]; exact clSize)
                    have HX1 := Lib.hid (show XL.toArray.all (·.oneCell') = true by rw [hXL]; exact all_oneCell_toArray (cellC_one _))
                    have HXz := Lib.hid (show KZ.toArray.size = XL.toArray.size by rw [List.size_toArray, List.size_toArray, HKl.out, hXl])
                    have Hcmp := Lib.hid (fun w => show (Op.equalIn 10000 52 (.agg XL.toArray) (.agg XL.toArray)).run Try.prog w = .ok true w by rw [cl_eqv cx cx hx32 hx32 XL XL hXL hXL w]; simp)
                    obtain ⟨wa, hwa⟩ : ∃ W, W = (wr.alloc (.cells KZ.toArray 52)).setRow wr.heap.size XL.toArray := ⟨_, rfl⟩
                    obtain ⟨hXa, hba⟩ := alloc_row wr 52 KZ.toArray XL
                    rw [← hwa] at hXa hba
                    have hbaw := hbr2.trans (hba.mono hbr2.size)
                    have c3 : wa.cell? ⟨g6, 3, none⟩ = some (.slice (some ⟨db, doff, none⟩) ul cj) := by
                      rw [(HY10.out.up hbaw).cell, HYL.out, ← hay, ← Hcj.out, ← Hulj.out]
                      rfl
                    have hry : wa.rangeAt db (doff + k2 * 33) XL := fun t v hv => by rw [hXL] at hv; exact (World.cell?_of_block (hbaw.block db hdb)).trans (hry0 t v hv)
                    have Hwa := Lib.hid hwa
                    clear hwa hXL hXl hcx hcy hcb hdb hrx0 hry0 hx32 hay hba hbr2
                    go_upto_region 27 with (first
                      | (refine wpList_load_mid rfl _ _ rfl cb (coff + k2 * 33) rfl XL _ hrX Try.underlying52 rfl HXi.out ?_)
                      | (refine wpList_allocZ12 rfl 52 rfl KZ.toArray (HKZ.out _) ?_)
                      | (refine wpList_store_row rfl _ _ _ rfl wr.heap.size XL.toArray rfl rfl 52 KZ.toArray (heap_alloc_new wr _) HXj.out HXz.out HX1.out ?_; rw [← Hwa.out]))
                    clear hrX
                    refine wp_region_held_drew (S := fun w' => Arr w' wr.heap.size 52 XL ∧ w'.cell? ⟨g6, 3, none⟩ = some (.slice (some ⟨db, doff, none⟩) ul cj) ∧ w'.rangeAt db (doff + k2 * 33) XL) (by kernel_rfl) ⟨hXa, c3, hry⟩ (fun hHeld => ?_)
                    refine anyH_take (i := 0) (some 139) rfl rfl (by kernel_rfl) (by kernel_rfl) (by kernel_rfl) (fun _ _ _ h => h) (yieldsIf_load_mid (by rfl) 52 (.tmp 21) rfl wr.heap.size 0 rfl XL _ (fun w' h => h.1.range) Try.underlying52 rfl HXi.out) (by assumption) ?_
                    simp only [Act.put, List.setIfInBounds_toArray, List.set_cons_zero, List.set_cons_succ]
                    refine anyH_take (i := 1) (v := .pointer (some ⟨g6, 3, none⟩)) (some 140) rfl rfl (by kernel_rfl) (by kernel_rfl) (by kernel_rfl) (fun _ _ _ h => h) (Or.inl ⟨by rfl, fun w' hw => by (go_simp)⟩) (by assumption) ?_
                    simp only [Act.put, List.setIfInBounds_toArray, List.set_cons_zero, List.set_cons_succ]
                    refine anyH_take (i := 2) (v := .slice (some ⟨db, doff, none⟩) ul cj) (some 141) rfl rfl (by kernel_rfl) (by kernel_rfl) (by kernel_rfl) (fun _ _ _ h => h) (Or.inl ⟨by rfl, fun w' hw => by (have hcc := hw.2.1; go_simp)⟩) (by assumption) ?_
                    simp only [Act.put, List.setIfInBounds_toArray, List.set_cons_zero, List.set_cons_succ]
                    refine anyH_take (i := 3) (v := .int .i64 (k2 : Nat)) (some 142) rfl rfl (by kernel_rfl) (by kernel_rfl) (by kernel_rfl) (fun _ _ _ h => h) (Or.inl ⟨by rfl, fun w' hw => by rfl⟩) (by assumption) ?_
                    simp only [Act.put, List.setIfInBounds_toArray, List.set_cons_zero, List.set_cons_succ]
                    refine anyH_take (i := 4) (v := .pointer (some ⟨db, doff + k2 * 33, none⟩)) (some 143) rfl rfl (by kernel_rfl) (by kernel_rfl) (by kernel_rfl) (fun _ _ _ h => h) (Or.inl ⟨by rfl, fun w' hw => by (go_simp; try (intro h; omega))⟩) (by assumption) ?_
                    simp only [Act.put, List.setIfInBounds_toArray, List.set_cons_zero, List.set_cons_succ]
                    refine anyH_take (i := 5) (some 144) rfl rfl (by kernel_rfl) (by kernel_rfl) (by kernel_rfl) (fun _ _ _ h => h) (yieldsIf_load_mid (by rfl) 52 (.tmp 143) rfl db (doff + k2 * 33) rfl XL _ (fun w' h => h.2.2) Try.underlying52 rfl HXi.out) (by assumption) ?_
                    simp only [Act.put, List.setIfInBounds_toArray, List.set_cons_zero, List.set_cons_succ]
                    refine anyH_take (i := 6) (v := .bool false) (some 145) rfl rfl (by kernel_rfl) (by kernel_rfl) (by kernel_rfl) (fun _ _ _ h => h) (Or.inl ⟨by rfl, fun w' hw => by (have hc := Hcmp.out; have hg := gtCl; go_simp)⟩) (by assumption) ?_
                    simp only [Act.put, List.setIfInBounds_toArray, List.set_cons_zero, List.set_cons_succ]
                    refine wpAnyH_done (by kernel_rfl) ?_ _
                    clear hHeld c3 hry hXa
                    go_wp2_with fail
                    go_roundw
                    case rel => exact ⟨k2 + 1, by omega, by go_num, Below.dN hbaw _⟩
                    case measure => simp [Go.RowKit.intOf]; omega
                  · obtain rfl : k2 = ul := by omega
                    have hd4 : decide (k2 < k2) = false := by simp
                    have hbe := hb0.trans ((hb10B.trans (hbr2.mono h10B)).mono (Nat.le_of_lt hBw))
                    clear hbr2
                    go_wp2_with fail
                    go_ret
                    exact ⟨rfl, hbe⟩
        · have q1 : (k' != 0) = true := by simpa using hk0
          have hLL : L' = L := (copyL_ok HRL.out Hk.out).err hk0
          obtain ⟨xs0, e0, n0, c0, m0, V0, _⟩ := hV4
          have He0 := Lib.hid e0
          have Hn0 := Lib.hid n0
          have HLL := Lib.hid hLL
          have HV0 := Lib.hid V0
          clear hk0 hLL e0 n0 V0
          go_wp2_with fail
          refine Calls.mono (all_any s w4 _ _ HS4.out Hl4.out) ?_
          rintro e w5 ⟨A1, c1, xs1, rfl, h1c, h1m, hV1, hx1, hb5⟩
          have hb5B : Below B W1 w5 := hb4B.trans (hb5.mono h4B)
          have HV5 := Lib.hid ((HV0.out.keep hb5.size (fun b _ hlt => hb5.block b hlt) (G' := G) (fun _ _ h => h)))
          obtain ⟨n1, hn1⟩ : ∃ z, xs1.length = z := ⟨_, rfl⟩
          rw [hn1] at h1c ⊢
          have Hn1 := Lib.hid hn1
          have Hx1 := Lib.hid hx1
          have HV1 := Lib.hid hV1
          clear hn1 hx1 hV1 hb5 HV0 HS4 hb4B
          go_wp2_with fail
          refine Calls.mono (same12_any A1 A' n1 c1 n' c' xs1 xs0 w5 _ G HV1.out HV5.out Hn1.out Hn0.out h1c h1m c0 m0 true (by rw [He0.out, Hx1.out, HLL.out]; exact ⟨fun _ => rfl, fun _ => rfl⟩)) ?_
          rintro e w6 ⟨rfl, nd6, rfl⟩
          go_wp2_with fail
          go_ret
          exact ⟨rfl, Below.dN (hb0.trans (hb5B.mono (Nat.le_of_lt hBw))) nd6⟩

end Go.Proofs.Ytmfamhdjkladoaa

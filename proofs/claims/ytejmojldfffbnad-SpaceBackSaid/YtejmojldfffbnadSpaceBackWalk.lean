/-
  The walk of SpaceBack.
-/
import Derived.Test.YtejmojldfffbnadBackMath
import Derived.Test.YtejmojldfffbnadIntsArg
import Derived.StillTailTactics
namespace Go.Proofs.Ytejmojldfffbnad
open Go.RowKit
set_option linter.unusedVariables false

theorem addr_flat (b off k : Nat) : (⟨b, off, none⟩ : Addr).add k = ⟨b, off + k, none⟩ := by unfold Addr.add; split <;> simp_all
theorem extInfo : (Try.prog.info? 34).map (fun i => (i.zero, i.size, i.bytes)) = some (some (.agg #[.int .i64 0, .int .i64 0]), 2, 16) := by kernel_rfl

set_option maxHeartbeats 8000000 in
set_option maxRecDepth 100000 in
theorem spaceBack_bad (s f : Int) (A1 : Option Addr) (len1 cap1 : Nat) (A2 : Option Addr) (len2 cap2 : Nat) (hc1 : len1 ≤ cap1) (hm1 : cap1 ≤ 9223372036854775807) (hc2 : len2 ≤ cap2) (hm2 : cap2 ≤ 9223372036854775807) (w : World) (hbad : s < 1 ∨ 300 < s ∨ f < 0 ∨ s < f ∨ 40 < len1 ∨ 60 < len2) :
    Calls Try.prog 4 #[.int .i64 s, .int .i64 f, .slice A1 len1 cap1, .slice A2 len2 cap2] w fun e w' => e = .returned (.bool true) ∧ Below w.heap.size w w' := by
  have hd : decide (s < 1) = true ∨ (decide (s < 1) = false ∧ decide (300 < s) = true) ∨ (decide (s < 1) = false ∧ decide (300 < s) = false ∧ decide (f < 0) = true) ∨ (decide (s < 1) = false ∧ decide (300 < s) = false ∧ decide (f < 0) = false ∧ decide (s < f) = true) ∨
      (decide (s < 1) = false ∧ decide (300 < s) = false ∧ decide (f < 0) = false ∧ decide (s < f) = false ∧ decide ((40 : Int) < (len1 : Int)) = true) ∨ (decide (s < 1) = false ∧ decide (300 < s) = false ∧ decide (f < 0) = false ∧ decide (s < f) = false ∧ decide ((40 : Int) < (len1 : Int)) = false ∧ decide ((60 : Int) < (len2 : Int)) = true) := by
    simp only [decide_eq_true_eq, decide_eq_false_iff_not]
    omega
  clear hbad
  rcases hd with h1 | ⟨h1, h2⟩ | ⟨h1, h2, h3⟩ | ⟨h1, h2, h3, h4⟩ | ⟨h1, h2, h3, h4, h5⟩ | ⟨h1, h2, h3, h4, h5, h6⟩
  all_goals
    go_enter Try.func4, Try.ntmps4
    go_wp2_with fail
    refine Calls.mono (spaceSpeaks_true w) ?_
    rintro e w1 ⟨rfl, hb⟩
    go_wp2_with fail
    go_ret
    exact ⟨rfl, hb⟩

set_option maxHeartbeats 40000000 in
set_option maxRecDepth 100000 in
theorem spaceBack_good (s f : Nat) (A1 : Option Addr) (len1 cap1 : Nat) (zs1 : List Int) (hl1 : zs1.length = len1) (hc1 : len1 ≤ cap1) (hm1 : cap1 ≤ 9223372036854775807) (A2 : Option Addr) (len2 cap2 : Nat) (zs2 : List Int) (hl2 : zs2.length = len2) (hc2 : len2 ≤ cap2) (hm2 : cap2 ≤ 9223372036854775807)
    (w : World) (hz1 : IntsAt w w.heap.size A1 zs1) (hz2 : IntsAt w w.heap.size A2 zs2) (hs1 : 1 ≤ s) (hs2 : s ≤ 300) (hfs : f ≤ s) (h40 : len1 ≤ 40) (h60 : len2 ≤ 60) :
    Calls Try.prog 4 #[.int .i64 (s : Nat), .int .i64 (f : Nat), .slice A1 len1 cap1, .slice A2 len2 cap2] w fun e w' => e = .returned (.bool true) ∧ Below w.heap.size w w' := by
  obtain ⟨i0, hi, hi0, hi1, hi2⟩ := info_parts extInfo
  have h1 : decide ((s : Int) < 1) = false := by simp; omega
  have h2 : decide ((300 : Int) < (s : Int)) = false := by simp; omega
  have h3 : decide ((f : Int) < 0) = false := by simp
  have h4 : decide ((s : Int) < (f : Int)) = false := by simp; omega
  have h5 : decide ((40 : Int) < (len1 : Int)) = false := by simp; omega
  have h6 : decide ((60 : Int) < (len2 : Int)) = false := by simp; omega
  have Hl1 := Lib.hid hl1
  have Hl2 := Lib.hid hl2
  have Hi := Lib.hid hi
  have Hi0 := Lib.hid hi0
  have Hi1 := Lib.hid hi1
  have Hi2 := Lib.hid hi2
  clear hl1 hl2 hi hi0 hi1 hi2
  go_enter Try.func4, Try.ntmps4
  go_wp2_with fail
  refine Calls.mono (spaceSpeaks_true w) ?_
  rintro e w1 ⟨rfl, hb1⟩
  go_wp2_with fail
  refine Calls.mono (new_first s f w1 hs1 (by omega) hfs) ?_
  rintro e w2 ⟨p, g, m, rfl, hp, hg, hS, hF, hb2⟩
  have hb := hb1.trans (hb2.mono hb1.size)
  have Hz1 := Lib.hid (hz1.below hb (Nat.le_refl _))
  have Hz2 := Lib.hid (hz2.below hb (Nat.le_refl _))
  have hpw : w.heap.size ≤ p := Nat.le_trans hb1.size hp
  have hgw : w.heap.size ≤ g := Nat.le_trans hb1.size hg
  have hp2 := hS.hp.lt
  have hg2 := hS.hg.lt
  clear hz1 hz2 hb1 hb2 hp hg
  go_wp2_with fail
  clear h1 h2 h3 h4 h5 h6
  obtain ⟨B, hB⟩ : ∃ B, B = w2.heap.size := ⟨_, rfl⟩
  have hbB := hb.size
  have HB := Lib.hid hB
  have hX0 : Exts (w2.alloc (.cells #[] 34)) w2.heap.size 34 (.slice (some ⟨w2.heap.size, 0, none⟩) 0 0) [] :=
    Exts.of_row (cur := []) (Nat.le_refl _) (heap_alloc_new w2 _) rfl (Nat.le_refl _) (by unfold maxLen; omega) rfl rfl
  have hS0 : SpT (w2.alloc (.cells #[] 34)) p g (firstF s f) (freeF (firstF s f)) m s [] := hS.up ((Below.refl _ w2).alloc (Nat.le_refl _) _)
  have hb0 : Below w.heap.size w (w2.alloc (.cells #[] 34)) := hb.alloc hb.size _
  have hz0 : w2.heap.size ≤ (w2.alloc (.cells #[] 34)).heap.size := by simp
  rw [← hB] at hX0 hp2 hg2 hbB hz0 ⊢
  clear hB
  obtain ⟨wA, hwA⟩ : ∃ wA, wA = w2.alloc (.cells #[] 34) := ⟨_, rfl⟩
  rw [← hwA] at hX0 hS0 hb0 hz0 ⊢
  clear hwA hS
  go_loopw [11, 66] (fun v i wr => ∃ (k m : Nat) (L : List Bool) (E : List (Nat × Nat)), k ≤ len1 ∧ i = .int .i64 k ∧ SpT wr p g L (freeF L) m s [] ∧ Full L m ∧ Held s f L E ∧ Exts wr B 34 v E ∧ E.length ≤ k ∧ Below w.heap.size w wr ∧ B ≤ wr.heap.size) (fun _ i _ => len1 - (intOf i).toNat)
  case atStart => exact ⟨0, m, firstF s f, [], Nat.zero_le _, rfl, hS0, hF, Held.start hfs, hX0, Nat.le_refl _, hb0, hz0⟩
  case round =>
    clear hX0 hS0 hb0 hz0 hF
    obtain ⟨k, m, L, E, hk, rfl, hS, hF, hH, hX, hEk, hbr, hBr⟩ := hrel
    obtain ⟨A, cap, rfl, hEc, hcm⟩ := hX.some
    unfold maxLen at hcm
    obtain ⟨n, hn⟩ : ∃ n, E.length = n := ⟨_, rfl⟩
    rw [hn] at hEk hEc ⊢
    rw [hn] at hX
    have Hn := Lib.hid hn
    clear hn
    by_cases hlt : k < len1
    · obtain ⟨b, off, z, hA, hbB', hcell, hzk, hz1, hz2'⟩ := Hz1.out.at_ (k := k) (by rw [Hl1.out]; exact hlt)
      subst hA
      have hck : wr.cell? ⟨b, off + k, none⟩ = some (.int .i64 z) := by
        rw [World.cell?_of_block ((hbr.block b hbB').trans (hb.block b hbB').symm)]; exact hcell
      have Hzk := Lib.hid hzk
      obtain ⟨v, hv, hveq⟩ := and_mask z 15 (by omega)
      obtain ⟨q, hq⟩ : ∃ q : Nat, v + 1 = q := ⟨_, rfl⟩
      have hqI : (v : Int) + 1 = (q : Int) := by omega
      have hveq' : bits .and .i64 z 15 = (v : Int) := hveq
      have hq1 : 1 ≤ q := by omega
      have hq2 : q ≤ 16 := by omega
      clear hq hveq hzk hcell
      have HH := Lib.hid hH
      clear hH
      go_wp2_with fail
      clear hck hqI hveq'
      rcases hR : roomF L q with _ | a
      · have HR := Lib.hid hR
        clear hR
        refine Calls.mono (take_no p g q _ m s [] wr hS hF hq1 (by omega) HR.out) ?_
        rintro e w3 ⟨rfl, nd, rfl⟩
        go_wp2_with fail
        go_roundw
        case rel => exact ⟨k + 1, m, L, E, by omega, by go_num, hS.drewN nd, hF, HH.out, hX, by rw [Hn.out]; omega, Below.dN hbr nd, hBr⟩
        case measure => simp [intOf]; omega
      · have HR := Lib.hid hR
        clear hR
        refine Calls.mono (take_yes p g q a _ m s [] wr hS hF hq1 (by omega) HR.out) ?_
        rintro e w3 ⟨rfl, m3, hS3, hF3, hO3⟩
        have hb3 := hbr.trans (hO3.below hbr.size (by rintro i (rfl | rfl) <;> assumption))
        have hB3 : B ≤ w3.heap.size := Nat.le_trans hBr hO3.size
        have hX3 := hX.only (E := E) hO3 (by rintro k hk (rfl | rfl) <;> omega)
        clear hX hS hF hbr hO3
        obtain ⟨ha1, ha2, hap⟩ := HH.out.away hq1 HR.out
        have Hap := Lib.hid hap
        clear hap
        go_wp2_with fail
        obtain ⟨wq, rfl⟩ : ∃ wo : World, wo = wr := ⟨_, rfl⟩
        go_loopw [83] (fun x wr' => ∃ j : Nat, j ≤ n ∧ x = .int .i64 j ∧ Below w3.heap.size w3 wr') (fun x _ => n - (intOf x).toNat)
        case atStart => exact ⟨0, Nat.zero_le _, rfl, Below.refl _ _⟩
        case round =>
          obtain ⟨j, hj, rfl, hbi⟩ := hrel
          by_cases hjn : j < n
          · have hjE : j < E.length := by rw [Hn.out]; exact hjn
            obtain ⟨ge, cap', cur, hve, hBg, hcur, _, _, hcl, htk⟩ := hX3.row (by omega)
            injection hve with hA hnn hcc
            subst hA
            subst hcc
            obtain ⟨x1, x2, hx, hc1, hc2, hxf, hxa⟩ : ∃ x1 x2 : Nat, Hid (E[j] = (x1, x2)) ∧ wr.cell? ⟨ge, j * 2, none⟩ = some (.int .i64 (x1 : Nat)) ∧ wr.cell? ⟨ge, j * 2 + 1, none⟩ = some (.int .i64 (x2 : Nat)) ∧ x1 + x2 ≤ s ∧ (x1 + x2 ≤ a ∨ a + q ≤ x1) := by
              have hc := ext_cells (Arr.below hcur hbi (Arr.lt hcur)) htk hjE
              exact ⟨_, _, rfl, hc.1, hc.2, (HH.out.fit _ (List.getElem_mem hjE)).2.1, Hap.out _ (List.getElem_mem hjE)⟩
            clear htk hcl hnn hcur
            go_wp2_with fail
            all_goals
              go_roundw
              case rel => exact ⟨j + 1, by omega, by go_num, hbi.alloc hbi.size _⟩
              case measure => simp [intOf]; omega
          · have hXr : ∀ o : Obj, (wr.alloc o).ownsRow B 34 2 (.slice A n cap) n (extC E) := fun o => by
              have h := (hX3.only (R := fun _ => False) (Only.of_below hbi) (fun _ _ h => h)).only (R := fun _ => False) ((Only.refl _ wr).alloc o) (fun _ _ h => h)
              unfold Exts at h
              rwa [Hn.out] at h
            have hbr3 := hb3.trans (hbi.mono hb3.size)
            have hSr := hS3.up hbi
            have hBr3 : B ≤ wr.heap.size := Nat.le_trans hB3 hbi.size
            have Hrow := Lib.hid (fun i hi => (World.ownsRow.lt (hXr (.cells #[] 3)) i hi).1)
            have HX := Lib.hid hXr
            have Hwz := Lib.hid (heap_alloc_new wr)
            clear hXr hX3 hS3 hb3
            go_wp2_with (at_builtin; refine wpList_append_own_at _ rfl _ _ 32 rfl B 34 i0 (.agg #[.int .i64 0, .int .i64 0]) 2 16 Try.underlying32 Hi.out Hi0.out Hi1.out Hi2.out rfl (by decide) _ n (extC E) rfl (HX.out _) ⟨wr.heap.size, 0, none⟩ 1 1 (extC [(a, q)]) rfl rfl ?c1 (extC_one _) ?c3 ?c4 ?c5 ?_)
            case c1 =>
              intro i u hu
              rw [addr_flat, Nat.zero_add]
              exact (Arr.cell (Arr.new wr 34 (extC [(a, q)])) i).trans hu
            case c3 => unfold maxLen; omega
            case c4 => omega
            case c5 => simp; omega
            intro v' w4 hown4 hgrow _ _
            have hOg : Only (fun i => (Value.slice A n cap).ownBlock = some i) (wr.alloc (.cells #[.int .i64 (a : Nat), .int .i64 (q : Nat)] 34)) w4 := ⟨hgrow.os, hgrow.tape, hgrow.output, hgrow.size, fun i hi hn => hgrow.block i hi fun e => hn e.symm⟩
            have hS4 : SpT w4 p g (setF a true q L) (freeF (setF a true q L)) m3 s [] := (hSr.up ((Below.refl _ wr).alloc (Nat.le_refl _) _)).only hOg (fun e => by have := Hrow.out p e; omega) (fun e => by have := Hrow.out g e; omega)
            have hb4 : Below w.heap.size w w4 := (hbr3.alloc hbr3.size _).trans (hOg.below (by have := hbr3.size; simp; omega) (fun i hi => by have := Hrow.out i hi; omega))
            have hB4 : B ≤ w4.heap.size := by have := hOg.size; simp at this; omega
            have hX4 : Exts w4 B 34 v' (E ++ [(a, q)]) := by
              unfold Exts
              rw [extC_append, List.length_append, Hn.out]
              exact hown4
            have HH4 := HH.out.take hq1 HR.out
            have HH4 := Lib.hid HH4
            clear hown4 hgrow hOg hSr hbr3
            go_wp2_with fail
            go_roundw
            case rel => exact ⟨k + 1, m3, setF a true q L, E ++ [(a, q)], by omega, by go_num, hS4, hF3, HH4.out, hX4, by rw [List.length_append, Hn.out]; simp; omega, hb4, hB4⟩
            case measure => simp [intOf]; omega
    · have hn40 : n ≤ 40 := by omega
      go_wp2_with fail
      obtain ⟨wq, rfl⟩ : ∃ wo : World, wo = wr := ⟨_, rfl⟩
      go_loopw [11, 112] (fun v i wr => ∃ (k m : Nat) (L : List Bool) (E : List (Nat × Nat)), k ≤ len2 ∧ i = .int .i64 k ∧ SpT wr p g L (freeF L) m s [] ∧ Full L m ∧ Held s f L E ∧ Exts wr B 34 v E ∧ E.length ≤ 40 ∧ Below w.heap.size w wr ∧ B ≤ wr.heap.size) (fun _ i _ => len2 - (intOf i).toNat)
      case atStart => exact ⟨0, m, L, E, Nat.zero_le _, rfl, hS, hF, hH, hX, by rw [Hn.out]; exact hn40, hbr, hBr⟩
      case round =>
        clear hX hS hbr hBr hF hH Hn hEk hEc hcm hn40
        obtain ⟨k2, m, L, E, hk2, rfl, hS, hF, hH, hX, hE40, hbr, hBr⟩ := hrel
        obtain ⟨A, cap, rfl, hEc, hcm⟩ := hX.some
        unfold maxLen at hcm
        obtain ⟨n, hn⟩ : ∃ n, E.length = n := ⟨_, rfl⟩
        rw [hn] at hE40 hEc ⊢
        rw [hn] at hX
        have Hn := Lib.hid hn
        clear hn
        have HH := Lib.hid hH
        clear hH
        by_cases hgo : k2 < len2 ∧ 0 < n
        · obtain ⟨hlt2, hn0⟩ := hgo
          obtain ⟨b, off, z, hA, hbB', hcell, hzk, hz1, hz2'⟩ := Hz2.out.at_ (k := k2) (by rw [Hl2.out]; exact hlt2)
          subst hA
          have hck : wr.cell? ⟨b, off + k2, none⟩ = some (.int .i64 z) := by
            rw [World.cell?_of_block ((hbr.block b hbB').trans (hb.block b hbB').symm)]; exact hcell
          obtain ⟨v, hv, hveq⟩ := and_mask z 65535 (by omega)
          have hveq' : bits .and .i64 z 65535 = (v : Int) := hveq
          obtain ⟨t, ht⟩ : ∃ t : Nat, v % n = t := ⟨_, rfl⟩
          have htn : t < n := by rw [← ht]; exact Nat.mod_lt _ hn0
          have htI : (v : Int) % (n : Int) = (t : Int) := by rw [← ht]; omega
          have hne : ((n : Int) == 0) = false := by rw [beq_eq_false_iff_ne]; omega
          clear hveq hzk hcell ht
          have htE : t < E.length := by rw [Hn.out]; exact htn
          obtain ⟨ge, cap', cur, hve, hBg, hcur, _, _, hcl, htk⟩ := hX.row (by omega)
          injection hve with hA hnn hcc
          subst hA
          subst hcc
          have Hcl := Lib.hid hcl
          have Htk := Lib.hid htk
          obtain ⟨x1, x2, hx, hc1, hc2, hxf⟩ : ∃ x1 x2 : Nat, Hid (E[t] = (x1, x2)) ∧ wr.cell? ⟨ge, t * 2, none⟩ = some (.int .i64 (x1 : Nat)) ∧ wr.cell? ⟨ge, t * 2 + 1, none⟩ = some (.int .i64 (x2 : Nat)) ∧ x1 + x2 ≤ s := by
            have hc := ext_cells hcur htk htE
            exact ⟨_, _, rfl, hc.1, hc.2, (HH.out.fit _ (List.getElem_mem htE)).2.1⟩
          have Hcur := Lib.hid hcur
          clear hcl htk hnn hcur
          go_wp2_with fail
          go_still_tail 11, (by kernel_rfl)
          go_wp2_with fail
          have hLs := HH.out.len
          refine Calls.mono (release_yes p g x1 x2 L m s [] wr.drew (hS.drewN 1) hF (by omega)) ?_
          rintro e w5 ⟨rfl, m5, hS5, hF5, hO5⟩
          have hO6 : Only (fun i => i = p ∨ i = g) wr w5 := ((Only.refl _ wr).drewN 1).trans hO5
          have hb5 := hbr.trans (hO6.below hbr.size (by rintro i (rfl | rfl) <;> assumption))
          have hB5 : B ≤ w5.heap.size := Nat.le_trans hBr hO6.size
          have hcur5 : Arr w5 ge 34 cur := Arr.only Hcur.out hO6 (by rintro (rfl | rfl) <;> omega)
          have Hcur5 := Lib.hid hcur5
          clear hS hF hbr hO5 hcur5 hck hc1 hc2 hLs hveq' htI hne
          have ht1 : (t : Int) + 1 ≤ 41 := by omega
          go_wp2_with fail
          obtain ⟨r, hr⟩ : ∃ r : Nat, t + 1 = r := ⟨_, rfl⟩
          have htc : t ≤ cap := by omega
          have htc1 : r ≤ n := by omega
          have htc2 : r ≤ cap := by omega
          obtain ⟨o, hif, hnews⟩ : ∃ o, (if cap = r then (some ⟨ge, 0, none⟩ : Option Addr) else some ⟨ge, r * 2, none⟩) = some ⟨ge, o, none⟩ ∧ ∀ j u, (extC (E.drop r))[j]? = some u → w5.cell? ((⟨ge, o, none⟩ : Addr).add j) = some u := by
            by_cases hct : cap = r
            · refine ⟨0, by rw [if_pos hct], fun j u hj => ?_⟩
              rw [List.drop_of_length_le (by rw [Hn.out]; omega)] at hj
              cases hj
            · refine ⟨r * 2, by rw [if_neg hct], fun j u hj => ?_⟩
              rw [addr_flat, Arr.cell Hcur5.out]
              rw [extC_drop, ← Htk.out, List.getElem?_drop] at hj
              have hlt : r * 2 + j < n * 2 := by
                have h := (List.getElem?_eq_some_iff.1 hj).1
                rw [List.length_take, Hn.out] at h
                omega
              rw [List.getElem?_take_of_lt (by rw [Hn.out]; omega)] at hj
              exact hj
          have hnl : (extC (E.drop r)).length = (n - r) * 2 := by rw [extC_length, List.length_drop, Hn.out]
          have Hnl := Lib.hid hnl
          have Hnews := Lib.hid (show ∀ j u, (extC (E.drop r))[j]? = some u → w5.drew.cell? ((⟨ge, o, none⟩ : Addr).add j) = some u from hnews)
          have Hsp := Lib.hid (show ∀ j, j < (extC (E.drop r)).length → (w5.drew.cell? ⟨ge, 0 + t * 2 + j, none⟩).isSome = true ∧ w5.drew.frozen? ⟨ge, 0 + t * 2 + j, none⟩ = false from fun j hj => by
            rw [hnl] at hj
            have h1 := Arr.cell (Arr.drewN Hcur5.out 1) (0 + t * 2 + j)
            have h2 := Arr.frozen (Arr.drewN Hcur5.out 1) (0 + t * 2 + j)
            refine ⟨?_, h2⟩
            show (World.cell? (w5.drewN 1) _).isSome = true
            rw [h1, List.getElem?_eq_getElem (by rw [Hcl.out]; omega)]
            rfl)
          clear hnl hnews
          have hwr : IntKind.i64.wrap ((t : Int) + 1) = (r : Int) := by rw [IntWalk.i64_in _ (by omega)]; omega
          have Hr := Lib.hid hr
          clear hr ht1
          go_region_law (refine step_append_room rfl (.tmp 138) (.tmp 142) 32 rfl 34 i0 2 Try.underlying32 Hi.out Hi1.out ge 0 t cap (by simp [Act.eval, Act.put]) ⟨ge, o, none⟩ (n - r) (cap - r) (extC (E.drop r)) (by simp [Act.eval, Act.put]) Hnl.out Hnews.out (extC_one _) (by have := Hr.out; omega) Hsp.out ?_)
          have hX6 := Exts.cut hBg (Arr.drewN Hcur5.out 1) Hn.out Hr.out htc1 hEc (by unfold maxLen; omega) Hcl.out Htk.out
          have hO6 : Only (fun i => i = ge) w5 (w5.drew.setCells ge (0 + t * 2) (extC (E.drop r))) := Only.setMid (R := fun i => i = ge) rfl (extC (E.drop r)) (0 + t * 2) w5.drew ((Only.refl _ w5).drewN 1)
          have hS6 := hS5.only hO6 (by omega) (by omega)
          have hb6 := hb5.trans (hO6.below hb5.size (by rintro i rfl; omega))
          have hB6 := Nat.le_trans hB5 hO6.size
          have hH6 := HH.out.erase htE
          rw [hx.out, Hr.out] at hH6
          have HH6 := Lib.hid hH6
          have hl6 : (E.take t ++ E.drop r).length ≤ 40 := by rw [List.length_append, List.length_take, List.length_drop, Hn.out]; have := Hr.out; omega
          have Hl6 := Lib.hid hl6
          rw [Nat.zero_add] at hX6 hS6 hb6 hB6
          clear hO6 hH6 hl6 hS5 hb5 hB5 hif hwr
          go_wp2_with fail
          go_roundw
          case rel => exact ⟨k2 + 1, m5, _, _, by omega, by go_num, hS6, hF5, HH6.out, hX6, Hl6.out, hb6, hB6⟩
          case measure => simp [intOf]; omega
        · have hcase : (k2 < len2 ∧ ((n : Int) == 0) = true) ∨ k2 = len2 := by
            by_cases e : k2 = len2
            · exact .inr e
            · exact .inl ⟨by omega, by rw [beq_iff_eq]; omega⟩
          have hck : k2 < len2 → ∃ b off z, A2 = some ⟨b, off, none⟩ ∧ wr.cell? ⟨b, off + k2, none⟩ = some (.int .i64 z) ∧ -9223372036854775808 ≤ z ∧ z ≤ 9223372036854775807 := fun hlt2 => by
            obtain ⟨b, off, z, hA, hbB', hcell, hzk, hz1, hz2'⟩ := Hz2.out.at_ (k := k2) (by rw [Hl2.out]; exact hlt2)
            exact ⟨b, off, z, hA, by rw [World.cell?_of_block ((hbr.block b hbB').trans (hb.block b hbB').symm)]; exact hcell, hz1, hz2'⟩
          clear hgo
          have hE0 := List.drop_zero (l := E)
          have hH0 : Held s f L (E.drop 0) := HH.out
          rcases hcase with ⟨hlt2, hne⟩ | rfl
          · obtain ⟨b, off, z, hA, hcell, hz1, hz2'⟩ := hck hlt2
            subst hA
            clear hck hE0
            have HH0 := Lib.hid hH0
            clear hH0
            go_wp2_with fail
            obtain ⟨wq, rfl⟩ : ∃ wo : World, wo = wr := ⟨_, rfl⟩
            go_loopw [147] (fun i wr => ∃ (j m : Nat) (L : List Bool), j ≤ n ∧ i = .int .i64 j ∧ SpT wr p g L (freeF L) m s [] ∧ Full L m ∧ Held s f L (E.drop j) ∧ Exts wr B 34 (.slice A n cap) E ∧ Below w.heap.size w wr ∧ B ≤ wr.heap.size) (fun i _ => n - (intOf i).toNat)
            case atStart => exact ⟨0, m, L, Nat.zero_le _, rfl, hS, hF, HH0.out, hX, hbr, hBr⟩
            case round =>
              clear hS hF HH0 HH hX hbr hBr
              obtain ⟨j, m, L, hj, rfl, hS, hF, hH, hX, hbr, hBr⟩ := hrel
              have HH := Lib.hid hH
              clear hH
              by_cases hjn : j < n
              · have hjE : j < E.length := by rw [Hn.out]; exact hjn
                obtain ⟨ge, cap', cur, hve, hBg, hcur, _, _, hcl, htk⟩ := hX.row (by omega)
                injection hve with hA hnn hcc
                subst hA
                subst hcc
                obtain ⟨x1, x2, hx, hc1, hc2, hxf⟩ : ∃ x1 x2 : Nat, Hid (E[j] = (x1, x2)) ∧ wr.cell? ⟨ge, j * 2, none⟩ = some (.int .i64 (x1 : Nat)) ∧ wr.cell? ⟨ge, j * 2 + 1, none⟩ = some (.int .i64 (x2 : Nat)) ∧ x1 + x2 ≤ s := by
                  have hc := ext_cells hcur htk hjE
                  exact ⟨_, _, rfl, hc.1, hc.2, (HH.out.fit _ (by rw [List.drop_eq_getElem_cons hjE]; exact List.mem_cons_self)).2.1⟩
                have hLs := HH.out.len
                have hup : Below wr.heap.size wr (wr.alloc (.cells #[.int .i64 (x1 : Nat), .int .i64 (x2 : Nat)] 34)) := (Below.refl _ wr).alloc (Nat.le_refl _) _
                have hS1 := hS.up hup
                have hX1 := hX.only (R := fun _ => False) (Only.of_below hup) (fun _ _ h => h)
                have hb1 := hbr.trans (hup.mono hbr.size)
                have hB1 := Nat.le_trans hBr hup.size
                have HB1 := Lib.hid hB1
                clear htk hcl hnn hcur hS hX hbr hBr hup hB1
                go_wp2_with fail
                refine Calls.mono (release_yes p g x1 x2 L m s [] _ hS1 hF (by omega)) ?_
                rintro e w5 ⟨rfl, m5, hS5, hF5, hO5⟩
                have hb5 := hb1.trans (hO5.below hb1.size (by rintro i (rfl | rfl) <;> assumption))
                have hB5 := Nat.le_trans HB1.out hO5.size
                have hX5 := hX1.only hO5 (by rintro i hi (rfl | rfl) <;> omega)
                have hH5 := Held.behind hjE HH.out
                rw [hx.out] at hH5
                have HH5 := Lib.hid hH5
                clear hO5 hX1 hb1 hS1 hF hH5 hc1 hc2 HB1 hLs
                go_wp2_with fail
                go_roundw
                case rel => exact ⟨j + 1, m5, _, by omega, by go_num, hS5, hF5, HH5.out, hX5, hb5, hB5⟩
                case measure => simp [intOf]; omega
              · have hHl := HH.out
                rw [List.drop_of_length_le (by rw [Hn.out]; omega)] at hHl
                have hLf := hHl.last
                subst hLf
                have hfree := firstF_free (n := s) (k := f) hfs
                obtain ⟨f', hf'⟩ : ∃ f' : Nat, s - f = f' := ⟨_, rfl⟩
                have hfI : (s : Int) - (f : Int) = (f' : Int) := by omega
                rw [hf'] at hfree
                rw [hfree] at hS
                clear hf' hfree hHl HH hX hBr hF
                go_wp2_with fail
                obtain ⟨wq, rfl⟩ : ∃ wo : World, wo = wr := ⟨_, rfl⟩
                go_loop [23] (fun i => ∃ j : Nat, j ≤ s ∧ i = .int .i64 j) (fun i => s - (intOf i).toNat)
                case atStart => exact ⟨0, Nat.zero_le _, rfl⟩
                case round =>
                  obtain ⟨j, hj, rfl⟩ := hrel
                  by_cases hjs : j < s
                  · have hbit := firstF_get (n := s) (k := f) false hjs
                    have Hbit := Lib.hid hbit
                    have hdj : decide ((j : Int) < (f : Int)) = decide (j < f) := by congr 1; simp
                    clear hbit
                    by_cases hjf : j < f
                    · have hd : decide ((j : Int) < (f : Int)) = true := by simp; omega
                      have hbt : (firstF s f).getD j false = true := by rw [Hbit.out]; simp [hjf]
                      have Hbt := Lib.hid hbt
                      clear hdj hbt
                      go_wp2_with fail
                      refine Calls.mono (taken_in p g j _ _ _ s [] wq hS (by rw [firstF_length]; exact hjs)) ?_
                      rintro e w6 ⟨rfl, rfl⟩
                      rw [Hbt.out]
                      go_wp2_with fail
                      go_round
                      case rel => exact ⟨j + 1, by omega, by go_num⟩
                      case measure => simp [intOf]; omega
                    · have hd : decide ((j : Int) < (f : Int)) = false := by simp; omega
                      have hbt : (firstF s f).getD j false = false := by rw [Hbit.out]; simp [hjf]
                      have Hbt := Lib.hid hbt
                      clear hdj hbt
                      go_wp2_with fail
                      refine Calls.mono (taken_in p g j _ _ _ s [] wq hS (by rw [firstF_length]; exact hjs)) ?_
                      rintro e w6 ⟨rfl, rfl⟩
                      rw [Hbt.out]
                      go_wp2_with fail
                      go_round
                      case rel => exact ⟨j + 1, by omega, by go_num⟩
                      case measure => simp [intOf]; omega
                  · go_wp2_with fail
                    refine Calls.mono (free_any p g _ _ _ s [] wq hS) ?_
                    rintro e w6 ⟨rfl, rfl⟩
                    go_wp2_with fail
                    go_ret
                    exact ⟨rfl, hbr⟩
          · clear hck hE0
            have HH0 := Lib.hid hH0
            clear hH0
            go_wp2_with fail
            obtain ⟨wq, rfl⟩ : ∃ wo : World, wo = wr := ⟨_, rfl⟩
            go_loopw [147] (fun i wr => ∃ (j m : Nat) (L : List Bool), j ≤ n ∧ i = .int .i64 j ∧ SpT wr p g L (freeF L) m s [] ∧ Full L m ∧ Held s f L (E.drop j) ∧ Exts wr B 34 (.slice A n cap) E ∧ Below w.heap.size w wr ∧ B ≤ wr.heap.size) (fun i _ => n - (intOf i).toNat)
            case atStart => exact ⟨0, m, L, Nat.zero_le _, rfl, hS, hF, HH0.out, hX, hbr, hBr⟩
            case round =>
              clear hS hF HH0 HH hX hbr hBr
              obtain ⟨j, m, L, hj, rfl, hS, hF, hH, hX, hbr, hBr⟩ := hrel
              have HH := Lib.hid hH
              clear hH
              by_cases hjn : j < n
              · have hjE : j < E.length := by rw [Hn.out]; exact hjn
                obtain ⟨ge, cap', cur, hve, hBg, hcur, _, _, hcl, htk⟩ := hX.row (by omega)
                injection hve with hA hnn hcc
                subst hA
                subst hcc
                obtain ⟨x1, x2, hx, hc1, hc2, hxf⟩ : ∃ x1 x2 : Nat, Hid (E[j] = (x1, x2)) ∧ wr.cell? ⟨ge, j * 2, none⟩ = some (.int .i64 (x1 : Nat)) ∧ wr.cell? ⟨ge, j * 2 + 1, none⟩ = some (.int .i64 (x2 : Nat)) ∧ x1 + x2 ≤ s := by
                  have hc := ext_cells hcur htk hjE
                  exact ⟨_, _, rfl, hc.1, hc.2, (HH.out.fit _ (by rw [List.drop_eq_getElem_cons hjE]; exact List.mem_cons_self)).2.1⟩
                have hLs := HH.out.len
                have hup : Below wr.heap.size wr (wr.alloc (.cells #[.int .i64 (x1 : Nat), .int .i64 (x2 : Nat)] 34)) := (Below.refl _ wr).alloc (Nat.le_refl _) _
                have hS1 := hS.up hup
                have hX1 := hX.only (R := fun _ => False) (Only.of_below hup) (fun _ _ h => h)
                have hb1 := hbr.trans (hup.mono hbr.size)
                have hB1 := Nat.le_trans hBr hup.size
                have HB1 := Lib.hid hB1
                clear htk hcl hnn hcur hS hX hbr hBr hup hB1
                go_wp2_with fail
                refine Calls.mono (release_yes p g x1 x2 L m s [] _ hS1 hF (by omega)) ?_
                rintro e w5 ⟨rfl, m5, hS5, hF5, hO5⟩
                have hb5 := hb1.trans (hO5.below hb1.size (by rintro i (rfl | rfl) <;> assumption))
                have hB5 := Nat.le_trans HB1.out hO5.size
                have hX5 := hX1.only hO5 (by rintro i hi (rfl | rfl) <;> omega)
                have hH5 := Held.behind hjE HH.out
                rw [hx.out] at hH5
                have HH5 := Lib.hid hH5
                clear hO5 hX1 hb1 hS1 hF hH5 hc1 hc2 HB1 hLs
                go_wp2_with fail
                go_roundw
                case rel => exact ⟨j + 1, m5, _, by omega, by go_num, hS5, hF5, HH5.out, hX5, hb5, hB5⟩
                case measure => simp [intOf]; omega
              · have hHl := HH.out
                rw [List.drop_of_length_le (by rw [Hn.out]; omega)] at hHl
                have hLf := hHl.last
                subst hLf
                have hfree := firstF_free (n := s) (k := f) hfs
                obtain ⟨f', hf'⟩ : ∃ f' : Nat, s - f = f' := ⟨_, rfl⟩
                have hfI : (s : Int) - (f : Int) = (f' : Int) := by omega
                rw [hf'] at hfree
                rw [hfree] at hS
                clear hf' hfree hHl HH hX hBr hF
                go_wp2_with fail
                obtain ⟨wq, rfl⟩ : ∃ wo : World, wo = wr := ⟨_, rfl⟩
                go_loop [23] (fun i => ∃ j : Nat, j ≤ s ∧ i = .int .i64 j) (fun i => s - (intOf i).toNat)
                case atStart => exact ⟨0, Nat.zero_le _, rfl⟩
                case round =>
                  obtain ⟨j, hj, rfl⟩ := hrel
                  by_cases hjs : j < s
                  · have hbit := firstF_get (n := s) (k := f) false hjs
                    have Hbit := Lib.hid hbit
                    have hdj : decide ((j : Int) < (f : Int)) = decide (j < f) := by congr 1; simp
                    clear hbit
                    by_cases hjf : j < f
                    · have hd : decide ((j : Int) < (f : Int)) = true := by simp; omega
                      have hbt : (firstF s f).getD j false = true := by rw [Hbit.out]; simp [hjf]
                      have Hbt := Lib.hid hbt
                      clear hdj hbt
                      go_wp2_with fail
                      refine Calls.mono (taken_in p g j _ _ _ s [] wq hS (by rw [firstF_length]; exact hjs)) ?_
                      rintro e w6 ⟨rfl, rfl⟩
                      rw [Hbt.out]
                      go_wp2_with fail
                      go_round
                      case rel => exact ⟨j + 1, by omega, by go_num⟩
                      case measure => simp [intOf]; omega
                    · have hd : decide ((j : Int) < (f : Int)) = false := by simp; omega
                      have hbt : (firstF s f).getD j false = false := by rw [Hbit.out]; simp [hjf]
                      have Hbt := Lib.hid hbt
                      clear hdj hbt
                      go_wp2_with fail
                      refine Calls.mono (taken_in p g j _ _ _ s [] wq hS (by rw [firstF_length]; exact hjs)) ?_
                      rintro e w6 ⟨rfl, rfl⟩
                      rw [Hbt.out]
                      go_wp2_with fail
                      go_round
                      case rel => exact ⟨j + 1, by omega, by go_num⟩
                      case measure => simp [intOf]; omega
                  · go_wp2_with fail
                    refine Calls.mono (free_any p g _ _ _ s [] wq hS) ?_
                    rintro e w6 ⟨rfl, rfl⟩
                    go_wp2_with fail
                    go_ret
                    exact ⟨rfl, hbr⟩

theorem spaceBack_walk (s : Int) (hs1 : -9223372036854775808 ≤ s) (hs2 : s ≤ 9223372036854775807) (f : Int) (hf1 : -9223372036854775808 ≤ f) (hf2 : f ≤ 9223372036854775807) (A1 : Option Addr) (len1 cap1 : Nat) (zs1 : List Int) (hl1 : zs1.length = len1) (hc1 : len1 ≤ cap1) (hm1 : cap1 ≤ maxLen)
    (A2 : Option Addr) (len2 cap2 : Nat) (zs2 : List Int) (hl2 : zs2.length = len2) (hc2 : len2 ≤ cap2) (hm2 : cap2 ≤ maxLen) (w : World) (hz1 : IntsAt w w.heap.size A1 zs1) (hz2 : IntsAt w w.heap.size A2 zs2) :
    Calls Try.prog 4 #[.int .i64 s, .int .i64 f, .slice A1 len1 cap1, .slice A2 len2 cap2] w fun e w' => e = .returned (.bool true) ∧ Below w.heap.size w w' := by
  unfold maxLen at hm1 hm2
  by_cases hbad : s < 1 ∨ 300 < s ∨ f < 0 ∨ s < f ∨ 40 < len1 ∨ 60 < len2
  · exact spaceBack_bad s f A1 len1 cap1 A2 len2 cap2 hc1 (by omega) hc2 (by omega) w hbad
  · obtain ⟨n, rfl⟩ : ∃ n : Nat, s = (n : Nat) := ⟨s.toNat, by omega⟩
    obtain ⟨k, rfl⟩ : ∃ k : Nat, f = (k : Nat) := ⟨f.toNat, by omega⟩
    exact spaceBack_good n k A1 len1 cap1 zs1 hl1 hc1 (by omega) A2 len2 cap2 zs2 hl2 hc2 (by omega) w hz1 hz2 (by omega) (by omega) (by omega) (by omega) (by omega)

end Go.Proofs.Ytejmojldfffbnad

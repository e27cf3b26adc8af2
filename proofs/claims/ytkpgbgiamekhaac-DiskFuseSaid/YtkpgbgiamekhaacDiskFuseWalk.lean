/-
  The walk of DiskFuse.
-/
import Derived.Test.YtkpgbgiamekhaacDiskSyncedWalk
namespace Go.Proofs.Ytkpgbgiamekhaac
open Go.RowKit
set_option linter.unusedVariables false
set_option linter.unusedSimpArgs false

theorem Disk.power {w : World} {F : Nat → Prop} {k n : Nat} {S L : List (List UInt8)} {W : List WrF} {fu : Bool} {left : Int} (h : Disk w F k n S L W fu left) : w.cell? ⟨k, 4, none⟩ = some (.bool fu) ∧ w.cell? ⟨k, 5, none⟩ = some (.int .i64 left) := by
  obtain ⟨gs, gl, bm, vw, base, nm, D, hD, r⟩ := h
  exact ⟨hD.c4, hD.c5⟩
theorem Disk.secs {w : World} {F : Nat → Prop} {k n : Nat} {S L : List (List UInt8)} {W : List WrF} {fu : Bool} {left : Int} (h : Disk w F k n S L W fu left) : S.length = n ∧ ∀ s ∈ S, s.length = 64 := by
  obtain ⟨gs, gl, bm, vw, base, nm, D, hD, r⟩ := h
  exact ⟨hD.lS, hD.s64⟩
theorem Disk.drewN {w : World} {F : Nat → Prop} {k n : Nat} {S L : List (List UInt8)} {W : List WrF} {fu : Bool} {left : Int} (h : Disk w F k n S L W fu left) (nd : Nat) : Disk (w.drewN nd) F k n S L W fu left := h.kept (Nat.le_refl _) (fun _ _ => rfl)

set_option maxHeartbeats 4000000 in
theorem fuse_any (F : Nat → Prop) (k n : Nat) (S L : List (List UInt8)) (W : List WrF) (fu : Bool) (left : Int) (w : World) (h : Disk w F k n S L W fu left) (a : Nat) (ha : a ≤ 100) :
    Calls Try.prog 16 #[.pointer (some ⟨k, 0, none⟩), .int .i64 (a : Nat)] w fun e w' => e = .returned (.tuple #[]) ∧ Disk w' F k n S L W true (a : Nat) ∧ Only F w w' := by
  obtain ⟨gs, gl, bm, vw, base, nm, D, hD, hr⟩ := h
  have h4 := hD.c4
  have h5 := hD.c5
  have f4 := hD.hk.frozen 4
  have hk4 := hD.hk.set 4 (.bool true)
  have h5' : (w.setCell ⟨k, 4, none⟩ (.bool true)).cell? ⟨k, 5, none⟩ = some (.int .i64 left) := by rw [hk4.cell]; rfl
  have f5 := hk4.frozen 5
  have hk5 := hk4.set 5 (.int .i64 (a : Nat))
  have hO : Only (fun b => b = k) w ((w.setCell ⟨k, 4, none⟩ (.bool true)).setCell ⟨k, 5, none⟩ (.int .i64 (a : Nat))) := ((Only.refl (fun b => b = k) w).setCell (p := ⟨k, 4, none⟩) (.inl rfl) _).setCell (p := ⟨k, 5, none⟩) (.inl rfl) _
  have hsz : ((w.setCell ⟨k, 4, none⟩ (.bool true)).setCell ⟨k, 5, none⟩ (.int .i64 (a : Nat))).heap.size = w.heap.size := by simp [World.setCell]
  have hfin : Disk ((w.setCell ⟨k, 4, none⟩ (.bool true)).setCell ⟨k, 5, none⟩ (.int .i64 (a : Nat))) F k n S L W true (a : Nat) := ⟨gs, gl, bm, vw, base, nm, D, hD.turn (by omega) (fun b hF h1 _ _ => hO.block b (hD.Flt b hF) h1) hk5 (hD.hs.only hO (fun e => hD.ks e.symm)) (hD.hl.only hO (fun e => hD.kl e.symm)) hD.lS hD.lL hD.s64 hD.l64 (by omega) (by omega), hr⟩
  have hOF : Only F w ((w.setCell ⟨k, 4, none⟩ (.bool true)).setCell ⟨k, 5, none⟩ (.int .i64 (a : Nat))) := hO.more (fun i _ hi => hi ▸ hD.Fk)
  have hmx : ∀ (ty : TypeId) (w : World), (Builtin.max_ #[3, 3] ty #[.int .i64 (a : Nat), .int .i64 0]).run Try.prog w = .ok (.int .i64 (a : Nat)) w := fun ty w => by (go_simp; omega)
  clear hk4 hk5 hO hr hD
  go_enter Try.func16, Try.ntmps16
  go_wp2
  go_end0
  exact ⟨rfl, hfin, hOF⟩

theorem and31 (z : Int) : ∃ v : Nat, v ≤ 31 ∧ bits .and .i64 z 31 = (v : Int) := by
  have hb : BitVec.ofInt IntKind.i64.bits 31 = BitVec.ofNat IntKind.i64.bits 31 := rfl
  have hle : ((BitVec.ofInt IntKind.i64.bits z).toNat &&& 31) ≤ 31 := Nat.and_le_right
  refine ⟨(BitVec.ofInt IntKind.i64.bits z).toNat &&& 31, hle, ?_⟩
  have h2 : (BitVec.ofNat IntKind.i64.bits 31).toNat = 31 := rfl
  simp only [bits, hb, BitVec.toNat_and, h2]
  rw [IntKind.wrap_i64]
  omega

set_option maxHeartbeats 4000000 in
set_option maxRecDepth 100000 in
theorem dfuse_great (A1 : Option Addr) (n1 c1 : Nat) (z : Int) (w : World) (h : 60 < n1) :
    Calls Try.prog 4 #[.slice A1 n1 c1, .int .i64 z] w fun e w' => e = .returned (.bool true) ∧ Below w.heap.size w w' := by
  have hd : decide ((60 : Int) < (n1 : Int)) = true := by simp; omega
  go_enter Try.func4, Try.ntmps4
  go_wp2_with fail
  refine Calls.mono (dspeaks_true w) ?_
  rintro e w1 ⟨rfl, hb1⟩
  go_wp2_with fail
  go_ret
  exact ⟨rfl, hb1⟩

set_option maxHeartbeats 80000000 in
set_option maxRecDepth 100000 in
theorem dfuse_in (A1 : Option Addr) (n1 c1 : Nat) (f1 : Nat → DCl) (hn1 : n1 ≤ c1) (hm1 : c1 ≤ 9223372036854775807) (z : Int) (w : World) (hf1 : DClsAt w w.heap.size A1 n1 f1) (h1 : n1 ≤ 60) :
    Calls Try.prog 4 #[.slice A1 n1 c1, .int .i64 z] w fun e w' => e = .returned (.bool true) ∧ Below w.heap.size w w' := by
  have hd1 : decide ((60 : Int) < (n1 : Int)) = false := by simp; omega
  have hzv : ∀ w, (zeroValue 32).run Try.prog w = .ok (.agg dcZ.toArray) w := fun w => by kernel_rfl
  obtain ⟨M0, hM0, hMe⟩ := and31 z
  have hMe' : bits .and .i64 z 31 = (M0 : Int) := hMe
  obtain ⟨S0, hS0⟩ : ∃ l, l = List.replicate 20 zero64 := ⟨_, rfl⟩
  clear hMe
  go_enter Try.func4, Try.ntmps4
  go_wp2_with fail
  refine Calls.mono (dspeaks_true w) ?_
  rintro e w1 ⟨rfl, hB1⟩
  go_wp2_with fail
  refine Calls.mono (show Calls Try.prog 10 #[.int .i64 20] w1 (NewPost 20 w1) from new_yes 20 w1 (by omega) (by omega)) ?_
  rintro e w2 ⟨k1, rfl, hD2, hb2⟩
  rw [← hS0] at hD2
  have hB2 := hB1.trans (hb2.mono hB1.size)
  have hs2 := hb2.size
  obtain ⟨F1, hF1e⟩ : ∃ G, G = newF (fun _ => False) w1 w2 := ⟨_, rfl⟩
  have hF1 : ∀ b, F1 b → w.heap.size ≤ b := fun b h => by rw [hF1e] at h; exact h.elim (fun h => h.elim) (fun h => Nat.le_trans hB1.size h.1)
  rw [← hF1e] at hD2
  clear hF1e hB1 hb2
  go_wp2_with fail
  refine Calls.mono (show Calls Try.prog 10 #[.int .i64 20] w2 (NewPost 20 w2) from new_yes 20 w2 (by omega) (by omega)) ?_
  rintro e w3 ⟨k2, rfl, hX3, hb3⟩
  rw [← hS0] at hX3
  have hB3 := hB2.trans (hb3.mono hB2.size)
  have hD3 := hD2.below hb3
  have hdis : ∀ b, newF (fun _ => False) w2 w3 b → ¬ F1 b := fun b h h' => h.elim (fun h => h.elim) (fun h => by have := hD2.Flt b h'; omega)
  have hF2 : ∀ b, newF (fun _ => False) w2 w3 b → w.heap.size ≤ b := fun b h => h.elim (fun h => h.elim) (fun h => Nat.le_trans hB2.size h.1)
  obtain ⟨F2, hF2e⟩ : ∃ G, G = newF (fun _ => False) w2 w3 := ⟨_, rfl⟩
  rw [← hF2e] at hX3 hdis hF2
  clear hF2e hB2 hb3 hD2 hs2 hS0
  go_wp2_with fail
  refine Calls.mono (fuse_any F1 k1 20 _ _ [] false 0 w3 hD3 M0 (by omega)) ?_
  rintro e w4 ⟨rfl, hD4, hO4⟩
  have hX4 := hX3.kept hO4.size (fun b hb => hO4.block b (hX3.Flt b hb) (hdis b hb))
  have hB4 := Only.up hB3 hO4 hF1 (Nat.le_refl _)
  clear hD3 hX3 hB3 hO4 hMe'
  go_wp2_with fail
  clear hd1
  go_loopw [9, 47] (fun v q wr => ∃ (j M : Nat) (F1 F2 : Nat → Prop) (S L : List (List UInt8)) (W : List WrF), q = .int .i64 j ∧ v = .int .i64 M ∧ j ≤ n1 ∧ M ≤ 31 ∧ Disk wr F1 k1 20 S L W true (M : Nat) ∧ Disk wr F2 k2 20 S L W false 0 ∧ W.length ≤ j ∧ (∀ b, F2 b → ¬ F1 b) ∧ (∀ b, F1 b → w.heap.size ≤ b) ∧ (∀ b, F2 b → w.heap.size ≤ b) ∧ Below w.heap.size w wr) (fun _ q _ => n1 - (intOf q).toNat)
  case atStart => exact ⟨0, M0, F1, F2, S0, S0, [], rfl, rfl, Nat.zero_le _, hM0, hD4, hX4, Nat.le_refl _, hdis, hF1, hF2, hB4⟩
  case round =>
    clear hD4 hX4 hdis hF1 hF2 hB4
    obtain ⟨j, M, F1, F2, S, L, W, rfl, rfl, hjn, hM31, hDq, hXq, hWj, hdis, hF1, hF2, hBq⟩ := hrel
    obtain ⟨wq, hwq⟩ : ∃ x, x = wr := ⟨_, rfl⟩
    subst hwq
    by_cases hlt : j < n1
    · skip
      obtain ⟨b, off, rfl, hbB, hrow⟩ := hf1 (by omega)
      obtain ⟨hfit, hrng⟩ := hrow j hlt
      obtain ⟨x, hx⟩ : ∃ x, f1 j = x := ⟨_, rfl⟩
      rw [hx] at hfit hrng
      obtain ⟨hq1, hq2, hp1, hp2, hs64, hpv⟩ := hfit
      obtain ⟨XL, hXL⟩ : ∃ l, l = dcC x := ⟨_, rfl⟩
      have HXl := Lib.hid (show XL.length = 68 by rw [hXL]; exact dcC_length hs64)
      have HXi := Lib.hid (show (Try.prog.info? 32).map (·.size) = some XL.toArray.size by rw [List.size_toArray, HXl.out]; exact dcSize)
      have HXz := Lib.hid (show (Try.prog.info? 32).map (·.size) = some XL.length by rw [HXl.out]; exact dcSize)
      have HX1 := Lib.hid (show XL.toArray.all (·.oneCell') = true by rw [hXL]; exact all_oneCell_toArray (dcC_cell hpv))
      have HXs := Lib.hid (show dcZ.toArray.size = XL.toArray.size by rw [List.size_toArray, List.size_toArray, HXl.out]; rfl)
      have hwr : wq.rangeAt b (off + j * 68) XL := fun i v hv => (hBq.cell (p := ⟨b, off + j * 68 + i, none⟩) hbB).trans (hrng i v (by rw [← hXL]; exact hv))
      have hwhat : XL[0]? = some (.int .i64 x.what) := by rw [hXL]; rfl
      have hat : XL[1]? = some (.int .i64 x.pos) := by rw [hXL]; rfl
      obtain ⟨s, hse⟩ : ∃ s, x.s = s := ⟨_, rfl⟩
      obtain ⟨SL, hSL⟩ : ∃ l, l = Lib.byteCells s := ⟨_, rfl⟩
      have hmid : ∀ i v, SL[i]? = some v → XL[3 + i]? = some v := fun i v hv => by rw [hXL]; rw [hSL, ← hse] at hv; exact dcC_mid hv
      rw [hse] at hs64
      obtain ⟨cw, hcw0⟩ : ∃ q, x.what = q := ⟨_, rfl⟩
      rw [hcw0] at hwhat hq1 hq2
      obtain ⟨ap, hap⟩ : ∃ q, x.pos = q := ⟨_, rfl⟩
      rw [hap] at hat hp1 hp2
      have HSl := Lib.hid (show SL.length = 64 by rw [hSL, Lib.byteCells_length]; exact hs64)
      have HSz := Lib.hid (show (Try.prog.info? 30).map (·.size) = some SL.length by rw [HSl.out]; exact secInfo)
      have HSL := Lib.hid hSL
      have hjI : (j : Int) < (n1 : Int) := by omega
      clear hcw0 hx hXL hse hap hSL hrow hrng hpv
      by_cases hw0 : cw = 0
      · have e0 : (cw == 0) = true := by rw [beq_iff_eq]; exact hw0
        by_cases hin : ap < 0 ∨ (20 : Int) ≤ ap
        · rcases (show decide ((0 : Int) ≤ ap) = false ∨ (decide ((0 : Int) ≤ ap) = true ∧ decide (ap < 20) = false) by simp only [decide_eq_true_eq, decide_eq_false_iff_not]; omega) with g1 | ⟨g1, g2⟩
          all_goals
            by_cases hM0 : M = 0
            · have hz : ((M : Int) == 0) = true := by rw [hM0]; rfl
              have hgt : decide ((0 : Int) < (M : Int)) = false := by simp; omega
              go_wp2_with (first | (refine wpList_load_mid rfl _ _ rfl b (off + j * 68) rfl XL _ hwr Try.underlying32 rfl HXz.out ?_) | (change wpList _ _ _ _ _ (wq.alloc (.cells dcZ.toArray 32)); refine wpList_store_row rfl _ _ _ rfl wq.heap.size XL.toArray rfl rfl 32 dcZ.toArray (heap_alloc_new wq _) HXi.out HXs.out HX1.out ?_; obtain ⟨w1, hw1⟩ : ∃ x, x = (wq.alloc (.cells dcZ.toArray 32)).setRow wq.heap.size XL.toArray := ⟨_, rfl⟩; rw [← hw1]; obtain ⟨hX1, hb1⟩ := alloc_row wq 32 dcZ.toArray XL; rw [← hw1] at hX1 hb1; clear hw1; have hc1 : w1.cell? ⟨wq.heap.size, 1, none⟩ = some (.int .i64 ap) := (by rw [hX1.cell]; exact hat); have hcw : w1.cell? ⟨wq.heap.size, 0, none⟩ = some (.int .i64 cw) := (by rw [hX1.cell]; exact hwhat); have hsr : w1.rangeAt wq.heap.size 3 SL := fun i v hv => (by rw [hX1.cell]; exact hmid i v hv)) | (refine wpList_load_mid rfl _ _ rfl wq.heap.size 3 rfl SL _ hsr Try.underlying30 rfl HSz.out ?_))
              have hD1 := hDq.below hb1
              have hX1d := hXq.below hb1
              have hB1 := hBq.trans (hb1.mono hBq.size)
              have hx1 := hX1.lt
              have hgx : ¬ F1 wq.heap.size := fun e => Nat.lt_irrefl _ (hDq.Flt _ e)
              clear hb1 hX1 hwr hmid hat hwhat
              skip
              refine Calls.mono (write_no F1 k1 20 ap S L W true (M : Nat) SL w1 hD1 hin) ?_
              rintro e w2 ⟨rfl, hb2⟩
              have hD2 := hD1.below hb2
              have hX2 := hX1d.below hb2
              have hB2 := hB1.trans (hb2.mono hB1.size)
              clear hb2
              have hz2 := hz
              obtain ⟨M2, hM2⟩ : ∃ x, x = M := ⟨_, rfl⟩
              subst hM2
              obtain ⟨G1, hG1e⟩ : ∃ G, G = F1 := ⟨_, rfl⟩
              subst hG1e
              obtain ⟨G2, hG2e⟩ : ∃ G, G = F2 := ⟨_, rfl⟩
              subst hG2e
              have hdis2 := hdis
              have hG1 := hF1
              have hG2 := hF2
              obtain ⟨S2, hS2⟩ : ∃ x, x = S := ⟨_, rfl⟩
              subst hS2
              obtain ⟨L2, hL2⟩ : ∃ x, x = L := ⟨_, rfl⟩
              subst hL2
              obtain ⟨W2, hW2⟩ : ∃ x, x = W := ⟨_, rfl⟩
              subst hW2
              have hWl2 : W2.length ≤ j + 1 := by omega
              obtain ⟨wT, hwT⟩ : ∃ x, x = w2 := ⟨_, rfl⟩
              have hDT := hD2
              have hXT := hX2
              have hBT := hB2
              rw [← hwT] at hDT hXT hBT ⊢
              clear hwT
              have hdd : deadF true (M2 : Nat) = true := by unfold deadF; rw [hz2]; rfl
              have hG1l := hDT.Flt
              have hG2l := hXT.Flt
              obtain ⟨h4, h5⟩ := hDT.power
              clear hD1 hX1d hDq hXq
              go_wp2_with fail
              refine Calls.mono (dead_any k1 true (M2 : Nat) wT h4 h5) ?_
              rintro e wy ⟨rfl, rfl⟩
              rw [hdd]
              clear h4 h5
              go_wp2_with fail
              refine Calls.mono hDT.image ?_
              rintro e wu ⟨gu, cu, rfl, hru, hgu1, hgu2, hcu1, hcu2, hbu⟩
              have hXu := hXT.below hbu
              have hDu := hDT.below hbu
              have hBu := hBT.trans (hbu.mono hBT.size)
              have hSl : S2.length = 20 ∧ ∀ s ∈ S2, s.length = 64 := hDu.secs
              clear hDT hXT hBT hbu
              go_wp2_with fail
              refine Calls.mono hXu.image ?_
              rintro e wv ⟨gv, cv, rfl, hrv, hgv1, hgv2, hcv1, hcv2, hbv⟩
              have hXv := hXu.below hbv
              have hDv := hDu.below hbv
              have hBv := hBu.trans (hbv.mono hBu.size)
              have hru2 : wv.rangeAt gu 0 (secC S2) := fun i v hv => (hbv.cell (p := ⟨gu, 0 + i, none⟩) hgu2).trans (hru i v hv)
              clear hDu hXu hBu hbv hru
              go_wp2_with fail
              refine Calls.mono (same_yes gu gv 20 cu cv S2 wv hru2 hrv hSl.2 hSl.1 (by omega) hcu1 hcu2 hcv1 hcv2) ?_
              rintro e wx ⟨rfl, nd, rfl⟩
              have hDx := hDv.drewN nd
              have hXx := hXv.drewN nd
              have hBx : Below w.heap.size w (wv.drewN nd) := Below.dN hBv nd
              clear hDv hXv hBv
              go_wp2_with fail
              go_roundw
              case rel => exact ⟨j + 1, M2, G1, G2, S2, L2, W2, rfl, by go_num, by omega, by omega, hDx, hXx, by omega, hdis2, hG1, hG2, hBx⟩
              case measure => simp [intOf]; omega
            · have hz : ((M : Int) == 0) = false := by rw [beq_eq_false_iff_ne]; omega
              have hgt : decide ((0 : Int) < (M : Int)) = true := by simp; omega
              go_wp2_with (first | (refine wpList_load_mid rfl _ _ rfl b (off + j * 68) rfl XL _ hwr Try.underlying32 rfl HXz.out ?_) | (change wpList _ _ _ _ _ (wq.alloc (.cells dcZ.toArray 32)); refine wpList_store_row rfl _ _ _ rfl wq.heap.size XL.toArray rfl rfl 32 dcZ.toArray (heap_alloc_new wq _) HXi.out HXs.out HX1.out ?_; obtain ⟨w1, hw1⟩ : ∃ x, x = (wq.alloc (.cells dcZ.toArray 32)).setRow wq.heap.size XL.toArray := ⟨_, rfl⟩; rw [← hw1]; obtain ⟨hX1, hb1⟩ := alloc_row wq 32 dcZ.toArray XL; rw [← hw1] at hX1 hb1; clear hw1; have hc1 : w1.cell? ⟨wq.heap.size, 1, none⟩ = some (.int .i64 ap) := (by rw [hX1.cell]; exact hat); have hcw : w1.cell? ⟨wq.heap.size, 0, none⟩ = some (.int .i64 cw) := (by rw [hX1.cell]; exact hwhat); have hsr : w1.rangeAt wq.heap.size 3 SL := fun i v hv => (by rw [hX1.cell]; exact hmid i v hv)) | (refine wpList_load_mid rfl _ _ rfl wq.heap.size 3 rfl SL _ hsr Try.underlying30 rfl HSz.out ?_))
              have hD1 := hDq.below hb1
              have hX1d := hXq.below hb1
              have hB1 := hBq.trans (hb1.mono hBq.size)
              have hx1 := hX1.lt
              have hgx : ¬ F1 wq.heap.size := fun e => Nat.lt_irrefl _ (hDq.Flt _ e)
              clear hb1 hX1 hwr hmid hat hwhat
              skip
              refine Calls.mono (write_no F1 k1 20 ap S L W true (M : Nat) SL w1 hD1 hin) ?_
              rintro e w2 ⟨rfl, hb2⟩
              have hD2 := hD1.below hb2
              have hX2 := hX1d.below hb2
              have hB2 := hB1.trans (hb2.mono hB1.size)
              clear hb2
              have hz2 := hz
              obtain ⟨M2, hM2⟩ : ∃ x, x = M := ⟨_, rfl⟩
              subst hM2
              obtain ⟨G1, hG1e⟩ : ∃ G, G = F1 := ⟨_, rfl⟩
              subst hG1e
              obtain ⟨G2, hG2e⟩ : ∃ G, G = F2 := ⟨_, rfl⟩
              subst hG2e
              have hdis2 := hdis
              have hG1 := hF1
              have hG2 := hF2
              obtain ⟨S2, hS2⟩ : ∃ x, x = S := ⟨_, rfl⟩
              subst hS2
              obtain ⟨L2, hL2⟩ : ∃ x, x = L := ⟨_, rfl⟩
              subst hL2
              obtain ⟨W2, hW2⟩ : ∃ x, x = W := ⟨_, rfl⟩
              subst hW2
              have hWl2 : W2.length ≤ j + 1 := by omega
              obtain ⟨wT, hwT⟩ : ∃ x, x = w2 := ⟨_, rfl⟩
              have hDT := hD2
              have hXT := hX2
              have hBT := hB2
              rw [← hwT] at hDT hXT hBT ⊢
              clear hwT
              have hdd : deadF true (M2 : Nat) = false := by unfold deadF; rw [hz2]; rfl
              have hG1l := hDT.Flt
              have hG2l := hXT.Flt
              obtain ⟨h4, h5⟩ := hDT.power
              clear hD1 hX1d hDq hXq
              go_wp2_with fail
              refine Calls.mono (dead_any k1 true (M2 : Nat) wT h4 h5) ?_
              rintro e wy ⟨rfl, rfl⟩
              rw [hdd]
              clear h4 h5
              go_wp2_with fail
              refine Calls.mono hDT.image ?_
              rintro e wu ⟨gu, cu, rfl, hru, hgu1, hgu2, hcu1, hcu2, hbu⟩
              have hXu := hXT.below hbu
              have hDu := hDT.below hbu
              have hBu := hBT.trans (hbu.mono hBT.size)
              have hSl : S2.length = 20 ∧ ∀ s ∈ S2, s.length = 64 := hDu.secs
              clear hDT hXT hBT hbu
              go_wp2_with fail
              refine Calls.mono hXu.image ?_
              rintro e wv ⟨gv, cv, rfl, hrv, hgv1, hgv2, hcv1, hcv2, hbv⟩
              have hXv := hXu.below hbv
              have hDv := hDu.below hbv
              have hBv := hBu.trans (hbv.mono hBu.size)
              have hru2 : wv.rangeAt gu 0 (secC S2) := fun i v hv => (hbv.cell (p := ⟨gu, 0 + i, none⟩) hgu2).trans (hru i v hv)
              clear hDu hXu hBu hbv hru
              go_wp2_with fail
              refine Calls.mono (same_yes gu gv 20 cu cv S2 wv hru2 hrv hSl.2 hSl.1 (by omega) hcu1 hcu2 hcv1 hcv2) ?_
              rintro e wx ⟨rfl, nd, rfl⟩
              have hDx := hDv.drewN nd
              have hXx := hXv.drewN nd
              have hBx : Below w.heap.size w (wv.drewN nd) := Below.dN hBv nd
              clear hDv hXv hBv
              go_wp2_with fail
              go_roundw
              case rel => exact ⟨j + 1, M2, G1, G2, S2, L2, W2, rfl, by go_num, by omega, by omega, hDx, hXx, by omega, hdis2, hG1, hG2, hBx⟩
              case measure => simp [intOf]; omega
        · obtain ⟨a, rfl⟩ : ∃ a : Nat, ap = (a : Nat) := ⟨ap.toNat, by omega⟩
          have ha : a < 20 := by omega
          have g1 : decide ((0 : Int) ≤ ((a : Nat) : Int)) = true := by simp
          have g2 : decide (((a : Nat) : Int) < 20) = true := by simp; omega
          by_cases hM0 : M = 0
          · have hz : ((M : Int) == 0) = true := by rw [hM0]; rfl
            have hgt : decide ((0 : Int) < (M : Int)) = false := by simp; omega
            go_wp2_with (first | (refine wpList_load_mid rfl _ _ rfl b (off + j * 68) rfl XL _ hwr Try.underlying32 rfl HXz.out ?_) | (change wpList _ _ _ _ _ (wq.alloc (.cells dcZ.toArray 32)); refine wpList_store_row rfl _ _ _ rfl wq.heap.size XL.toArray rfl rfl 32 dcZ.toArray (heap_alloc_new wq _) HXi.out HXs.out HX1.out ?_; obtain ⟨w1, hw1⟩ : ∃ x, x = (wq.alloc (.cells dcZ.toArray 32)).setRow wq.heap.size XL.toArray := ⟨_, rfl⟩; rw [← hw1]; obtain ⟨hX1, hb1⟩ := alloc_row wq 32 dcZ.toArray XL; rw [← hw1] at hX1 hb1; clear hw1; have hc1 : w1.cell? ⟨wq.heap.size, 1, none⟩ = some (.int .i64 ((a : Nat) : Int)) := (by rw [hX1.cell]; exact hat); have hcw : w1.cell? ⟨wq.heap.size, 0, none⟩ = some (.int .i64 cw) := (by rw [hX1.cell]; exact hwhat); have hsr : w1.rangeAt wq.heap.size 3 SL := fun i v hv => (by rw [hX1.cell]; exact hmid i v hv)) | (refine wpList_load_mid rfl _ _ rfl wq.heap.size 3 rfl SL _ hsr Try.underlying30 rfl HSz.out ?_))
            have hD1 := hDq.below hb1
            have hX1d := hXq.below hb1
            have hB1 := hBq.trans (hb1.mono hBq.size)
            have hx1 := hX1.lt
            have hgx : ¬ F1 wq.heap.size := fun e => Nat.lt_irrefl _ (hDq.Flt _ e)
            clear hb1 hX1 hwr hmid hat hwhat
            have hdead0 : deadF true (M : Nat) = true := by unfold deadF; rw [hz]; rfl
            refine Calls.mono (write_dead F1 k1 20 a S L W true (M : Nat) SL w1 hD1 hdead0 ha) ?_
            rintro e w2 ⟨rfl, hb2⟩
            have hD2 := hD1.below hb2
            have hX2 := hX1d.below hb2
            have hB2 := hB1.trans (hb2.mono hB1.size)
            clear hb2
            have hz2 := hz
            obtain ⟨M2, hM2⟩ : ∃ x, x = M := ⟨_, rfl⟩
            subst hM2
            obtain ⟨G1, hG1e⟩ : ∃ G, G = F1 := ⟨_, rfl⟩
            subst hG1e
            obtain ⟨G2, hG2e⟩ : ∃ G, G = F2 := ⟨_, rfl⟩
            subst hG2e
            have hdis2 := hdis
            have hG1 := hF1
            have hG2 := hF2
            obtain ⟨S2, hS2⟩ : ∃ x, x = S := ⟨_, rfl⟩
            subst hS2
            obtain ⟨L2, hL2⟩ : ∃ x, x = L := ⟨_, rfl⟩
            subst hL2
            obtain ⟨W2, hW2⟩ : ∃ x, x = W := ⟨_, rfl⟩
            subst hW2
            have hWl2 : W2.length ≤ j + 1 := by omega
            obtain ⟨wT, hwT⟩ : ∃ x, x = w2 := ⟨_, rfl⟩
            have hDT := hD2
            have hXT := hX2
            have hBT := hB2
            rw [← hwT] at hDT hXT hBT ⊢
            clear hwT
            have hdd : deadF true (M2 : Nat) = true := by unfold deadF; rw [hz2]; rfl
            have hG1l := hDT.Flt
            have hG2l := hXT.Flt
            obtain ⟨h4, h5⟩ := hDT.power
            clear hD1 hX1d hDq hXq
            go_wp2_with fail
            refine Calls.mono (dead_any k1 true (M2 : Nat) wT h4 h5) ?_
            rintro e wy ⟨rfl, rfl⟩
            rw [hdd]
            clear h4 h5
            go_wp2_with fail
            refine Calls.mono hDT.image ?_
            rintro e wu ⟨gu, cu, rfl, hru, hgu1, hgu2, hcu1, hcu2, hbu⟩
            have hXu := hXT.below hbu
            have hDu := hDT.below hbu
            have hBu := hBT.trans (hbu.mono hBT.size)
            have hSl : S2.length = 20 ∧ ∀ s ∈ S2, s.length = 64 := hDu.secs
            clear hDT hXT hBT hbu
            go_wp2_with fail
            refine Calls.mono hXu.image ?_
            rintro e wv ⟨gv, cv, rfl, hrv, hgv1, hgv2, hcv1, hcv2, hbv⟩
            have hXv := hXu.below hbv
            have hDv := hDu.below hbv
            have hBv := hBu.trans (hbv.mono hBu.size)
            have hru2 : wv.rangeAt gu 0 (secC S2) := fun i v hv => (hbv.cell (p := ⟨gu, 0 + i, none⟩) hgu2).trans (hru i v hv)
            clear hDu hXu hBu hbv hru
            go_wp2_with fail
            refine Calls.mono (same_yes gu gv 20 cu cv S2 wv hru2 hrv hSl.2 hSl.1 (by omega) hcu1 hcu2 hcv1 hcv2) ?_
            rintro e wx ⟨rfl, nd, rfl⟩
            have hDx := hDv.drewN nd
            have hXx := hXv.drewN nd
            have hBx : Below w.heap.size w (wv.drewN nd) := Below.dN hBv nd
            clear hDv hXv hBv
            go_wp2_with fail
            go_roundw
            case rel => exact ⟨j + 1, M2, G1, G2, S2, L2, W2, rfl, by go_num, by omega, by omega, hDx, hXx, by omega, hdis2, hG1, hG2, hBx⟩
            case measure => simp [intOf]; omega
          · have hz : ((M : Int) == 0) = false := by rw [beq_eq_false_iff_ne]; omega
            have hgt : decide ((0 : Int) < (M : Int)) = true := by simp; omega
            have hlive : deadF true (M : Nat) = false := by unfold deadF; rw [hz]; rfl
            obtain ⟨q, hq⟩ : ∃ q, M - 1 = q := ⟨_, rfl⟩
            have hqI : (M : Int) - 1 = (q : Int) := by omega
            have hsp : spentF true (M : Nat) = (q : Nat) := hqI
            go_wp2_with (first | (refine wpList_load_mid rfl _ _ rfl b (off + j * 68) rfl XL _ hwr Try.underlying32 rfl HXz.out ?_) | (change wpList _ _ _ _ _ (wq.alloc (.cells dcZ.toArray 32)); refine wpList_store_row rfl _ _ _ rfl wq.heap.size XL.toArray rfl rfl 32 dcZ.toArray (heap_alloc_new wq _) HXi.out HXs.out HX1.out ?_; obtain ⟨w1, hw1⟩ : ∃ x, x = (wq.alloc (.cells dcZ.toArray 32)).setRow wq.heap.size XL.toArray := ⟨_, rfl⟩; rw [← hw1]; obtain ⟨hX1, hb1⟩ := alloc_row wq 32 dcZ.toArray XL; rw [← hw1] at hX1 hb1; clear hw1; have hc1 : w1.cell? ⟨wq.heap.size, 1, none⟩ = some (.int .i64 ((a : Nat) : Int)) := (by rw [hX1.cell]; exact hat); have hcw : w1.cell? ⟨wq.heap.size, 0, none⟩ = some (.int .i64 cw) := (by rw [hX1.cell]; exact hwhat); have hsr : w1.rangeAt wq.heap.size 3 SL := fun i v hv => (by rw [hX1.cell]; exact hmid i v hv)) | (refine wpList_load_mid rfl _ _ rfl wq.heap.size 3 rfl SL _ hsr Try.underlying30 rfl HSz.out ?_))
            have hD1 := hDq.below hb1
            have hX1d := hXq.below hb1
            have hB1 := hBq.trans (hb1.mono hBq.size)
            have hx1 := hX1.lt
            have hgx : ¬ F1 wq.heap.size := fun e => Nat.lt_irrefl _ (hDq.Flt _ e)
            clear hb1 hX1 hwr hmid hat hwhat
            refine Calls.mono (write_live F1 k1 20 a S L W true (M : Nat) s SL w1 hD1 hlive ha hs64 HSL.out (by omega)) ?_
            rintro e w2 ⟨rfl, hD2, hO2⟩
            have hB2 := Only.up hB1 hO2 hF1 (Nat.le_refl _)
            have hs2 := hO2.size
            have hX2 := hX1d.kept hs2 (fun b hb => hO2.block b (hX1d.Flt b hb) (hdis b hb))
            have hdis1 : ∀ b, F2 b → ¬ newF F1 w1 w2 b := fun b hb h => h.elim (hdis b hb) (fun h => by have := hX1d.Flt b hb; omega)
            have hF1' : ∀ b, newF F1 w1 w2 b → w.heap.size ≤ b := fun b h => h.elim (hF1 b) (fun h => Nat.le_trans hB1.size h.1)
            obtain ⟨G1, hG1e⟩ : ∃ G, G = newF F1 w1 w2 := ⟨_, rfl⟩
            rw [← hG1e] at hD2 hdis1 hF1'
            have hG1 := hF1'
            rw [hsp] at hD2
            have hc0' : w2.cell? ⟨wq.heap.size, 1, none⟩ = some (.int .i64 ((a : Nat) : Int)) := by rw [World.cell?_of_block (hO2.block wq.heap.size hx1 hgx)]; exact hc1
            have hsr' : w2.rangeAt wq.heap.size 3 SL := fun i v hv => by rw [World.cell?_of_block (hO2.block wq.heap.size hx1 hgx)]; exact hsr i v hv
            clear hc1 hsr
            go_wp2_with (refine wpList_load_mid rfl _ _ rfl wq.heap.size 3 rfl SL _ hsr' Try.underlying30 rfl HSz.out ?_)
            refine Calls.mono (write_live F2 k2 20 a S L W false 0 s SL w2 hX2 rfl ha hs64 HSL.out (by omega)) ?_
            rintro e w3 ⟨rfl, hX3, hO3⟩
            have hB3 := Only.up hB2 hO3 hF2 (Nat.le_refl _)
            have hs3 := hO3.size
            have hD3 := hD2.kept hs3 (fun b hb => hO3.block b (hD2.Flt b hb) (fun h => hdis1 b h hb))
            have hdis2 : ∀ b, newF F2 w2 w3 b → ¬ G1 b := fun b hb h => hb.elim (fun hb => hdis1 b hb h) (fun hb => by have := hD2.Flt b h; omega)
            have hG2 : ∀ b, newF F2 w2 w3 b → w.heap.size ≤ b := fun b h => h.elim (hF2 b) (fun h => Nat.le_trans hB2.size h.1)
            obtain ⟨G2, hG2e⟩ : ∃ G, G = newF F2 w2 w3 := ⟨_, rfl⟩
            rw [← hG2e] at hX3 hdis2 hG2
            obtain ⟨M2, hM2⟩ : ∃ x, x = q := ⟨_, rfl⟩
            subst hM2
            obtain ⟨L2, hL2⟩ : ∃ x, x = L := ⟨_, rfl⟩
            obtain ⟨S2, hS2⟩ : ∃ x, x = S.set a s := ⟨_, rfl⟩
            obtain ⟨W2, hW2⟩ : ∃ x, x = W ++ [(a, s, false)] := ⟨_, rfl⟩
            have hWl2 : W2.length ≤ j + 1 := by rw [hW2]; simp; omega
            rw [← hS2, ← hL2, ← hW2] at hD3
            have hX3' : Disk w3 G2 k2 20 S2 L2 W2 false 0 := by rw [hS2, hL2, hW2]; exact hX3
            clear hX3 hD2 hX2 hO2 hO3 hG1e hG2e hS2 hL2 hW2 hdis1 hF1'
            obtain ⟨wT, hwT⟩ : ∃ x, x = w3 := ⟨_, rfl⟩
            have hDT := hD3
            have hXT := hX3'
            have hBT := hB3
            rw [← hwT] at hDT hXT hBT ⊢
            clear hwT
            by_cases hq0 : M2 = 0
            · have hz2 : ((M2 : Int) == 0) = true := by rw [hq0]; rfl
              have hdd : deadF true (M2 : Nat) = true := by unfold deadF; rw [hz2]; rfl
              have hG1l := hDT.Flt
              have hG2l := hXT.Flt
              obtain ⟨h4, h5⟩ := hDT.power
              clear hD1 hX1d hDq hXq
              go_wp2_with fail
              refine Calls.mono (dead_any k1 true (M2 : Nat) wT h4 h5) ?_
              rintro e wy ⟨rfl, rfl⟩
              rw [hdd]
              clear h4 h5
              go_wp2_with fail
              refine Calls.mono hDT.image ?_
              rintro e wu ⟨gu, cu, rfl, hru, hgu1, hgu2, hcu1, hcu2, hbu⟩
              have hXu := hXT.below hbu
              have hDu := hDT.below hbu
              have hBu := hBT.trans (hbu.mono hBT.size)
              have hSl : S2.length = 20 ∧ ∀ s ∈ S2, s.length = 64 := hDu.secs
              clear hDT hXT hBT hbu
              go_wp2_with fail
              refine Calls.mono hXu.image ?_
              rintro e wv ⟨gv, cv, rfl, hrv, hgv1, hgv2, hcv1, hcv2, hbv⟩
              have hXv := hXu.below hbv
              have hDv := hDu.below hbv
              have hBv := hBu.trans (hbv.mono hBu.size)
              have hru2 : wv.rangeAt gu 0 (secC S2) := fun i v hv => (hbv.cell (p := ⟨gu, 0 + i, none⟩) hgu2).trans (hru i v hv)
              clear hDu hXu hBu hbv hru
              go_wp2_with fail
              refine Calls.mono (same_yes gu gv 20 cu cv S2 wv hru2 hrv hSl.2 hSl.1 (by omega) hcu1 hcu2 hcv1 hcv2) ?_
              rintro e wx ⟨rfl, nd, rfl⟩
              have hDx := hDv.drewN nd
              have hXx := hXv.drewN nd
              have hBx : Below w.heap.size w (wv.drewN nd) := Below.dN hBv nd
              clear hDv hXv hBv
              go_wp2_with fail
              go_roundw
              case rel => exact ⟨j + 1, M2, G1, G2, S2, L2, W2, rfl, by go_num, by omega, by omega, hDx, hXx, by omega, hdis2, hG1, hG2, hBx⟩
              case measure => simp [intOf]; omega
            · have hz2 : ((M2 : Int) == 0) = false := by rw [beq_eq_false_iff_ne]; omega
              have hdd : deadF true (M2 : Nat) = false := by unfold deadF; rw [hz2]; rfl
              have hG1l := hDT.Flt
              have hG2l := hXT.Flt
              obtain ⟨h4, h5⟩ := hDT.power
              clear hD1 hX1d hDq hXq
              go_wp2_with fail
              refine Calls.mono (dead_any k1 true (M2 : Nat) wT h4 h5) ?_
              rintro e wy ⟨rfl, rfl⟩
              rw [hdd]
              clear h4 h5
              go_wp2_with fail
              refine Calls.mono hDT.image ?_
              rintro e wu ⟨gu, cu, rfl, hru, hgu1, hgu2, hcu1, hcu2, hbu⟩
              have hXu := hXT.below hbu
              have hDu := hDT.below hbu
              have hBu := hBT.trans (hbu.mono hBT.size)
              have hSl : S2.length = 20 ∧ ∀ s ∈ S2, s.length = 64 := hDu.secs
              clear hDT hXT hBT hbu
              go_wp2_with fail
              refine Calls.mono hXu.image ?_
              rintro e wv ⟨gv, cv, rfl, hrv, hgv1, hgv2, hcv1, hcv2, hbv⟩
              have hXv := hXu.below hbv
              have hDv := hDu.below hbv
              have hBv := hBu.trans (hbv.mono hBu.size)
              have hru2 : wv.rangeAt gu 0 (secC S2) := fun i v hv => (hbv.cell (p := ⟨gu, 0 + i, none⟩) hgu2).trans (hru i v hv)
              clear hDu hXu hBu hbv hru
              go_wp2_with fail
              refine Calls.mono (same_yes gu gv 20 cu cv S2 wv hru2 hrv hSl.2 hSl.1 (by omega) hcu1 hcu2 hcv1 hcv2) ?_
              rintro e wx ⟨rfl, nd, rfl⟩
              have hDx := hDv.drewN nd
              have hXx := hXv.drewN nd
              have hBx : Below w.heap.size w (wv.drewN nd) := Below.dN hBv nd
              clear hDv hXv hBv
              go_wp2_with fail
              go_roundw
              case rel => exact ⟨j + 1, M2, G1, G2, S2, L2, W2, rfl, by go_num, by omega, by omega, hDx, hXx, by omega, hdis2, hG1, hG2, hBx⟩
              case measure => simp [intOf]; omega
      · have e0 : (cw == 0) = false := by rw [beq_eq_false_iff_ne]; exact hw0
        have g := (show decide ((0 : Int) ≤ ap) = false ∨ (decide ((0 : Int) ≤ ap) = true ∧ decide (ap < 20) = false) ∨ (decide ((0 : Int) ≤ ap) = true ∧ decide (ap < 20) = true) by simp only [decide_eq_true_eq, decide_eq_false_iff_not]; omega)
        by_cases hw1 : cw = 1
        · have e1 : (cw == 1) = true := by rw [beq_iff_eq]; exact hw1
          rcases g with g1 | ⟨g1, g2⟩ | ⟨g1, g2⟩
          all_goals
            by_cases hM0 : M = 0
            · have hz : ((M : Int) == 0) = true := by rw [hM0]; rfl
              have hgt : decide ((0 : Int) < (M : Int)) = false := by simp; omega
              have hdead0 : deadF true (M : Nat) = true := by unfold deadF; rw [hz]; rfl
              go_wp2_with (first | (refine wpList_load_mid rfl _ _ rfl b (off + j * 68) rfl XL _ hwr Try.underlying32 rfl HXz.out ?_) | (change wpList _ _ _ _ _ (wq.alloc (.cells dcZ.toArray 32)); refine wpList_store_row rfl _ _ _ rfl wq.heap.size XL.toArray rfl rfl 32 dcZ.toArray (heap_alloc_new wq _) HXi.out HXs.out HX1.out ?_; obtain ⟨w1, hw1⟩ : ∃ x, x = (wq.alloc (.cells dcZ.toArray 32)).setRow wq.heap.size XL.toArray := ⟨_, rfl⟩; rw [← hw1]; obtain ⟨hX1, hb1⟩ := alloc_row wq 32 dcZ.toArray XL; rw [← hw1] at hX1 hb1; clear hw1; have hc1 : w1.cell? ⟨wq.heap.size, 1, none⟩ = some (.int .i64 ap) := (by rw [hX1.cell]; exact hat); have hcw : w1.cell? ⟨wq.heap.size, 0, none⟩ = some (.int .i64 cw) := (by rw [hX1.cell]; exact hwhat); have hsr : w1.rangeAt wq.heap.size 3 SL := fun i v hv => (by rw [hX1.cell]; exact hmid i v hv)) | (refine wpList_load_mid rfl _ _ rfl wq.heap.size 3 rfl SL _ hsr Try.underlying30 rfl HSz.out ?_))
              have hD1 := hDq.below hb1
              have hX1d := hXq.below hb1
              have hB1 := hBq.trans (hb1.mono hBq.size)
              have hx1 := hX1.lt
              have hgx : ¬ F1 wq.heap.size := fun e => Nat.lt_irrefl _ (hDq.Flt _ e)
              clear hb1 hX1 hwr hmid hat hwhat
              refine Calls.mono (sync_dead F1 k1 20 S L W true (M : Nat) w1 hD1 hdead0) ?_
              rintro e w2 ⟨rfl, rfl⟩
              have hz2 := hz
              obtain ⟨M2, hM2⟩ : ∃ x, x = M := ⟨_, rfl⟩
              subst hM2
              obtain ⟨G1, hG1e⟩ : ∃ G, G = F1 := ⟨_, rfl⟩
              subst hG1e
              obtain ⟨G2, hG2e⟩ : ∃ G, G = F2 := ⟨_, rfl⟩
              subst hG2e
              have hdis2 := hdis
              have hG1 := hF1
              have hG2 := hF2
              obtain ⟨S2, hS2⟩ : ∃ x, x = S := ⟨_, rfl⟩
              subst hS2
              obtain ⟨L2, hL2⟩ : ∃ x, x = L := ⟨_, rfl⟩
              subst hL2
              obtain ⟨W2, hW2⟩ : ∃ x, x = W := ⟨_, rfl⟩
              subst hW2
              have hWl2 : W2.length ≤ j + 1 := by omega
              obtain ⟨wT, hwT⟩ : ∃ x, x = w2 := ⟨_, rfl⟩
              have hDT := hD1
              have hXT := hX1d
              have hBT := hB1
              rw [← hwT] at hDT hXT hBT ⊢
              clear hwT
              have hdd : deadF true (M2 : Nat) = true := by unfold deadF; rw [hz2]; rfl
              have hG1l := hDT.Flt
              have hG2l := hXT.Flt
              obtain ⟨h4, h5⟩ := hDT.power
              clear hD1 hX1d hDq hXq
              go_wp2_with fail
              refine Calls.mono (dead_any k1 true (M2 : Nat) wT h4 h5) ?_
              rintro e wy ⟨rfl, rfl⟩
              rw [hdd]
              clear h4 h5
              go_wp2_with fail
              refine Calls.mono hDT.image ?_
              rintro e wu ⟨gu, cu, rfl, hru, hgu1, hgu2, hcu1, hcu2, hbu⟩
              have hXu := hXT.below hbu
              have hDu := hDT.below hbu
              have hBu := hBT.trans (hbu.mono hBT.size)
              have hSl : S2.length = 20 ∧ ∀ s ∈ S2, s.length = 64 := hDu.secs
              clear hDT hXT hBT hbu
              go_wp2_with fail
              refine Calls.mono hXu.image ?_
              rintro e wv ⟨gv, cv, rfl, hrv, hgv1, hgv2, hcv1, hcv2, hbv⟩
              have hXv := hXu.below hbv
              have hDv := hDu.below hbv
              have hBv := hBu.trans (hbv.mono hBu.size)
              have hru2 : wv.rangeAt gu 0 (secC S2) := fun i v hv => (hbv.cell (p := ⟨gu, 0 + i, none⟩) hgu2).trans (hru i v hv)
              clear hDu hXu hBu hbv hru
              go_wp2_with fail
              refine Calls.mono (same_yes gu gv 20 cu cv S2 wv hru2 hrv hSl.2 hSl.1 (by omega) hcu1 hcu2 hcv1 hcv2) ?_
              rintro e wx ⟨rfl, nd, rfl⟩
              have hDx := hDv.drewN nd
              have hXx := hXv.drewN nd
              have hBx : Below w.heap.size w (wv.drewN nd) := Below.dN hBv nd
              clear hDv hXv hBv
              go_wp2_with fail
              go_roundw
              case rel => exact ⟨j + 1, M2, G1, G2, S2, L2, W2, rfl, by go_num, by omega, by omega, hDx, hXx, by omega, hdis2, hG1, hG2, hBx⟩
              case measure => simp [intOf]; omega
            · have hz : ((M : Int) == 0) = false := by rw [beq_eq_false_iff_ne]; omega
              have hgt : decide ((0 : Int) < (M : Int)) = true := by simp; omega
              have hlive : deadF true (M : Nat) = false := by unfold deadF; rw [hz]; rfl
              obtain ⟨q, hq⟩ : ∃ q, M - 1 = q := ⟨_, rfl⟩
              have hqI : (M : Int) - 1 = (q : Int) := by omega
              have hsp : spentF true (M : Nat) = (q : Nat) := hqI
              go_wp2_with (first | (refine wpList_load_mid rfl _ _ rfl b (off + j * 68) rfl XL _ hwr Try.underlying32 rfl HXz.out ?_) | (change wpList _ _ _ _ _ (wq.alloc (.cells dcZ.toArray 32)); refine wpList_store_row rfl _ _ _ rfl wq.heap.size XL.toArray rfl rfl 32 dcZ.toArray (heap_alloc_new wq _) HXi.out HXs.out HX1.out ?_; obtain ⟨w1, hw1⟩ : ∃ x, x = (wq.alloc (.cells dcZ.toArray 32)).setRow wq.heap.size XL.toArray := ⟨_, rfl⟩; rw [← hw1]; obtain ⟨hX1, hb1⟩ := alloc_row wq 32 dcZ.toArray XL; rw [← hw1] at hX1 hb1; clear hw1; have hc1 : w1.cell? ⟨wq.heap.size, 1, none⟩ = some (.int .i64 ap) := (by rw [hX1.cell]; exact hat); have hcw : w1.cell? ⟨wq.heap.size, 0, none⟩ = some (.int .i64 cw) := (by rw [hX1.cell]; exact hwhat); have hsr : w1.rangeAt wq.heap.size 3 SL := fun i v hv => (by rw [hX1.cell]; exact hmid i v hv)) | (refine wpList_load_mid rfl _ _ rfl wq.heap.size 3 rfl SL _ hsr Try.underlying30 rfl HSz.out ?_))
              have hD1 := hDq.below hb1
              have hX1d := hXq.below hb1
              have hB1 := hBq.trans (hb1.mono hBq.size)
              have hx1 := hX1.lt
              have hgx : ¬ F1 wq.heap.size := fun e => Nat.lt_irrefl _ (hDq.Flt _ e)
              clear hb1 hX1 hwr hmid hat hwhat
              refine Calls.mono (sync_live F1 k1 20 S L W true (M : Nat) w1 hD1 hlive) ?_
              rintro e w2 ⟨rfl, hD2, hO2⟩
              have hB2 := Only.up hB1 hO2 hF1 (Nat.le_refl _)
              have hs2 := hO2.size
              have hX2 := hX1d.kept hs2 (fun b hb => hO2.block b (hX1d.Flt b hb) (hdis b hb))
              have hdis1 : ∀ b, F2 b → ¬ newF F1 w1 w2 b := fun b hb h => h.elim (hdis b hb) (fun h => by have := hX1d.Flt b hb; omega)
              have hF1' : ∀ b, newF F1 w1 w2 b → w.heap.size ≤ b := fun b h => h.elim (hF1 b) (fun h => Nat.le_trans hB1.size h.1)
              obtain ⟨G1, hG1e⟩ : ∃ G, G = newF F1 w1 w2 := ⟨_, rfl⟩
              rw [← hG1e] at hD2 hdis1 hF1'
              have hG1 := hF1'
              rw [hsp] at hD2
              clear hc1 hsr
              go_wp2_with fail
              refine Calls.mono (sync_live F2 k2 20 S L W false 0 w2 hX2 rfl) ?_
              rintro e w3 ⟨rfl, hX3, hO3⟩
              have hB3 := Only.up hB2 hO3 hF2 (Nat.le_refl _)
              have hs3 := hO3.size
              have hD3 := hD2.kept hs3 (fun b hb => hO3.block b (hD2.Flt b hb) (fun h => hdis1 b h hb))
              have hdis2 : ∀ b, newF F2 w2 w3 b → ¬ G1 b := fun b hb h => hb.elim (fun hb => hdis1 b hb h) (fun hb => by have := hD2.Flt b h; omega)
              have hG2 : ∀ b, newF F2 w2 w3 b → w.heap.size ≤ b := fun b h => h.elim (hF2 b) (fun h => Nat.le_trans hB2.size h.1)
              obtain ⟨G2, hG2e⟩ : ∃ G, G = newF F2 w2 w3 := ⟨_, rfl⟩
              rw [← hG2e] at hX3 hdis2 hG2
              obtain ⟨M2, hM2⟩ : ∃ x, x = q := ⟨_, rfl⟩
              subst hM2
              obtain ⟨L2, hL2⟩ : ∃ x, x = lstF (fun _ => 64) W L W.length := ⟨_, rfl⟩
              obtain ⟨S2, hS2⟩ : ∃ x, x = seenF W S (lstF (fun _ => 64) W L W.length) := ⟨_, rfl⟩
              obtain ⟨W2, hW2⟩ : ∃ x, x = ([] : List WrF) := ⟨_, rfl⟩
              have hWl2 : W2.length ≤ j + 1 := by rw [hW2]; simp
              rw [← hS2, ← hL2, ← hW2] at hD3
              have hX3' : Disk w3 G2 k2 20 S2 L2 W2 false 0 := by rw [hS2, hL2, hW2]; exact hX3
              clear hX3 hD2 hX2 hO2 hO3 hG1e hG2e hS2 hL2 hW2 hdis1 hF1'
              obtain ⟨wT, hwT⟩ : ∃ x, x = w3 := ⟨_, rfl⟩
              have hDT := hD3
              have hXT := hX3'
              have hBT := hB3
              rw [← hwT] at hDT hXT hBT ⊢
              clear hwT
              by_cases hq0 : M2 = 0
              · have hz2 : ((M2 : Int) == 0) = true := by rw [hq0]; rfl
                have hdd : deadF true (M2 : Nat) = true := by unfold deadF; rw [hz2]; rfl
                have hG1l := hDT.Flt
                have hG2l := hXT.Flt
                obtain ⟨h4, h5⟩ := hDT.power
                clear hD1 hX1d hDq hXq
                go_wp2_with fail
                refine Calls.mono (dead_any k1 true (M2 : Nat) wT h4 h5) ?_
                rintro e wy ⟨rfl, rfl⟩
                rw [hdd]
                clear h4 h5
                go_wp2_with fail
                refine Calls.mono hDT.image ?_
                rintro e wu ⟨gu, cu, rfl, hru, hgu1, hgu2, hcu1, hcu2, hbu⟩
                have hXu := hXT.below hbu
                have hDu := hDT.below hbu
                have hBu := hBT.trans (hbu.mono hBT.size)
                have hSl : S2.length = 20 ∧ ∀ s ∈ S2, s.length = 64 := hDu.secs
                clear hDT hXT hBT hbu
                go_wp2_with fail
                refine Calls.mono hXu.image ?_
                rintro e wv ⟨gv, cv, rfl, hrv, hgv1, hgv2, hcv1, hcv2, hbv⟩
                have hXv := hXu.below hbv
                have hDv := hDu.below hbv
                have hBv := hBu.trans (hbv.mono hBu.size)
                have hru2 : wv.rangeAt gu 0 (secC S2) := fun i v hv => (hbv.cell (p := ⟨gu, 0 + i, none⟩) hgu2).trans (hru i v hv)
                clear hDu hXu hBu hbv hru
                go_wp2_with fail
                refine Calls.mono (same_yes gu gv 20 cu cv S2 wv hru2 hrv hSl.2 hSl.1 (by omega) hcu1 hcu2 hcv1 hcv2) ?_
                rintro e wx ⟨rfl, nd, rfl⟩
                have hDx := hDv.drewN nd
                have hXx := hXv.drewN nd
                have hBx : Below w.heap.size w (wv.drewN nd) := Below.dN hBv nd
                clear hDv hXv hBv
                go_wp2_with fail
                go_roundw
                case rel => exact ⟨j + 1, M2, G1, G2, S2, L2, W2, rfl, by go_num, by omega, by omega, hDx, hXx, by omega, hdis2, hG1, hG2, hBx⟩
                case measure => simp [intOf]; omega
              · have hz2 : ((M2 : Int) == 0) = false := by rw [beq_eq_false_iff_ne]; omega
                have hdd : deadF true (M2 : Nat) = false := by unfold deadF; rw [hz2]; rfl
                have hG1l := hDT.Flt
                have hG2l := hXT.Flt
                obtain ⟨h4, h5⟩ := hDT.power
                clear hD1 hX1d hDq hXq
                go_wp2_with fail
                refine Calls.mono (dead_any k1 true (M2 : Nat) wT h4 h5) ?_
                rintro e wy ⟨rfl, rfl⟩
                rw [hdd]
                clear h4 h5
                go_wp2_with fail
                refine Calls.mono hDT.image ?_
                rintro e wu ⟨gu, cu, rfl, hru, hgu1, hgu2, hcu1, hcu2, hbu⟩
                have hXu := hXT.below hbu
                have hDu := hDT.below hbu
                have hBu := hBT.trans (hbu.mono hBT.size)
                have hSl : S2.length = 20 ∧ ∀ s ∈ S2, s.length = 64 := hDu.secs
                clear hDT hXT hBT hbu
                go_wp2_with fail
                refine Calls.mono hXu.image ?_
                rintro e wv ⟨gv, cv, rfl, hrv, hgv1, hgv2, hcv1, hcv2, hbv⟩
                have hXv := hXu.below hbv
                have hDv := hDu.below hbv
                have hBv := hBu.trans (hbv.mono hBu.size)
                have hru2 : wv.rangeAt gu 0 (secC S2) := fun i v hv => (hbv.cell (p := ⟨gu, 0 + i, none⟩) hgu2).trans (hru i v hv)
                clear hDu hXu hBu hbv hru
                go_wp2_with fail
                refine Calls.mono (same_yes gu gv 20 cu cv S2 wv hru2 hrv hSl.2 hSl.1 (by omega) hcu1 hcu2 hcv1 hcv2) ?_
                rintro e wx ⟨rfl, nd, rfl⟩
                have hDx := hDv.drewN nd
                have hXx := hXv.drewN nd
                have hBx : Below w.heap.size w (wv.drewN nd) := Below.dN hBv nd
                clear hDv hXv hBv
                go_wp2_with fail
                go_roundw
                case rel => exact ⟨j + 1, M2, G1, G2, S2, L2, W2, rfl, by go_num, by omega, by omega, hDx, hXx, by omega, hdis2, hG1, hG2, hBx⟩
                case measure => simp [intOf]; omega
        · have e1 : (cw == 1) = false := by rw [beq_eq_false_iff_ne]; exact hw1
          rcases g with g1 | ⟨g1, g2⟩ | ⟨g1, g2⟩
          all_goals
            by_cases hM0 : M = 0
            · have hz : ((M : Int) == 0) = true := by rw [hM0]; rfl
              have hgt : decide ((0 : Int) < (M : Int)) = false := by simp; omega
              go_wp2_with (first | (refine wpList_load_mid rfl _ _ rfl b (off + j * 68) rfl XL _ hwr Try.underlying32 rfl HXz.out ?_) | (change wpList _ _ _ _ _ (wq.alloc (.cells dcZ.toArray 32)); refine wpList_store_row rfl _ _ _ rfl wq.heap.size XL.toArray rfl rfl 32 dcZ.toArray (heap_alloc_new wq _) HXi.out HXs.out HX1.out ?_; obtain ⟨w1, hw1⟩ : ∃ x, x = (wq.alloc (.cells dcZ.toArray 32)).setRow wq.heap.size XL.toArray := ⟨_, rfl⟩; rw [← hw1]; obtain ⟨hX1, hb1⟩ := alloc_row wq 32 dcZ.toArray XL; rw [← hw1] at hX1 hb1; clear hw1; have hc1 : w1.cell? ⟨wq.heap.size, 1, none⟩ = some (.int .i64 ap) := (by rw [hX1.cell]; exact hat); have hcw : w1.cell? ⟨wq.heap.size, 0, none⟩ = some (.int .i64 cw) := (by rw [hX1.cell]; exact hwhat); have hsr : w1.rangeAt wq.heap.size 3 SL := fun i v hv => (by rw [hX1.cell]; exact hmid i v hv)) | (refine wpList_load_mid rfl _ _ rfl wq.heap.size 3 rfl SL _ hsr Try.underlying30 rfl HSz.out ?_))
              have hD1 := hDq.below hb1
              have hX1d := hXq.below hb1
              have hB1 := hBq.trans (hb1.mono hBq.size)
              have hx1 := hX1.lt
              have hgx : ¬ F1 wq.heap.size := fun e => Nat.lt_irrefl _ (hDq.Flt _ e)
              clear hb1 hX1 hwr hmid hat hwhat
              have hz2 := hz
              obtain ⟨M2, hM2⟩ : ∃ x, x = M := ⟨_, rfl⟩
              subst hM2
              obtain ⟨G1, hG1e⟩ : ∃ G, G = F1 := ⟨_, rfl⟩
              subst hG1e
              obtain ⟨G2, hG2e⟩ : ∃ G, G = F2 := ⟨_, rfl⟩
              subst hG2e
              have hdis2 := hdis
              have hG1 := hF1
              have hG2 := hF2
              obtain ⟨S2, hS2⟩ : ∃ x, x = S := ⟨_, rfl⟩
              subst hS2
              obtain ⟨L2, hL2⟩ : ∃ x, x = L := ⟨_, rfl⟩
              subst hL2
              obtain ⟨W2, hW2⟩ : ∃ x, x = W := ⟨_, rfl⟩
              subst hW2
              have hWl2 : W2.length ≤ j + 1 := by omega
              obtain ⟨wT, hwT⟩ : ∃ x, x = w1 := ⟨_, rfl⟩
              have hDT := hD1
              have hXT := hX1d
              have hBT := hB1
              rw [← hwT] at hDT hXT hBT ⊢
              clear hwT
              have hdd : deadF true (M2 : Nat) = true := by unfold deadF; rw [hz2]; rfl
              have hG1l := hDT.Flt
              have hG2l := hXT.Flt
              obtain ⟨h4, h5⟩ := hDT.power
              clear hD1 hX1d hDq hXq
              go_wp2_with fail
              refine Calls.mono (dead_any k1 true (M2 : Nat) wT h4 h5) ?_
              rintro e wy ⟨rfl, rfl⟩
              rw [hdd]
              clear h4 h5
              go_wp2_with fail
              refine Calls.mono hDT.image ?_
              rintro e wu ⟨gu, cu, rfl, hru, hgu1, hgu2, hcu1, hcu2, hbu⟩
              have hXu := hXT.below hbu
              have hDu := hDT.below hbu
              have hBu := hBT.trans (hbu.mono hBT.size)
              have hSl : S2.length = 20 ∧ ∀ s ∈ S2, s.length = 64 := hDu.secs
              clear hDT hXT hBT hbu
              go_wp2_with fail
              refine Calls.mono hXu.image ?_
              rintro e wv ⟨gv, cv, rfl, hrv, hgv1, hgv2, hcv1, hcv2, hbv⟩
              have hXv := hXu.below hbv
              have hDv := hDu.below hbv
              have hBv := hBu.trans (hbv.mono hBu.size)
              have hru2 : wv.rangeAt gu 0 (secC S2) := fun i v hv => (hbv.cell (p := ⟨gu, 0 + i, none⟩) hgu2).trans (hru i v hv)
              clear hDu hXu hBu hbv hru
              go_wp2_with fail
              refine Calls.mono (same_yes gu gv 20 cu cv S2 wv hru2 hrv hSl.2 hSl.1 (by omega) hcu1 hcu2 hcv1 hcv2) ?_
              rintro e wx ⟨rfl, nd, rfl⟩
              have hDx := hDv.drewN nd
              have hXx := hXv.drewN nd
              have hBx : Below w.heap.size w (wv.drewN nd) := Below.dN hBv nd
              clear hDv hXv hBv
              go_wp2_with fail
              go_roundw
              case rel => exact ⟨j + 1, M2, G1, G2, S2, L2, W2, rfl, by go_num, by omega, by omega, hDx, hXx, by omega, hdis2, hG1, hG2, hBx⟩
              case measure => simp [intOf]; omega
            · have hz : ((M : Int) == 0) = false := by rw [beq_eq_false_iff_ne]; omega
              have hgt : decide ((0 : Int) < (M : Int)) = true := by simp; omega
              go_wp2_with (first | (refine wpList_load_mid rfl _ _ rfl b (off + j * 68) rfl XL _ hwr Try.underlying32 rfl HXz.out ?_) | (change wpList _ _ _ _ _ (wq.alloc (.cells dcZ.toArray 32)); refine wpList_store_row rfl _ _ _ rfl wq.heap.size XL.toArray rfl rfl 32 dcZ.toArray (heap_alloc_new wq _) HXi.out HXs.out HX1.out ?_; obtain ⟨w1, hw1⟩ : ∃ x, x = (wq.alloc (.cells dcZ.toArray 32)).setRow wq.heap.size XL.toArray := ⟨_, rfl⟩; rw [← hw1]; obtain ⟨hX1, hb1⟩ := alloc_row wq 32 dcZ.toArray XL; rw [← hw1] at hX1 hb1; clear hw1; have hc1 : w1.cell? ⟨wq.heap.size, 1, none⟩ = some (.int .i64 ap) := (by rw [hX1.cell]; exact hat); have hcw : w1.cell? ⟨wq.heap.size, 0, none⟩ = some (.int .i64 cw) := (by rw [hX1.cell]; exact hwhat); have hsr : w1.rangeAt wq.heap.size 3 SL := fun i v hv => (by rw [hX1.cell]; exact hmid i v hv)) | (refine wpList_load_mid rfl _ _ rfl wq.heap.size 3 rfl SL _ hsr Try.underlying30 rfl HSz.out ?_))
              have hD1 := hDq.below hb1
              have hX1d := hXq.below hb1
              have hB1 := hBq.trans (hb1.mono hBq.size)
              have hx1 := hX1.lt
              have hgx : ¬ F1 wq.heap.size := fun e => Nat.lt_irrefl _ (hDq.Flt _ e)
              clear hb1 hX1 hwr hmid hat hwhat
              have hz2 := hz
              obtain ⟨M2, hM2⟩ : ∃ x, x = M := ⟨_, rfl⟩
              subst hM2
              obtain ⟨G1, hG1e⟩ : ∃ G, G = F1 := ⟨_, rfl⟩
              subst hG1e
              obtain ⟨G2, hG2e⟩ : ∃ G, G = F2 := ⟨_, rfl⟩
              subst hG2e
              have hdis2 := hdis
              have hG1 := hF1
              have hG2 := hF2
              obtain ⟨S2, hS2⟩ : ∃ x, x = S := ⟨_, rfl⟩
              subst hS2
              obtain ⟨L2, hL2⟩ : ∃ x, x = L := ⟨_, rfl⟩
              subst hL2
              obtain ⟨W2, hW2⟩ : ∃ x, x = W := ⟨_, rfl⟩
              subst hW2
              have hWl2 : W2.length ≤ j + 1 := by omega
              obtain ⟨wT, hwT⟩ : ∃ x, x = w1 := ⟨_, rfl⟩
              have hDT := hD1
              have hXT := hX1d
              have hBT := hB1
              rw [← hwT] at hDT hXT hBT ⊢
              clear hwT
              have hdd : deadF true (M2 : Nat) = false := by unfold deadF; rw [hz2]; rfl
              have hG1l := hDT.Flt
              have hG2l := hXT.Flt
              obtain ⟨h4, h5⟩ := hDT.power
              clear hD1 hX1d hDq hXq
              go_wp2_with fail
              refine Calls.mono (dead_any k1 true (M2 : Nat) wT h4 h5) ?_
              rintro e wy ⟨rfl, rfl⟩
              rw [hdd]
              clear h4 h5
              go_wp2_with fail
              refine Calls.mono hDT.image ?_
              rintro e wu ⟨gu, cu, rfl, hru, hgu1, hgu2, hcu1, hcu2, hbu⟩
              have hXu := hXT.below hbu
              have hDu := hDT.below hbu
              have hBu := hBT.trans (hbu.mono hBT.size)
              have hSl : S2.length = 20 ∧ ∀ s ∈ S2, s.length = 64 := hDu.secs
              clear hDT hXT hBT hbu
              go_wp2_with fail
              refine Calls.mono hXu.image ?_
              rintro e wv ⟨gv, cv, rfl, hrv, hgv1, hgv2, hcv1, hcv2, hbv⟩
              have hXv := hXu.below hbv
              have hDv := hDu.below hbv
              have hBv := hBu.trans (hbv.mono hBu.size)
              have hru2 : wv.rangeAt gu 0 (secC S2) := fun i v hv => (hbv.cell (p := ⟨gu, 0 + i, none⟩) hgu2).trans (hru i v hv)
              clear hDu hXu hBu hbv hru
              go_wp2_with fail
              refine Calls.mono (same_yes gu gv 20 cu cv S2 wv hru2 hrv hSl.2 hSl.1 (by omega) hcu1 hcu2 hcv1 hcv2) ?_
              rintro e wx ⟨rfl, nd, rfl⟩
              have hDx := hDv.drewN nd
              have hXx := hXv.drewN nd
              have hBx : Below w.heap.size w (wv.drewN nd) := Below.dN hBv nd
              clear hDv hXv hBv
              go_wp2_with fail
              go_roundw
              case rel => exact ⟨j + 1, M2, G1, G2, S2, L2, W2, rfl, by go_num, by omega, by omega, hDx, hXx, by omega, hdis2, hG1, hG2, hBx⟩
              case measure => simp [intOf]; omega
    · have hjn2 : ¬ (j : Int) < (n1 : Int) := by omega
      go_wp2_with fail
      refine Calls.mono (crash_any F1 k1 20 S L W true (M : Nat) wq hDq [] none 0 0 (fun h => absurd h (by simp)) (Bs.nil _ _ _) rfl (by omega)) ?_
      rintro e w5 ⟨rfl, hD5, hO5⟩
      have hs5 := hO5.size
      have hX5 := hXq.kept hs5 (fun b hb => hO5.block b (hXq.Flt b hb) (hdis b hb))
      have hB5 := Only.up hBq hO5 hF1 (Nat.le_refl _)
      have hdis5 : ∀ b, F2 b → ¬ newF F1 wq w5 b := fun b hb h => h.elim (hdis b hb) (fun h => by have := hXq.Flt b hb; omega)
      clear hDq hXq hBq hO5 hdis
      go_wp2_with fail
      refine Calls.mono (crash_any F2 k2 20 S L W false 0 w5 hX5 [] none 0 0 (fun h => absurd h (by simp)) (Bs.nil _ _ _) rfl (by omega)) ?_
      rintro e w6 ⟨rfl, hX6, hO6⟩
      have hD6 := hD5.kept hO6.size (fun b hb => hO6.block b (hD5.Flt b hb) (fun h => hdis5 b h hb))
      have hB6 := Only.up hB5 hO6 hF2 (Nat.le_refl _)
      obtain ⟨S2, hS2⟩ : ∃ l, l = seenF W S (lstF (keptF []) W L W.length) := ⟨_, rfl⟩
      obtain ⟨h4, h5⟩ := hD6.power
      rw [← hS2] at hD6 hX6
      have hSl := hD6.secs
      clear hD5 hX5 hB5 hO6 hdis5 hS2
      go_wp2_with fail
      refine Calls.mono (dead_any k1 false (M : Nat) w6 h4 h5) ?_
      rintro e wy ⟨rfl, rfl⟩
      rw [show deadF false (M : Nat) = false from rfl]
      clear h4 h5
      go_wp2_with fail
      refine Calls.mono hD6.image ?_
      rintro e wu ⟨gu, cu, rfl, hru, hgu1, hgu2, hcu1, hcu2, hbu⟩
      have hXu := hX6.below hbu
      have hBu := hB6.trans (hbu.mono hB6.size)
      clear hD6 hX6 hB6 hbu
      go_wp2_with fail
      refine Calls.mono hXu.image ?_
      rintro e wv ⟨gv, cv, rfl, hrv, hgv1, hgv2, hcv1, hcv2, hbv⟩
      have hBv := hBu.trans (hbv.mono hBu.size)
      have hru2 : wv.rangeAt gu 0 (secC S2) := fun i v hv => (hbv.cell (p := ⟨gu, 0 + i, none⟩) hgu2).trans (hru i v hv)
      clear hXu hBu hbv hru
      go_wp2_with fail
      refine Calls.mono (same_yes gu gv 20 cu cv S2 wv hru2 hrv hSl.2 hSl.1 (by omega) hcu1 hcu2 hcv1 hcv2) ?_
      rintro e wx ⟨rfl, nd, rfl⟩
      go_wp2_with fail
      go_ret
      exact ⟨rfl, Below.dN hBv nd⟩

theorem diskFuse_walk (A1 : Option Addr) (n1 c1 : Nat) (f1 : Nat → DCl) (_ : 0 = 0) (hn1 : n1 ≤ c1) (hm1 : c1 ≤ maxLen) (z : Int) (hz1 : -9223372036854775808 ≤ z) (hz2 : z ≤ 9223372036854775807) (w : World) (hf1 : DClsAt w w.heap.size A1 n1 f1) :
    Calls Try.prog 4 #[.slice A1 n1 c1, .int .i64 z] w fun e w' => e = .returned (.bool true) ∧ Below w.heap.size w w' := by
  unfold maxLen at hm1
  by_cases h : 60 < n1
  · exact dfuse_great A1 n1 c1 z w h
  · exact dfuse_in A1 n1 c1 f1 hn1 (by omega) z w hf1 (by omega)

end Go.Proofs.Ytkpgbgiamekhaac

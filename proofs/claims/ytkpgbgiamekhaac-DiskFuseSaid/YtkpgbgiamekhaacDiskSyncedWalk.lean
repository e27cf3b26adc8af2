/-
  The walk of DiskSynced.
-/
import Derived.Test.YtkpgbgiamekhaacDiskSpeaks
import Derived.Test.YtkpgbgiamekhaacDCallsArg
import Derived.Maps.OwnSet
import Derived.Maps.OwnOps
namespace Go.Proofs.Ytkpgbgiamekhaac
open Go.RowKit
set_option linter.unusedVariables false
set_option linter.unusedSimpArgs false

theorem dcSize : (Try.prog.info? 32).map (·.size) = some 68 := by kernel_rfl
def dcZ : List Value := .int .i64 0 :: .int .i64 0 :: .int .i64 0 :: (Lib.byteCells zero64 ++ [.slice none 0 0])

/-- Truth values as a map's elements. -/
def boolElem (v : Value) : Option (DataW Unit × List MemPlace) := match v with | .bool b => some (.lit (.bool b), []) | _ => none
theorem boolElem_inv {v : Value} {d : DataW Unit} {ps : List MemPlace} (h : boolElem v = some (d, ps)) : ∃ b, v = .bool b ∧ d = .lit (.bool b) := by
  unfold boolElem at h
  split at h
  · injection h with h; injection h with h1 h2; exact ⟨_, rfl, h1.symm⟩
  · cases h
/-- Where nothing was written since the image, it stands; where something was, it is marked. -/
def Tied (S1 S : List (List UInt8)) (W : List WrF) (T : DataW Unit) : Prop := (∀ i, (∀ x ∈ W, x.1 ≠ i) → S.getD i [] = S1.getD i []) ∧ ∀ x ∈ W, T.atKey (.int .i64 (x.1 : Nat)) (.lit (.bool false)) = .lit (.bool true)
theorem Tied.start (S1 : List (List UInt8)) : Tied S1 S1 [] (.map []) := ⟨fun _ _ => rfl, by simp⟩
theorem Tied.step {S1 S : List (List UInt8)} {W : List WrF} {T : DataW Unit} {a : Nat} {s : List UInt8} (h : Tied S1 S W T) (hT : Go.Maps.IsMap T) (hk : WideAt.IsKeyLit (.int .i64 (a : Nat))) : Tied S1 (S.set a s) (W ++ [(a, s, false)]) (T.put (.int .i64 (a : Nat)) (.lit (.bool true))) := by
  refine ⟨fun i hi => ?_, fun x hx => ?_⟩
  · have hne : a ≠ i := hi (a, s, false) (by simp)
    rw [← h.1 i (fun x hx => hi x (by simp [hx]))]
    simp only [List.getD]
    rw [List.getElem?_set_ne hne]
  · by_cases e : (Lit.int .i64 (x.1 : Nat)) = .int .i64 (a : Nat)
    · rw [e]; exact Go.Maps.atKey_put_same hT hk _ _
    · rw [Go.Maps.atKey_put_other e]
      rcases List.mem_append.1 hx with hx | hx
      · exact h.2 x hx
      · rw [List.mem_singleton] at hx; rw [hx] at e; exact absurd rfl e
theorem World.grownBy_of_below {w w' : World} (h : Below w.heap.size w w') : w.grownBy w' none := ⟨h.os, h.tape, h.output, h.size, fun k hk _ => h.block k hk⟩
theorem seenF_nil (S L : List (List UInt8)) : seenF [] S L = S := secs_ext (seenF_length _ _ _) fun i hi => by
  rw [seenF_at (by rw [← seenF_length [] S L]; exact hi)]
  rfl
theorem ownsMap_only {w w' : World} {P : Program} {k : TypeId} {R : Value → Option (DataW Unit × List MemPlace)} {b n : Nat} {D : DataW Unit} (h : w.ownsMap P k R b n D) {F : Nat → Prop} (hO : Only F w w') (hb : ¬ F b) : w'.ownsMap P k R b n D := by
  have hlt := h.lt
  obtain ⟨es, clock, he, Ft, hs, hD⟩ := h
  exact ⟨es, clock, (hO.block b hlt hb).trans he, Ft, hs, hD⟩

set_option maxHeartbeats 4000000 in
set_option maxRecDepth 100000 in
theorem dsynced_great (A1 : Option Addr) (n1 c1 : Nat) (A2 : Option Addr) (n2 c2 : Nat) (A3 : Option Addr) (n3 c3 : Nat) (w : World) (h : 60 < n1 ∨ 60 < n2) :
    Calls Try.prog 3 #[.slice A1 n1 c1, .slice A2 n2 c2, .slice A3 n3 c3] w fun e w' => e = .returned (.bool true) ∧ Below w.heap.size w w' := by
  have hd : decide ((60 : Int) < (n1 : Int)) = true ∨ (decide ((60 : Int) < (n1 : Int)) = false ∧ decide ((60 : Int) < (n2 : Int)) = true) := by
    simp only [decide_eq_true_eq, decide_eq_false_iff_not]
    omega
  clear h
  rcases hd with h1 | ⟨h1, h2⟩
  all_goals
    go_enter Try.func3, Try.ntmps3
    go_wp2_with fail
    refine Calls.mono (dspeaks_true w) ?_
    rintro e w1 ⟨rfl, hb1⟩
    go_wp2_with fail
    go_ret
    exact ⟨rfl, hb1⟩

set_option maxHeartbeats 40000000 in
set_option maxRecDepth 100000 in
theorem dsynced_in (A1 : Option Addr) (n1 c1 : Nat) (f1 : Nat → DCl) (hn1 : n1 ≤ c1) (hm1 : c1 ≤ 9223372036854775807) (A2 : Option Addr) (n2 c2 : Nat) (f2 : Nat → DCl) (hn2 : n2 ≤ c2) (hm2 : c2 ≤ 9223372036854775807) (A3 : Option Addr) (n3 c3 : Nat) (picks : List UInt8) (hp3 : picks.length = n3) (hn3 : n3 ≤ c3) (hm3 : c3 ≤ 9223372036854775807)
    (w : World) (hf1 : DClsAt w w.heap.size A1 n1 f1) (hf2 : DClsAt w w.heap.size A2 n2 f2) (hbs : Bs w w.heap.size A3 picks) (h1 : n1 ≤ 60) (h2 : n2 ≤ 60) :
    Calls Try.prog 3 #[.slice A1 n1 c1, .slice A2 n2 c2, .slice A3 n3 c3] w fun e w' => e = .returned (.bool true) ∧ Below w.heap.size w w' := by
  have hd1 : decide ((60 : Int) < (n1 : Int)) = false := by simp; omega
  have hd2 : decide ((60 : Int) < (n2 : Int)) = false := by simp; omega
  have hzv : ∀ w, (zeroValue 32).run Try.prog w = .ok (.agg dcZ.toArray) w := fun w => by kernel_rfl
  obtain ⟨L0, hL0⟩ : ∃ l, l = List.replicate 20 zero64 := ⟨_, rfl⟩
  go_enter Try.func3, Try.ntmps3
  go_wp2_with fail
  refine Calls.mono (dspeaks_true w) ?_
  rintro e w1 ⟨rfl, hB1⟩
  go_wp2_with fail
  refine Calls.mono (show Calls Try.prog 10 #[.int .i64 20] w1 (NewPost 20 w1) from new_yes 20 w1 (by omega) (by omega)) ?_
  rintro e w2 ⟨k, rfl, hD2, hb2⟩
  rw [← hL0] at hD2
  clear hL0
  have hB2 := hB1.trans (hb2.mono hB1.size)
  have hF2 : ∀ b, newF (fun _ => False) w1 w2 b → w.heap.size ≤ b := fun b h => h.elim (fun h => h.elim) (fun h => Nat.le_trans hB1.size h.1)
  clear hb2 hB1
  go_wp2_with fail
  clear hd1 hd2
  go_loopw [39] (fun q wr => ∃ (j : Nat) (F : Nat → Prop) (S : List (List UInt8)) (W : List WrF), q = .int .i64 j ∧ j ≤ n1 ∧ Disk wr F k 20 S L0 W false 0 ∧ W.length ≤ j ∧ (∀ b, F b → w.heap.size ≤ b) ∧ Below w.heap.size w wr) (fun q _ => n1 - (intOf q).toNat)
  case atStart => exact ⟨0, _, _, [], rfl, Nat.zero_le _, hD2, Nat.le_refl _, hF2, hB2⟩
  case round =>
    clear hD2 hF2 hB2
    obtain ⟨j, F, S, W, rfl, hjn, hDq, hWj, hFb, hBq⟩ := hrel
    obtain ⟨wq, hwq⟩ : ∃ x, x = wr := ⟨_, rfl⟩
    subst hwq
    by_cases hlt : j < n1
    · skip
      obtain ⟨b, off, rfl, hbB, hrow⟩ := hf1 (by omega)
      obtain ⟨hfit, hrng⟩ := hrow j hlt
      obtain ⟨x, hx⟩ : ∃ x, f1 j = x := ⟨_, rfl⟩
      rw [hx] at hfit hrng
      obtain ⟨_, _, hp1, hp2, hs64, hpv⟩ := hfit
      obtain ⟨XL, hXL⟩ : ∃ l, l = dcC x := ⟨_, rfl⟩
      have HXl := Lib.hid (show XL.length = 68 by rw [hXL]; exact dcC_length hs64)
      have HXi := Lib.hid (show (Try.prog.info? 32).map (·.size) = some XL.toArray.size by rw [List.size_toArray, HXl.out]; exact dcSize)
      have HXz := Lib.hid (show (Try.prog.info? 32).map (·.size) = some XL.length by rw [HXl.out]; exact dcSize)
      have HX1 := Lib.hid (show XL.toArray.all (·.oneCell') = true by rw [hXL]; exact all_oneCell_toArray (dcC_cell hpv))
      have HXs := Lib.hid (show dcZ.toArray.size = XL.toArray.size by rw [List.size_toArray, List.size_toArray, HXl.out]; rfl)
      have hwr : wq.rangeAt b (off + j * 68) XL := fun i v hv => (hBq.cell (p := ⟨b, off + j * 68 + i, none⟩) hbB).trans (hrng i v (by rw [← hXL]; exact hv))
      have hat : XL[1]? = some (.int .i64 x.pos) := by rw [hXL]; rfl
      obtain ⟨s, hse⟩ : ∃ s, x.s = s := ⟨_, rfl⟩
      obtain ⟨SL, hSL⟩ : ∃ l, l = Lib.byteCells s := ⟨_, rfl⟩
      have hmid : ∀ i v, SL[i]? = some v → XL[3 + i]? = some v := fun i v hv => by rw [hXL]; rw [hSL, ← hse] at hv; exact dcC_mid hv
      rw [hse] at hs64
      obtain ⟨ap, hap⟩ : ∃ q, x.pos = q := ⟨_, rfl⟩
      rw [hap] at hat hp1 hp2
      have HSl := Lib.hid (show SL.length = 64 by rw [hSL, Lib.byteCells_length]; exact hs64)
      have HSz := Lib.hid (show (Try.prog.info? 30).map (·.size) = some SL.length by rw [HSl.out]; exact secInfo)
      have HSL := Lib.hid hSL
      have hjI : (j : Int) < (n1 : Int) := by omega
      clear hx hXL hse hap hSL hrow hrng hpv
      go_wp2_with (first | (refine wpList_load_mid rfl _ _ rfl b (off + j * 68) rfl XL _ hwr Try.underlying32 rfl HXz.out ?_) | (change wpList _ _ _ _ _ (wq.alloc (.cells dcZ.toArray 32)); refine wpList_store_row rfl _ _ _ rfl wq.heap.size XL.toArray rfl rfl 32 dcZ.toArray (heap_alloc_new wq _) HXi.out HXs.out HX1.out ?_; obtain ⟨w1, hw1⟩ : ∃ x, x = (wq.alloc (.cells dcZ.toArray 32)).setRow wq.heap.size XL.toArray := ⟨_, rfl⟩; rw [← hw1]; obtain ⟨hX1, hb1⟩ := alloc_row wq 32 dcZ.toArray XL; rw [← hw1] at hX1 hb1; clear hw1; have hc1 : w1.cell? ⟨wq.heap.size, 1, none⟩ = some (.int .i64 ap) := (by rw [hX1.cell]; exact hat); have hsr : w1.rangeAt wq.heap.size 3 SL := fun i v hv => (by rw [hX1.cell]; exact hmid i v hv)) | (refine wpList_load_mid rfl _ _ rfl wq.heap.size 3 rfl SL _ hsr Try.underlying30 rfl HSz.out ?_))
      have hD1 := hDq.below hb1
      have hB1 := hBq.trans (hb1.mono hBq.size)
      clear hwr hX1 hmid hat hc1 hsr
      by_cases hin : ap < 0 ∨ (20 : Int) ≤ ap
      · refine Calls.mono (write_no F k 20 ap S L0 W false 0 SL w1 hD1 hin) ?_
        rintro e w2 ⟨rfl, hb2⟩
        have hD2 := hD1.below hb2
        have hB2 := hB1.trans (hb2.mono hB1.size)
        clear hD1 hDq hb1 hb2
        go_wp2_with fail
        go_roundw
        case rel => exact ⟨j + 1, F, S, W, by go_num, by omega, hD2, by omega, hFb, hB2⟩
        case measure => simp [intOf]; omega
      · obtain ⟨a, rfl⟩ : ∃ a : Nat, ap = (a : Nat) := ⟨ap.toNat, by omega⟩
        have ha : a < 20 := by omega
        refine Calls.mono (write_live F k 20 a S L0 W false 0 s SL w1 hD1 rfl ha hs64 HSL.out (by omega)) ?_
        rintro e w2 ⟨rfl, hD2, hO2⟩
        have hB2 := Only.up hB1 hO2 hFb (Nat.le_refl _)
        have hF2 : ∀ b, newF F w1 w2 b → w.heap.size ≤ b := fun b h => h.elim (hFb b) (fun h => Nat.le_trans hB1.size h.1)
        clear hD1 hDq hb1 hO2
        go_wp2_with fail
        go_roundw
        case rel => exact ⟨j + 1, _, _, _, by go_num, by omega, hD2, by simp; omega, hF2, hB2⟩
        case measure => simp [intOf]; omega
    · have hjn2 : ¬ (j : Int) < (n1 : Int) := by omega
      go_wp2_with fail
      refine Calls.mono (sync_live F k 20 S L0 W false 0 wq hDq rfl) ?_
      rintro e w3 ⟨rfl, hD3, hO3⟩
      obtain ⟨S1, hS1⟩ : ∃ l, l = seenF W S (lstF (fun _ => 64) W L0 W.length) := ⟨_, rfl⟩
      obtain ⟨L1, hL1⟩ : ∃ l, l = lstF (fun _ => 64) W L0 W.length := ⟨_, rfl⟩
      rw [← hL1] at hS1 hD3
      rw [← hS1] at hD3
      have hB3 := Only.up hBq hO3 hFb (Nat.le_refl _)
      obtain ⟨F3, hF3e⟩ : ∃ G, G = newF F wq w3 := ⟨_, rfl⟩
      have hF3 : ∀ b, F3 b → w.heap.size ≤ b := fun b h => by rw [hF3e] at h; exact h.elim (hFb b) (fun h => Nat.le_trans hBq.size h.1)
      have hD3' : Disk w3 F3 k 20 S1 L1 [] false 0 := by rw [hF3e]; exact hD3
      clear hD3 hF3e hS1 hL1 hO3 hDq hWj hFb hBq hjn2
      go_wp2_with fail
      refine Calls.mono hD3'.image ?_
      rintro e w4 ⟨gw, cw, rfl, hrw, hgw1, hgw2, hcw1, hcw2, hb4⟩
      have hD4 := hD3'.below hb4
      have hB4 := hB3.trans (hb4.mono hB3.size)
      have hgwF : ¬ F3 gw := fun e => by have := hD3'.Flt gw e; omega
      clear hD3' hB3 hb4 hgw1
      have hmm := @run_makeMap Try.prog
      have hown0 := World.ownsMap_made (H := Unit) w4 Try.prog 3 boolElem
      have hD5 := hD4.kept (w' := w4.alloc (.map #[] 0)) (by simp) (fun b hF => Below.heap_alloc _ _ b (hD4.Flt b hF))
      have hB5 := hB4.alloc hB4.size (.map #[] 0)
      have hbt0 : ¬ F3 w4.heap.size := fun e => Nat.lt_irrefl _ (hD4.Flt _ e)
      have hrw5 : (w4.alloc (.map #[] 0)).rangeAt gw 0 (secC S1) := fun i v hv => (((Below.refl w4.heap.size w4).alloc (Nat.le_refl _) (.map #[] 0)).cell (p := ⟨gw, 0 + i, none⟩) hgw2).trans (hrw i v hv)
      have hs64 : ∀ s ∈ S1, s.length = 64 := by obtain ⟨gs, gl, bm, vw, base, nm, D, hDk, r⟩ := hD4; exact hDk.s64
      have hS20 : S1.length = 20 := by obtain ⟨gs, gl, bm, vw, base, nm, D, hDk, r⟩ := hD4; exact hDk.lS
      have hbtw : w.heap.size ≤ w4.heap.size := hB4.size
      have hgwt : gw ≠ w4.heap.size := by omega
      go_wp2_with fail
      obtain ⟨w5, hw5⟩ : ∃ x, x = w4.alloc (.map #[] 0) := ⟨_, rfl⟩
      obtain ⟨bt, hbt⟩ : ∃ x, x = w4.heap.size := ⟨_, rfl⟩
      rw [← hw5] at hown0 hD5 hB5 hrw5 ⊢
      rw [← hbt] at hown0 hbt0 hbtw hgwt ⊢
      have hbt5 : bt < w5.heap.size := hown0.lt
      have hgw5 : gw < w5.heap.size := by rw [hw5]; simp; omega
      clear hw5 hbt hmm hrw hgw2 hD4 hB4
      go_loopw [57] (fun q wr => ∃ (j : Nat) (F : Nat → Prop) (S : List (List UInt8)) (W : List WrF) (T : DataW Unit), q = .int .i64 j ∧ j ≤ n2 ∧ Disk wr F k 20 S L1 W false 0 ∧ W.length ≤ j ∧ (∀ b, F b → w.heap.size ≤ b) ∧ Below w.heap.size w wr ∧ wr.ownsMap Try.prog 3 boolElem bt j T ∧ Tied S1 S W T ∧ ¬ F bt ∧ ¬ F gw ∧ wr.rangeAt gw 0 (secC S1) ∧ bt < wr.heap.size ∧ gw < wr.heap.size) (fun q _ => n2 - (intOf q).toNat)
      case atStart => exact ⟨0, F3, S1, [], _, rfl, Nat.zero_le _, hD5, Nat.le_refl _, hF3, hB5, hown0, Tied.start S1, hbt0, hgwF, hrw5, hbt5, hgw5⟩
      case round =>
        clear hD5 hF3 hB5 hown0 hbt0 hgwF hrw5 hbt5 hgw5
        obtain ⟨j, F, S, W, T, rfl, hjn, hDq, hWj, hFb, hBq, hown, hti, hbF, hgF, hrg, hblt, hglt⟩ := hrel
        obtain ⟨wq, hwq⟩ : ∃ x, x = wr := ⟨_, rfl⟩
        subst hwq
        by_cases hlt : j < n2
        · skip
          obtain ⟨b, off, rfl, hbB, hrow⟩ := hf2 (by omega)
          obtain ⟨hfit, hrng⟩ := hrow j hlt
          obtain ⟨x, hx⟩ : ∃ x, f2 j = x := ⟨_, rfl⟩
          rw [hx] at hfit hrng
          obtain ⟨_, _, hp1, hp2, hs64', hpv⟩ := hfit
          obtain ⟨XL, hXL⟩ : ∃ l, l = dcC x := ⟨_, rfl⟩
          have HXl := Lib.hid (show XL.length = 68 by rw [hXL]; exact dcC_length hs64')
          have HXi := Lib.hid (show (Try.prog.info? 32).map (·.size) = some XL.toArray.size by rw [List.size_toArray, HXl.out]; exact dcSize)
          have HXz := Lib.hid (show (Try.prog.info? 32).map (·.size) = some XL.length by rw [HXl.out]; exact dcSize)
          have HX1 := Lib.hid (show XL.toArray.all (·.oneCell') = true by rw [hXL]; exact all_oneCell_toArray (dcC_cell hpv))
          have HXs := Lib.hid (show dcZ.toArray.size = XL.toArray.size by rw [List.size_toArray, List.size_toArray, HXl.out]; rfl)
          have hwr : wq.rangeAt b (off + j * 68) XL := fun i v hv => (hBq.cell (p := ⟨b, off + j * 68 + i, none⟩) hbB).trans (hrng i v (by rw [← hXL]; exact hv))
          have hat : XL[1]? = some (.int .i64 x.pos) := by rw [hXL]; rfl
          obtain ⟨s, hse⟩ : ∃ s, x.s = s := ⟨_, rfl⟩
          obtain ⟨SL, hSL⟩ : ∃ l, l = Lib.byteCells s := ⟨_, rfl⟩
          have hmid : ∀ i v, SL[i]? = some v → XL[3 + i]? = some v := fun i v hv => by rw [hXL]; rw [hSL, ← hse] at hv; exact dcC_mid hv
          rw [hse] at hs64'
          obtain ⟨ap, hap⟩ : ∃ q, x.pos = q := ⟨_, rfl⟩
          rw [hap] at hat hp1 hp2
          have HSl := Lib.hid (show SL.length = 64 by rw [hSL, Lib.byteCells_length]; exact hs64')
          have HSz := Lib.hid (show (Try.prog.info? 30).map (·.size) = some SL.length by rw [HSl.out]; exact secInfo)
          have HSL := Lib.hid hSL
          have hjI : (j : Int) < (n2 : Int) := by omega
          clear hx hXL hse hap hSL hrow hrng hpv
          go_wp2_with (first | (refine wpList_load_mid rfl _ _ rfl b (off + j * 68) rfl XL _ hwr Try.underlying32 rfl HXz.out ?_) | (change wpList _ _ _ _ _ (wq.alloc (.cells dcZ.toArray 32)); refine wpList_store_row rfl _ _ _ rfl wq.heap.size XL.toArray rfl rfl 32 dcZ.toArray (heap_alloc_new wq _) HXi.out HXs.out HX1.out ?_; obtain ⟨w1, hw1⟩ : ∃ x, x = (wq.alloc (.cells dcZ.toArray 32)).setRow wq.heap.size XL.toArray := ⟨_, rfl⟩; rw [← hw1]; obtain ⟨hX1, hb1⟩ := alloc_row wq 32 dcZ.toArray XL; rw [← hw1] at hX1 hb1; clear hw1; have hc1 : w1.cell? ⟨wq.heap.size, 1, none⟩ = some (.int .i64 ap) := (by rw [hX1.cell]; exact hat); have hsr : w1.rangeAt wq.heap.size 3 SL := fun i v hv => (by rw [hX1.cell]; exact hmid i v hv)) | (refine wpList_load_mid rfl _ _ rfl wq.heap.size 3 rfl SL _ hsr Try.underlying30 rfl HSz.out ?_))
          have hD1 := hDq.below hb1
          have hB1 := hBq.trans (hb1.mono hBq.size)
          have hgx : ¬ F wq.heap.size := fun e => Nat.lt_irrefl _ (hDq.Flt _ e)
          have hown1 := hown.kept (World.grownBy_of_below hb1) (fun e => by simp at e)
          have hrg1 : w1.rangeAt gw 0 (secC S1) := fun i v hv => (hb1.cell (p := ⟨gw, 0 + i, none⟩) hglt).trans (hrg i v hv)
          have hs1 := hb1.size
          have hx1 := hX1.lt
          clear hwr hX1 hmid hat hsr hown hrg
          by_cases hin : ap < 0 ∨ (20 : Int) ≤ ap
          · refine Calls.mono (write_no F k 20 ap S L1 W false 0 SL w1 hD1 hin) ?_
            rintro e w2 ⟨rfl, hb2⟩
            have hD2 := hD1.below hb2
            have hB2 := hB1.trans (hb2.mono hB1.size)
            have hown2 := hown1.kept (World.grownBy_of_below hb2) (fun e => by simp at e)
            have hrg2 : w2.rangeAt gw 0 (secC S1) := fun i v hv => (hb2.cell (p := ⟨gw, 0 + i, none⟩) (show gw < w1.heap.size by omega)).trans (hrg1 i v hv)
            have hs2 := hb2.size
            clear hD1 hDq hb1 hb2 hown1 hrg1 hc1
            go_wp2_with fail
            go_roundw
            case rel => exact ⟨j + 1, F, S, W, T, by go_num, by omega, hD2, by omega, hFb, hB2, hown2.mono (Nat.le_succ _), hti, hbF, hgF, hrg2, by omega, by omega⟩
            case measure => simp [intOf]; omega
          · obtain ⟨a, rfl⟩ : ∃ a : Nat, ap = (a : Nat) := ⟨ap.toNat, by omega⟩
            have ha : a < 20 := by omega
            refine Calls.mono (write_live F k 20 a S L1 W false 0 s SL w1 hD1 rfl ha hs64' HSL.out (by omega)) ?_
            rintro e w2 ⟨rfl, hD2, hO2⟩
            have hB2 := Only.up hB1 hO2 hFb (Nat.le_refl _)
            have hs2 := hO2.size
            have hown2 := ownsMap_only hown1 hO2 hbF
            have hrg2 : w2.rangeAt gw 0 (secC S1) := fun i v hv => by rw [World.cell?_of_block (hO2.block gw (show gw < w1.heap.size by omega) hgF)]; exact hrg1 i v hv
            have hc2 : w2.cell? ⟨wq.heap.size, 1, none⟩ = some (.int .i64 ((a : Nat) : Int)) := by rw [World.cell?_of_block (hO2.block wq.heap.size hx1 hgx)]; exact hc1
            have hF2 : ∀ b, newF F w1 w2 b → w.heap.size ≤ b := fun b h => h.elim (hFb b) (fun h => Nat.le_trans hB1.size h.1)
            have hbF2 : ¬ newF F w1 w2 bt := fun h => h.elim hbF (fun h => by omega)
            have hgF2 : ¬ newF F w1 w2 gw := fun h => h.elim hgF (fun h => by omega)
            obtain ⟨F2, hF2e⟩ : ∃ G, G = newF F w1 w2 := ⟨_, rfl⟩
            rw [← hF2e] at hD2 hF2 hbF2 hgF2
            have hkey := Go.Maps.keyOf_int_mk (P := Try.prog) Try.underlying3 (a := ((a : Nat) : Int)) (WalkArith.wf_i64 (by omega))
            have hti2 := hti.step (s := s) hown2.isMap (sec_int_keyed.key hkey)
            clear hF2e hD1 hDq hb1 hO2 hown1 hrg1 hc1 hti hbF hgF
            go_wp2_with (at_mapUpdate; refine wpList_mapUpdate_own _ rfl _ _ _ 36 rfl 3 4 sec_int_keyed Try.underlying36 boolElem bt j T rfl hown2 (by unfold maxLen; omega) _ _ _ rfl rfl hkey (.lit (.bool true)) [] rfl ?_; intro w3 hown3 hg3)
            have hs3 := hg3.size
            have hD3 := hD2.kept hg3.size (fun b hF => hg3.block b (hD2.Flt b hF) (fun e => hbF2 (by injection e with e; exact e ▸ hF)))
            have hB3 := hB2.grown hg3 hB2.size (fun i hi => by injection hi with hi; omega)
            have hrg3 : w3.rangeAt gw 0 (secC S1) := fun i v hv => by rw [World.cell?_of_block (hg3.block gw (by omega) (fun e => hgwt (by injection e)))]; exact hrg2 i v hv
            go_roundw
            case rel => exact ⟨j + 1, F2, _, _, _, by go_num, by omega, hD3, by simp; omega, hF2, hB3, hown3, hti2, hbF2, hgF2, hrg3, by omega, by omega⟩
            case measure => simp [intOf]; omega
        · have hjn2 : ¬ (j : Int) < (n2 : Int) := by omega
          have hA : 0 < picks.length → ∀ p : Addr, A3 = some p → ¬ F p.block := fun h0 p e hF => by
            obtain ⟨b, off, e2, hb, _⟩ := hbs h0
            rw [e2] at e
            injection e with e
            subst e
            have := hFb _ hF
            simp at this
            omega
          go_wp2_with fail
          refine Calls.mono (crash_any F k 20 S L1 W false 0 wq hDq picks A3 n3 c3 hA ((hbs.below hBq (Nat.le_refl _)).more hBq.size) hp3 (by omega)) ?_
          rintro e w3 ⟨rfl, hD3, hO3⟩
          obtain ⟨L2, hL2⟩ : ∃ l, l = lstF (keptF picks) W L1 W.length := ⟨_, rfl⟩
          obtain ⟨S2, hS2⟩ : ∃ l, l = seenF W S L2 := ⟨_, rfl⟩
          rw [← hL2, ← hS2] at hD3
          have hlS : S.length = 20 := by obtain ⟨gs, gl, bm, vw, base, nm, D, hDk, r⟩ := hDq; exact hDk.lS
          have hB3 := Only.up hBq hO3 hFb (Nat.le_refl _)
          obtain ⟨F3, hF3e⟩ : ∃ G, G = newF F wq w3 := ⟨_, rfl⟩
          have hs3 := hO3.size
          have hF3 : ∀ b, F3 b → w.heap.size ≤ b := fun b h => by rw [hF3e] at h; exact h.elim (hFb b) (fun h => Nat.le_trans hBq.size h.1)
          have hb3 : ¬ F3 bt := fun h => by rw [hF3e] at h; exact h.elim hbF (fun h => by omega)
          have hg3 : ¬ F3 gw := fun h => by rw [hF3e] at h; exact h.elim hgF (fun h => by omega)
          have hD3' : Disk w3 F3 k 20 S2 L2 [] false 0 := by rw [hF3e]; exact hD3
          have hown3 := ownsMap_only hown hO3 hbF
          have hrg3 : w3.rangeAt gw 0 (secC S1) := fun i v hv => by rw [World.cell?_of_block (hO3.block gw hglt hgF)]; exact hrg i v hv
          have Htie := Lib.hid (show ∀ i, i < 20 → T.atKey (.int .i64 (i : Nat)) (.lit (.bool false)) = .lit (.bool false) → S2.getD i [] = S1.getD i [] from fun i hi ht => by
            have hno : ∀ x ∈ W, x.1 ≠ i := fun x hx e => by
              have := hti.2 x hx
              rw [e, ht] at this
              cases this
            rw [hS2, seenF_at (by rw [hlS]; exact hi), if_neg (by
              intro h
              obtain ⟨x, hx, e⟩ := List.any_eq_true.1 h
              rw [beq_iff_eq] at e
              exact hno x hx e)]
            exact hti.1 i hno)
          clear hD3 hF3e hO3 hDq hown hrg hti hbF hgF hFb hL2 hS2 hA
          go_wp2_with fail
          refine Calls.mono hD3'.image ?_
          rintro e w4 ⟨gz, cz, rfl, hrz, hgz1, hgz2, hcz1, hcz2, hb4⟩
          have hD4 := hD3'.below hb4
          have hB4 := hB3.trans (hb4.mono hB3.size)
          have hs4 := hb4.size
          have hgzF : ¬ F3 gz := fun e => by have := hD3'.Flt gz e; omega
          have hown4 := hown3.kept (World.grownBy_of_below hb4) (fun e => by simp at e)
          have hrg4 : w4.rangeAt gw 0 (secC S1) := fun i v hv => (hb4.cell (p := ⟨gw, 0 + i, none⟩) (show gw < w3.heap.size by omega)).trans (hrg3 i v hv)
          have hS2l : S2.length = 20 ∧ ∀ s ∈ S2, s.length = 64 := by obtain ⟨gs, gl, bm, vw, base, nm, D, hDk, r⟩ := hD4; exact ⟨hDk.lS, hDk.s64⟩
          have hA : 0 < picks.length → ∀ p : Addr, A3 = some p → ¬ F3 p.block := fun h0 p e hF => by
            obtain ⟨b, off, e2, hb, _⟩ := hbs h0
            rw [e2] at e
            injection e with e
            subst e
            have := hF3 _ hF
            simp at this
            omega
          clear hD3' hB3 hown3 hrg3
          go_wp2_with fail
          refine Calls.mono (crash_any F3 k 20 S2 L2 [] false 0 w4 hD4 picks A3 n3 c3 hA ((hbs.below hB4 (Nat.le_refl _)).more hB4.size) hp3 (by omega)) ?_
          rintro e w5 ⟨rfl, hD5, hO5⟩
          rw [seenF_nil] at hD5
          have hB5 := Only.up hB4 hO5 hF3 (Nat.le_refl _)
          have hown5 := ownsMap_only hown4 hO5 hb3
          have hs5 := hO5.size
          have hrg5 : w5.rangeAt gw 0 (secC S1) := fun i v hv => by rw [World.cell?_of_block (hO5.block gw (show gw < w4.heap.size by omega) hg3)]; exact hrg4 i v hv
          have hrz5 : w5.rangeAt gz 0 (secC S2) := fun i v hv => by rw [World.cell?_of_block (hO5.block gz (show gz < w4.heap.size by omega) hgzF)]; exact hrz i v hv
          clear hD4 hB4 hown4 hrg4 hrz hO5 hA hb4
          go_wp2_with fail
          refine Calls.mono hD5.image ?_
          rintro e w6 ⟨gy, cy, rfl, hry, hgy1, hgy2, hcy1, hcy2, hb6⟩
          have hB6 := hB5.trans (hb6.mono hB5.size)
          have hown6 := hown5.kept (World.grownBy_of_below hb6) (fun e => by simp at e)
          have hrg6 : w6.rangeAt gw 0 (secC S1) := fun i v hv => (hb6.cell (p := ⟨gw, 0 + i, none⟩) (show gw < w5.heap.size by omega)).trans (hrg5 i v hv)
          have hrz6 : w6.rangeAt gz 0 (secC S2) := fun i v hv => (hb6.cell (p := ⟨gz, 0 + i, none⟩) (show gz < w5.heap.size by omega)).trans (hrz5 i v hv)
          clear hD5 hB5 hown5 hrg5 hrz5 hb6
          go_wp2_with fail
          refine Calls.mono (same_yes gy gz 20 cy cz S2 w6 hry hrz6 hS2l.2 hS2l.1 (by omega) hcy1 hcy2 hcz1 hcz2) ?_
          rintro e w7 ⟨rfl, nd0, rfl⟩
          have hB7 : Below w.heap.size w (w6.drewN nd0) := Below.dN hB6 nd0
          have hown7 : (w6.drewN nd0).ownsMap Try.prog 3 boolElem bt j T := hown6
          have hrg7 : (w6.drewN nd0).rangeAt gw 0 (secC S1) := hrg6
          have hrz7 : (w6.drewN nd0).rangeAt gz 0 (secC S2) := hrz6
          obtain ⟨w7, hw7⟩ : ∃ x, x = w6.drewN nd0 := ⟨_, rfl⟩
          rw [← hw7] at hB7 hown7 hrg7 hrz7 ⊢
          clear hw7 hB6 hown6 hrg6 hrz6 hry
          go_wp2_with fail
          go_loopw [97] (fun q wr => ∃ (i nd : Nat), q = .int .i64 i ∧ i ≤ 20 ∧ wr = w7.drewN nd) (fun q _ => 20 - (intOf q).toNat)
          case atStart => exact ⟨0, 0, rfl, Nat.zero_le _, rfl⟩
          case round =>
            obtain ⟨i, nd, rfl, hi, rfl⟩ := hrel
            have hgS := gtS
            by_cases hlt2 : i < 20
            · have hkey := Go.Maps.keyOf_int_mk (P := Try.prog) Try.underlying3 (a := ((i : Nat) : Int)) (WalkArith.wf_i64 (by omega))
              obtain ⟨wz, hwz⟩ : ∃ x, x = (w7.drewN nd).drew := ⟨_, rfl⟩
              have hownz : wz.ownsMap Try.prog 3 boolElem bt j T := by rw [hwz]; exact hown7
              have hrgz : wz.rangeAt gw 0 (secC S1) := by rw [hwz]; exact hrg7
              have hrzz : wz.rangeAt gz 0 (secC S2) := by rw [hwz]; exact hrz7
              obtain ⟨v, ps, hrun, hv⟩ := hownz.lookup sec_int_keyed Try.underlying36 (show (zeroValue 4).run Try.prog wz = .ok (.bool false) wz by kernel_rfl) (zd := .lit (.bool false)) (zp := []) rfl hkey
              obtain ⟨bb, rfl, hbb⟩ := boolElem_inv hv
              clear hkey hv hownz
              cases bb
              · have heq := Htie.out i hlt2 hbb
                have hl : (S1.getD i []).length = 64 := hs64 _ (by simp [List.getD, show i < S1.length by omega])
                obtain ⟨VL, hVL⟩ : ∃ V, V = Lib.byteCells (S1.getD i []) := ⟨_, rfl⟩
                have HVl := Lib.hid (show VL.length = 64 by rw [hVL, Lib.byteCells_length]; exact hl)
                have HVz := Lib.hid (show (Try.prog.info? 30).map (·.size) = some VL.length by rw [HVl.out]; exact secInfo)
                have hra : wz.rangeAt gz (i * 64) VL := fun q v hq => by have := hrzz (i * 64 + q) v (secC_at hS2l.2 (by omega) q v (by rw [heq, ← hVL]; exact hq)); rwa [Nat.zero_add] at this
                have hrb : wz.rangeAt gw (i * 64) VL := fun q v hq => by have := hrgz (i * 64 + q) v (secC_at hs64 (by omega) q v (by rw [← hVL]; exact hq)); rwa [Nat.zero_add] at this
                have heqv := fun w => sec_eqv _ _ hl hl VL VL hVL hVL w
                rw [decide_eq_true rfl] at heqv
                have hiI : (i : Int) < 20 := by omega
                clear hVL hl heq hrgz hrzz hbb
                go_wp2_with fail
                refine wp_region_held_drew (S := fun w' => (Instr.lookup 36 (.map (some bt)) (.int .i64 ((i : Nat) : Int)) false).run Try.prog w' = .ok (.bool false) w' ∧ w'.rangeAt gz (i * 64) VL ∧ w'.rangeAt gw (i * 64) VL) (by kernel_rfl) (hwz ▸ ⟨hrun, hra, hrb⟩) (fun hHeld => ?_)
                rw [← hwz]
                try rw [← hwz] at hHeld
                refine anyH_take (i := 0) (v := .map (some bt)) (some 100) rfl rfl (by kernel_rfl) (by kernel_rfl) (by kernel_rfl) (fun _ _ _ h => h) (Or.inl ⟨by rfl, fun _ hw => by rfl⟩) (by assumption) ?_
                simp only [Act.put, List.setIfInBounds_toArray, List.set_cons_zero, List.set_cons_succ]
                refine anyH_take (i := 1) (v := .int .i64 (i : Nat)) (some 101) rfl rfl (by kernel_rfl) (by kernel_rfl) (by kernel_rfl) (fun _ _ _ h => h) (Or.inl ⟨by rfl, fun _ hw => by rfl⟩) (by assumption) ?_
                simp only [Act.put, List.setIfInBounds_toArray, List.set_cons_zero, List.set_cons_succ]
                refine anyH_take (i := 2) (v := .bool false) (some 102) rfl rfl (by kernel_rfl) (by kernel_rfl) (by kernel_rfl) (fun _ _ _ h => h) (Or.inl ⟨by rfl, fun _ hw => by (have hw2 := hw.1; go_simp)⟩) (by assumption) ?_
                simp only [Act.put, List.setIfInBounds_toArray, List.set_cons_zero, List.set_cons_succ]
                refine anyH_take (i := 3) (v := .bool true) (some 103) rfl rfl (by kernel_rfl) (by kernel_rfl) (by kernel_rfl) (fun _ _ _ h => h) (Or.inl ⟨by rfl, fun _ hw => by go_simp⟩) (by assumption) ?_
                simp only [Act.put, List.setIfInBounds_toArray, List.set_cons_zero, List.set_cons_succ]
                refine anyH_take (i := 4) (v := .bool true) (some 104) rfl rfl (by kernel_rfl) (by kernel_rfl) (by kernel_rfl) (fun _ _ _ h => h) (Or.inl ⟨by rfl, fun _ hw => by rfl⟩) (by assumption) ?_
                simp only [Act.put, List.setIfInBounds_toArray, List.set_cons_zero, List.set_cons_succ]
                refine anyH_take (i := 5) (v := .slice (some ⟨gz, 0, none⟩) 20 cz) (some 105) rfl rfl (by kernel_rfl) (by kernel_rfl) (by kernel_rfl) (fun _ _ _ h => h) (Or.inl ⟨by rfl, fun _ hw => by rfl⟩) (by assumption) ?_
                simp only [Act.put, List.setIfInBounds_toArray, List.set_cons_zero, List.set_cons_succ]
                refine anyH_take (i := 6) (v := .int .i64 (i : Nat)) (some 106) rfl rfl (by kernel_rfl) (by kernel_rfl) (by kernel_rfl) (fun _ _ _ h => h) (Or.inl ⟨by rfl, fun _ hw => by rfl⟩) (by assumption) ?_
                simp only [Act.put, List.setIfInBounds_toArray, List.set_cons_zero, List.set_cons_succ]
                refine anyH_take (i := 7) (v := .pointer (some ⟨gz, i * 64, none⟩)) (some 107) rfl rfl (by kernel_rfl) (by kernel_rfl) (by kernel_rfl) (fun _ _ _ h => h) (Or.inl ⟨by rfl, fun _ hw => by go_simp⟩) (by assumption) ?_
                simp only [Act.put, List.setIfInBounds_toArray, List.set_cons_zero, List.set_cons_succ]
                refine anyH_take (i := 8) (some 108) rfl rfl (by kernel_rfl) (by kernel_rfl) (by kernel_rfl) (fun _ _ _ h => h) (yieldsIf_load_mid (by rfl) 30 (.tmp 107) rfl gz (i * 64) rfl VL _ (fun _ h => h.2.1) Try.underlying30 rfl HVz.out) (by assumption) ?_
                simp only [Act.put, List.setIfInBounds_toArray, List.set_cons_zero, List.set_cons_succ]
                refine anyH_take (i := 9) (v := .slice (some ⟨gw, 0, none⟩) 20 cw) (some 109) rfl rfl (by kernel_rfl) (by kernel_rfl) (by kernel_rfl) (fun _ _ _ h => h) (Or.inl ⟨by rfl, fun _ hw => by rfl⟩) (by assumption) ?_
                simp only [Act.put, List.setIfInBounds_toArray, List.set_cons_zero, List.set_cons_succ]
                refine anyH_take (i := 10) (v := .int .i64 (i : Nat)) (some 110) rfl rfl (by kernel_rfl) (by kernel_rfl) (by kernel_rfl) (fun _ _ _ h => h) (Or.inl ⟨by rfl, fun _ hw => by rfl⟩) (by assumption) ?_
                simp only [Act.put, List.setIfInBounds_toArray, List.set_cons_zero, List.set_cons_succ]
                refine anyH_take (i := 11) (v := .pointer (some ⟨gw, i * 64, none⟩)) (some 111) rfl rfl (by kernel_rfl) (by kernel_rfl) (by kernel_rfl) (fun _ _ _ h => h) (Or.inl ⟨by rfl, fun _ hw => by go_simp⟩) (by assumption) ?_
                simp only [Act.put, List.setIfInBounds_toArray, List.set_cons_zero, List.set_cons_succ]
                refine anyH_take (i := 12) (some 112) rfl rfl (by kernel_rfl) (by kernel_rfl) (by kernel_rfl) (fun _ _ _ h => h) (yieldsIf_load_mid (by rfl) 30 (.tmp 111) rfl gw (i * 64) rfl VL _ (fun _ h => h.2.2) Try.underlying30 rfl HVz.out) (by assumption) ?_
                simp only [Act.put, List.setIfInBounds_toArray, List.set_cons_zero, List.set_cons_succ]
                refine anyH_take (i := 13) (v := .bool false) (some 113) rfl rfl (by kernel_rfl) (by kernel_rfl) (by kernel_rfl) (fun _ _ _ h => h) (Or.inl ⟨by rfl, fun _ hw => by go_simp⟩) (by assumption) ?_
                simp only [Act.put, List.setIfInBounds_toArray, List.set_cons_zero, List.set_cons_succ]
                refine anyH_take (i := 14) (v := .bool false) (some 114) rfl rfl (by kernel_rfl) (by kernel_rfl) (by kernel_rfl) (fun _ _ _ h => h) (Or.inl ⟨by rfl, fun _ hw => by go_simp⟩) (by assumption) ?_
                simp only [Act.put, List.setIfInBounds_toArray, List.set_cons_zero, List.set_cons_succ]
                refine wpAnyH_done (by kernel_rfl) ?_ _
                clear hHeld
                rw [hwz]
                go_wp2_with fail
                go_roundw
                case rel => exact ⟨i + 1, nd + 1, by go_num, by omega, rfl⟩
                case measure => simp [intOf]; omega
              · clear hrgz hrzz hbb
                have hiI : (i : Int) < 20 := by omega
                go_wp2_with fail
                refine wp_region_held_drew (S := fun w' => (Instr.lookup 36 (.map (some bt)) (.int .i64 ((i : Nat) : Int)) false).run Try.prog w' = .ok (.bool true) w') (by kernel_rfl) (hwz ▸ hrun) (fun hHeld => ?_)
                rw [← hwz]
                try rw [← hwz] at hHeld
                refine anyH_take (i := 0) (v := .map (some bt)) (some 100) rfl rfl (by kernel_rfl) (by kernel_rfl) (by kernel_rfl) (fun _ _ _ h => h) (Or.inl ⟨by rfl, fun _ hw => by rfl⟩) (by assumption) ?_
                simp only [Act.put, List.setIfInBounds_toArray, List.set_cons_zero, List.set_cons_succ]
                refine anyH_take (i := 1) (v := .int .i64 (i : Nat)) (some 101) rfl rfl (by kernel_rfl) (by kernel_rfl) (by kernel_rfl) (fun _ _ _ h => h) (Or.inl ⟨by rfl, fun _ hw => by rfl⟩) (by assumption) ?_
                simp only [Act.put, List.setIfInBounds_toArray, List.set_cons_zero, List.set_cons_succ]
                refine anyH_take (i := 2) (v := .bool true) (some 102) rfl rfl (by kernel_rfl) (by kernel_rfl) (by kernel_rfl) (fun _ _ _ h => h) (Or.inl ⟨by rfl, fun _ hw => by (have hw2 := hw; go_simp)⟩) (by assumption) ?_
                simp only [Act.put, List.setIfInBounds_toArray, List.set_cons_zero, List.set_cons_succ]
                refine anyH_take (i := 3) (v := .bool false) (some 103) rfl rfl (by kernel_rfl) (by kernel_rfl) (by kernel_rfl) (fun _ _ _ h => h) (Or.inl ⟨by rfl, fun _ hw => by go_simp⟩) (by assumption) ?_
                simp only [Act.put, List.setIfInBounds_toArray, List.set_cons_zero, List.set_cons_succ]
                refine anyH_take (i := 4) (v := .bool false) (some 104) rfl rfl (by kernel_rfl) (by kernel_rfl) (by kernel_rfl) (fun _ _ _ h => h) (Or.inl ⟨by rfl, fun _ hw => by rfl⟩) (by assumption) ?_
                simp only [Act.put, List.setIfInBounds_toArray, List.set_cons_zero, List.set_cons_succ]
                refine anyH_take (i := 5) (v := undef) (some 105) rfl rfl (by kernel_rfl) (by kernel_rfl) (by kernel_rfl) (fun _ _ _ h => h) (Or.inr ⟨by rfl, rfl⟩) (by assumption) ?_
                simp only [Act.put, List.setIfInBounds_toArray, List.set_cons_zero, List.set_cons_succ]
                refine anyH_take (i := 6) (v := undef) (some 106) rfl rfl (by kernel_rfl) (by kernel_rfl) (by kernel_rfl) (fun _ _ _ h => h) (Or.inr ⟨by rfl, rfl⟩) (by assumption) ?_
                simp only [Act.put, List.setIfInBounds_toArray, List.set_cons_zero, List.set_cons_succ]
                refine anyH_take (i := 7) (v := undef) (some 107) rfl rfl (by kernel_rfl) (by kernel_rfl) (by kernel_rfl) (fun _ _ _ h => h) (Or.inr ⟨by rfl, rfl⟩) (by assumption) ?_
                simp only [Act.put, List.setIfInBounds_toArray, List.set_cons_zero, List.set_cons_succ]
                refine anyH_take (i := 8) (v := undef) (some 108) rfl rfl (by kernel_rfl) (by kernel_rfl) (by kernel_rfl) (fun _ _ _ h => h) (Or.inr ⟨by rfl, rfl⟩) (by assumption) ?_
                simp only [Act.put, List.setIfInBounds_toArray, List.set_cons_zero, List.set_cons_succ]
                refine anyH_take (i := 9) (v := undef) (some 109) rfl rfl (by kernel_rfl) (by kernel_rfl) (by kernel_rfl) (fun _ _ _ h => h) (Or.inr ⟨by rfl, rfl⟩) (by assumption) ?_
                simp only [Act.put, List.setIfInBounds_toArray, List.set_cons_zero, List.set_cons_succ]
                refine anyH_take (i := 10) (v := undef) (some 110) rfl rfl (by kernel_rfl) (by kernel_rfl) (by kernel_rfl) (fun _ _ _ h => h) (Or.inr ⟨by rfl, rfl⟩) (by assumption) ?_
                simp only [Act.put, List.setIfInBounds_toArray, List.set_cons_zero, List.set_cons_succ]
                refine anyH_take (i := 11) (v := undef) (some 111) rfl rfl (by kernel_rfl) (by kernel_rfl) (by kernel_rfl) (fun _ _ _ h => h) (Or.inr ⟨by rfl, rfl⟩) (by assumption) ?_
                simp only [Act.put, List.setIfInBounds_toArray, List.set_cons_zero, List.set_cons_succ]
                refine anyH_take (i := 12) (v := undef) (some 112) rfl rfl (by kernel_rfl) (by kernel_rfl) (by kernel_rfl) (fun _ _ _ h => h) (Or.inr ⟨by rfl, rfl⟩) (by assumption) ?_
                simp only [Act.put, List.setIfInBounds_toArray, List.set_cons_zero, List.set_cons_succ]
                refine anyH_take (i := 13) (v := undef) (some 113) rfl rfl (by kernel_rfl) (by kernel_rfl) (by kernel_rfl) (fun _ _ _ h => h) (Or.inr ⟨by rfl, rfl⟩) (by assumption) ?_
                simp only [Act.put, List.setIfInBounds_toArray, List.set_cons_zero, List.set_cons_succ]
                refine anyH_take (i := 14) (v := .bool false) (some 114) rfl rfl (by kernel_rfl) (by kernel_rfl) (by kernel_rfl) (fun _ _ _ h => h) (Or.inl ⟨by rfl, fun _ hw => by go_simp⟩) (by assumption) ?_
                simp only [Act.put, List.setIfInBounds_toArray, List.set_cons_zero, List.set_cons_succ]
                refine wpAnyH_done (by kernel_rfl) ?_ _
                clear hHeld
                rw [hwz]
                go_wp2_with fail
                go_roundw
                case rel => exact ⟨i + 1, nd + 1, by go_num, by omega, rfl⟩
                case measure => simp [intOf]; omega
            · have hi2 : ¬ (i : Int) < 20 := by omega
              go_wp2_with fail
              go_ret
              exact ⟨rfl, Below.dN hB7 nd⟩

theorem diskSynced_walk (A1 : Option Addr) (n1 c1 : Nat) (f1 : Nat → DCl) (_ : 0 = 0) (hn1 : n1 ≤ c1) (hm1 : c1 ≤ maxLen) (A2 : Option Addr) (n2 c2 : Nat) (f2 : Nat → DCl) (_ : 0 = 0) (hn2 : n2 ≤ c2) (hm2 : c2 ≤ maxLen) (A3 : Option Addr) (c3 : Nat) (picks : List UInt8) (hn3 : picks.length ≤ c3) (hm3 : c3 ≤ maxLen)
    (w : World) (hf1 : DClsAt w w.heap.size A1 n1 f1) (hf2 : DClsAt w w.heap.size A2 n2 f2) (hbs : Bs w w.heap.size A3 picks) :
    Calls Try.prog 3 #[.slice A1 n1 c1, .slice A2 n2 c2, .slice A3 picks.length c3] w fun e w' => e = .returned (.bool true) ∧ Below w.heap.size w w' := by
  unfold maxLen at hm1 hm2 hm3
  by_cases h : 60 < n1 ∨ 60 < n2
  · exact dsynced_great A1 n1 c1 A2 n2 c2 A3 picks.length c3 w h
  · exact dsynced_in A1 n1 c1 f1 hn1 (by omega) A2 n2 c2 f2 hn2 (by omega) A3 picks.length c3 picks rfl hn3 (by omega) w hf1 hf2 hbs (by omega) (by omega)

end Go.Proofs.Ytkpgbgiamekhaac

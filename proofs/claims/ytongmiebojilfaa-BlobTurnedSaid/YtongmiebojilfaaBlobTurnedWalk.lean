/-
  The walk of BlobTurned.
-/
import Derived.Test.YtongmiebojilfaaBlobSpeaks
import Derived.Test.YtongmiebojilfaaBlobRef
import Derived.Test.YtongmiebojilfaaDiskSet
import Derived.Test.YtongmiebojilfaaSame
namespace Go.Proofs.Ytongmiebojilfaa
open Go.RowKit
set_option linter.unusedVariables false
set_option linter.unusedSimpArgs false

theorem and_ffffB (x : Int) : ∃ m : Nat, bits .and .i64 x 65535 = (m : Int) ∧ m ≤ 65535 := by
  have hb : BitVec.ofInt IntKind.i64.bits 65535 = BitVec.ofNat IntKind.i64.bits 65535 := rfl
  have hle : ((BitVec.ofInt IntKind.i64.bits x).toNat &&& 65535) ≤ 65535 := Nat.and_le_right
  refine ⟨(BitVec.ofInt IntKind.i64.bits x).toNat &&& 65535, ?_, hle⟩
  have h2 : (BitVec.ofNat IntKind.i64.bits 65535).toNat = 65535 := rfl
  simp only [bits, hb, BitVec.toNat_and, h2]
  rw [IntKind.wrap_i64]
  omega
theorem xor_u8B (a b : Nat) (ha : a < 256) (hb : b < 256) : ∃ y : Nat, y < 256 ∧ bits .xor .u8 (a : Int) (b : Int) = (y : Int) := by
  refine ⟨(bits .xor .u8 (a : Int) (b : Int)).toNat, ?_, ?_⟩
  all_goals
    unfold bits
    rw [IntKind.wrap_u8]
    omega

/-- One byte of the row turned. -/
theorem firstF_set {S : List (List UInt8)} {a s q r : Nat} (h64 : ∀ x ∈ S, x.length = 64) (h : a + s ≤ S.length) (hq : q < s) (hr : r < 64) (v : UInt8) : firstF (S.set (a + q) ((S.getD (a + q) []).set r v)) a s = (firstF S a s).set (64 * q + r) v := by
  induction s with
  | zero => omega
  | succ s ih =>
    have hl := firstF_length (a := a) (i := s) h64 (by omega)
    rw [firstF_succ, firstF_succ]
    by_cases e : q = s
    · subst e
      have hsame : firstF (S.set (a + q) ((S.getD (a + q) []).set r v)) a q = firstF S a q := by
        unfold firstF
        rw [List.flatMap_def, List.flatMap_def]
        congr 1
        refine List.map_congr_left fun j hj => ?_
        have := List.mem_range.1 hj
        simp only [List.getD]
        rw [List.getElem?_set_ne (by omega)]
      have hg : (S.set (a + q) ((S.getD (a + q) []).set r v)).getD (a + q) [] = (S.getD (a + q) []).set r v := by
        simp [List.getD, show a + q < S.length by omega]
      rw [hsame, hg, List.set_append_right _ _ (by omega), hl, Nat.add_sub_cancel_left]
    · rw [ih (by omega) (by omega), List.set_append_left _ _ (by omega)]
      congr 1
      simp only [List.getD]
      rw [List.getElem?_set_ne (by omega)]
theorem getF_set {S : List (List UInt8)} {a n q r : Nat} (h64 : ∀ x ∈ S, x.length = 64) (h : a + secsF n ≤ S.length) (hq : q < secsF n) (hr : r < 64) (v : UInt8) (hn : n ≤ 64 * q + r) : getF (S.set (a + q) ((S.getD (a + q) []).set r v)) a n = getF S a n := by
  show (firstF _ a (secsF n)).take n = (firstF _ a (secsF n)).take n
  rw [firstF_set h64 h hq hr, List.take_set_of_le hn]

set_option maxHeartbeats 8000000 in
set_option maxRecDepth 100000 in
theorem bturned_great (B : Option Addr) (nB cB : Nat) (a : Int) (t : Nat) (w : World) (h : 1000 < nB ∨ t = 0) :
    Calls Try.prog 7 #[.slice B nB cB, .int .i64 a, .int .u8 (t : Nat)] w fun e w' => e = .returned (.bool true) ∧ Below w.heap.size w w' := by
  have hd : decide ((1000 : Int) < (nB : Int)) = true ∨ (decide ((1000 : Int) < (nB : Int)) = false ∧ ((t : Int) == 0) = true) := by
    simp only [decide_eq_true_eq, decide_eq_false_iff_not, beq_iff_eq]
    omega
  clear h
  rcases hd with h1 | ⟨h1, h2⟩
  all_goals
    go_enter Try.func7, Try.ntmps7
    go_wp2_with fail
    refine Calls.mono (bspeaks_true w) ?_
    rintro e w1 ⟨rfl, hB1⟩
    go_wp2_with fail
    go_ret
    exact ⟨rfl, hB1⟩

set_option maxHeartbeats 16000000 in
set_option maxRecDepth 100000 in
theorem bturned_in (B : Option Addr) (n cB : Nat) (bs : List UInt8) (hbl : bs.length = n) (hnB : n ≤ cB) (hcB : cB ≤ maxLen) (a : Int) (t : Nat) (ht : t < 256) (w : World) (hA : Bs w w.heap.size B bs) (hn1 : n ≤ 1000) (ht0 : t ≠ 0) :
    Calls Try.prog 7 #[.slice B n cB, .int .i64 a, .int .u8 (t : Nat)] w fun e w' => e = .returned (.bool true) ∧ Below w.heap.size w w' := by
  have hd1 : decide ((1000 : Int) < (n : Int)) = false := by simp; omega
  have hd2 : ((t : Int) == 0) = false := by rw [beq_eq_false_iff_ne]; omega
  have Hbl := Lib.hid hbl
  obtain ⟨s, hs⟩ : ∃ s, secsF n = s := ⟨_, rfl⟩
  have hs1 : 1 ≤ s := by rw [← hs]; exact secsF_pos n
  have hs16 : s ≤ 16 := by rw [← hs]; unfold secsF; omega
  have Hs := Lib.hid hs
  have hns : n ≤ 64 * s := by rw [← hs]; exact secsF_last
  obtain ⟨v, hv, hvB⟩ := and_ffffB a
  obtain ⟨M, hM⟩ : ∃ M, 64 * s = M := ⟨_, rfl⟩
  have hMI : (64 : Int) * (s : Int) = (M : Int) := by omega
  have hM0 : 1 ≤ M := by omega
  have hM2 : M ≤ 1024 := by omega
  have hMne : ((M : Int) == 0) = false := by rw [beq_eq_false_iff_ne]; omega
  obtain ⟨k0, hk0⟩ : ∃ k0, v % M = k0 := ⟨_, rfl⟩
  have hkM : k0 < M := by rw [← hk0]; exact Nat.mod_lt _ (by omega)
  have hkI : (v : Int) % (M : Int) = (k0 : Int) := by rw [← hk0]; simp
  have hkT : (v : Int).tmod (M : Int) = (k0 : Int) := by rw [Int.tmod_eq_emod_of_nonneg (by omega)]; exact hkI
  obtain ⟨q, hq⟩ : ∃ q, k0 / 64 = q := ⟨_, rfl⟩
  obtain ⟨r, hr⟩ : ∃ r, k0 % 64 = r := ⟨_, rfl⟩
  have hqs : q < s := by omega
  have hr64 : r < 64 := by omega
  have hqr : 64 * q + r = k0 := by omega
  have hqI : (k0 : Int) / 64 = (q : Int) := by omega
  have hqT : (k0 : Int).tdiv 64 = (q : Int) := by rw [Int.tdiv_eq_ediv_of_nonneg (by omega)]; exact hqI
  have hrI : (k0 : Int) % 64 = (r : Int) := by omega
  have hrT : (k0 : Int).tmod 64 = (r : Int) := by rw [Int.tmod_eq_emod_of_nonneg (by omega)]; exact hrI
  obtain ⟨p, hp⟩ : ∃ p, 3 + q = p := ⟨_, rfl⟩
  have hpI : (3 : Int) + (q : Int) = (p : Int) := by omega
  have hp20 : p < 20 := by omega
  obtain ⟨DL, hDL⟩ : ∃ x, x = refC (blobDig bs) (3 : Nat) (n : Nat) := ⟨_, rfl⟩
  have hDl : DL.length = 34 := by rw [hDL]; exact refC_length (blobDig_length _) _ _
  have HD1 := Lib.hid (show DL.toArray.all (·.oneCell') = true by rw [hDL]; exact all_oneCell_toArray (refC_cell _ _ _))
  have HDi := Lib.hid (show (Try.prog.info? 36).map (·.size) = some DL.toArray.size by rw [List.size_toArray, hDl]; exact refSize)
  have HDn := Lib.hid (show (Try.prog.info? 36).map (·.size) = some DL.length by rw [hDl]; exact refSize)
  have HDs := Lib.hid (show refZ.toArray.size = DL.toArray.size by rw [List.size_toArray, List.size_toArray, hDl]; rfl)
  have HDL := Lib.hid hDL
  have Hq := Lib.hid hq
  have Hqr := Lib.hid hqr
  have Hp := Lib.hid hp
  clear hbl hs hM hk0 hq hr hqr hp hDL
  go_enter Try.func7, Try.ntmps7
  go_wp2_with fail
  refine Calls.mono (bspeaks_true w) ?_
  rintro e w1 ⟨rfl, hB1⟩
  go_wp2_with fail
  refine Calls.mono (show Calls Try.prog 9 #[.int .i64 20] w1 (NewPost 20 w1) from new_yes 20 w1 (by omega) (by omega)) ?_
  rintro e w2 ⟨k, rfl, hD2, hb2⟩
  have hB2 : Below w.heap.size w w2 := hB1.trans (hb2.mono hB1.size)
  have hF2 : ∀ b, newF (fun _ => False) w1 w2 b → w.heap.size ≤ b := fun b h => h.elim (fun h => h.elim) (fun h => Nat.le_trans hB1.size h.1)
  obtain ⟨F, hF⟩ : ∃ F, F = newF (fun _ => False) w1 w2 := ⟨_, rfl⟩
  rw [← hF] at hD2 hF2
  have hA2 : Bs w2 w2.heap.size B bs := (hA.below hB2 (Nat.le_refl _)).more hB2.size
  have hAF : 0 < bs.length → ∀ x, B = some x → ¬ F x.block := fun h0 x hx hFx => by
    obtain ⟨b, off, e, hlt, _⟩ := hA h0
    rw [hx] at e
    injection e with e
    have := hF2 _ hFx
    rw [e] at this
    simp at this
    omega
  clear hb2 hB1 hd1 hd2 hF
  go_wp2_with fail
  refine Calls.mono (show Calls Try.prog 12 #[.pointer (some ⟨k, 0, none⟩), .int .i64 3, .slice B n cB] w2 _ from bwrite_yes F k 20 3 (List.replicate 20 zero64) (List.replicate 20 zero64) [] bs DL B n cB w2 hD2 Hbl.out (by omega) hnB hcB hA2 hAF (by rw [Hs.out]; omega) (by rw [Hs.out]; simp; omega) HDL.out) ?_
  rintro e w5 ⟨rfl, F5, hD5, hF5, hO5⟩
  have hF5b : ∀ b, F5 b → w.heap.size ≤ b := fun b h => by rcases hF5 b h with h1 | h1; exact hF2 b h1; exact Nat.le_trans hB2.size h1
  have hB5 := Only.upB hB2 hO5 hF2 (Nat.le_refl _)
  have hBs5 := hB5.size
  obtain ⟨S1, hS1⟩ : ∃ x, x = putF (List.replicate 20 zero64) 3 bs (secsF n) := ⟨_, rfl⟩
  rw [← hS1] at hD5
  obtain ⟨gs, gl, bm, vw, base, nm, D, hD, hK, hnm, hgone⟩ := hD5
  have hgS : getF S1 3 n = bs := by
    have h := put_get (S := List.replicate 20 zero64) (a := 3) bs (by rw [Hbl.out, Hs.out]; simp; omega)
    rw [Hbl.out] at h
    rw [hS1]
    exact h
  have HgS := Lib.hid hgS
  have hRK := hK.2.2
  clear hD2 hA2 hAF hO5 hF2 hB2 hF5 hS1 hgS hnm hgone hK
  go_wp2_with (first
    | (change wpList _ _ _ _ _ (w5.alloc (.cells refZ.toArray 36)); refine wpList_store_row rfl _ _ _ rfl w5.heap.size DL.toArray rfl rfl 36 refZ.toArray (heap_alloc_new w5 _) HDi.out HDs.out HD1.out ?_; obtain ⟨w6, hw6⟩ : ∃ x, x = (w5.alloc (.cells refZ.toArray 36)).setRow w5.heap.size DL.toArray := ⟨_, rfl⟩; rw [← hw6]; obtain ⟨hP6, hb6⟩ := alloc_rowD w5 36 refZ.toArray DL; rw [← hw6] at hP6 hb6; clear hw6))
  have hD6 := hD.kept hb6.size (fun b hF => hb6.block b (hD.Flt b hF))
  have hB6 := hB5.trans (hb6.mono hBs5)
  have hBs6 := hB6.size
  obtain ⟨gr, hgr⟩ : ∃ g, g = w5.heap.size := ⟨_, rfl⟩
  rw [← hgr] at hP6 ⊢
  have hgrF : ¬ F5 gr := fun h => by have := hD.Flt gr h; omega
  clear hgr hB5 hb6 hBs5 hD
  refine Calls.mono (sectors_any n (by omega) w6) ?_
  rintro e wx ⟨rfl, rfl⟩
  rw [Hs.out]
  obtain ⟨X, hX⟩ : ∃ X, S1.getD p [] = X := ⟨_, rfl⟩
  have hX64 : X.length = 64 := by rw [← hX]; exact hD6.s64 _ (by have := hD6.lS; simp [List.getD, show p < S1.length by omega])
  obtain ⟨XL, hXL⟩ : ∃ l, l = Lib.byteCells X := ⟨_, rfl⟩
  have hXl : XL.length = 64 := by rw [hXL, Lib.byteCells_length]; exact hX64
  have HXi := Lib.hid (show (Try.prog.info? 30).map (·.size) = some XL.toArray.size by rw [List.size_toArray, hXl]; exact secInfo)
  have HX1 := Lib.hid (show XL.toArray.all (·.oneCell') = true by rw [hXL]; exact sec_one _)
  have HXs := Lib.hid (show (Lib.byteCells zero64).toArray.size = XL.toArray.size by rw [List.size_toArray, List.size_toArray, hXl]; rfl)
  obtain ⟨x, hx⟩ : ∃ x, (X.getD r 0).toNat = x := ⟨_, rfl⟩
  have hxB : x < 256 := by rw [← hx]; exact UInt8.toNat_lt _
  have hxr : XL[r]? = some (.int .u8 (x : Nat)) := by rw [hXL, byteCells_get (by omega), hx]
  obtain ⟨y, hyB, hxor⟩ := xor_u8B x t hxB ht
  obtain ⟨YL, hYL⟩ : ∃ l, l = XL.set r (.int .u8 (y : Nat)) := ⟨_, rfl⟩
  have hYc : YL = Lib.byteCells (X.set r y.toUInt8) := by
    rw [hYL, hXL]
    unfold Lib.byteCells
    rw [List.map_set, Lib.toUInt8_toNat hyB]
  have hYl : YL.length = 64 := by rw [hYL, List.length_set]; exact hXl
  have HYi := Lib.hid (show (Try.prog.info? 30).map (·.size) = some YL.toArray.size by rw [List.size_toArray, hYl]; exact secInfo)
  have HYc := Lib.hid hYc
  have HYL := Lib.hid hYL
  have HXL := Lib.hid hXL
  have HX := Lib.hid hX
  have hrl : (r : Int) < (64 : Int) := by omega
  have hyw : IntKind.u8.wrap (y : Int) = (y : Int) := IntWalk.u8_in _ (by omega)
  clear hX hXL hx hYL hYc
  go_wp2_with fail
  refine Calls.mono (read_yes k gs 20 p S1 XL wx hD6.c0 hD6.hs hD6.s64 hD6.lS hp20 hD6.n2 (hD6.Flt k hD6.Fk) (by rw [HX.out]; exact HXL.out)) ?_
  rintro e w7 ⟨rfl, hb7⟩
  have hD7 := hD6.kept hb7.size (fun b hF => hb7.block b (hD6.Flt b hF))
  have hB7 := hB6.trans (hb7.mono hBs6)
  have hBs7 := hB7.size
  have hP7 := hP6.upD hb7
  clear hD6 hB6 hBs6 hP6 hb7
  go_wp2_with (first
    | (change wpList _ _ _ _ _ (w7.alloc (.cells (Lib.byteCells zero64).toArray 30)); refine wpList_store_row rfl _ _ _ rfl w7.heap.size XL.toArray rfl rfl 30 (Lib.byteCells zero64).toArray (heap_alloc_new w7 _) HXi.out HXs.out HX1.out ?_; obtain ⟨w8, hw8⟩ : ∃ x, x = (w7.alloc (.cells (Lib.byteCells zero64).toArray 30)).setRow w7.heap.size XL.toArray := ⟨_, rfl⟩; rw [← hw8]; obtain ⟨hX8, hb8⟩ := alloc_rowD w7 30 (Lib.byteCells zero64).toArray XL; rw [← hw8] at hX8 hb8; clear hw8; have hc8 : w8.cell? ⟨w7.heap.size, r, none⟩ = some (.int .u8 (x : Nat)) := (by rw [hX8.cell]; exact hxr); have hf8 := hX8.frozen r; have hX9 : Arr (w8.setCell ⟨w7.heap.size, r, none⟩ (.int .u8 (y : Nat))) w7.heap.size 30 YL := (by rw [HYL.out]; exact hX8.set r _))
    | (refine wpList_load_row rfl _ _ rfl w7.heap.size rfl 30 YL.toArray (0, 0) _ hX9 Try.underlying30 rfl HYi.out ?_))
  obtain ⟨w9, hw9⟩ : ∃ x, x = w8.setCell ⟨w7.heap.size, r, none⟩ (.int .u8 (y : Nat)) := ⟨_, rfl⟩
  have hO9 : Only (fun b => b = w7.heap.size) w7 w9 := by rw [hw9]; exact (Only.of_below (R := fun b => b = w7.heap.size) hb8).setCell (p := ⟨w7.heap.size, r, none⟩) (.inl rfl) _
  have hb9 : Below w7.heap.size w7 w9 := hO9.below (Nat.le_refl _) (by rintro j rfl; exact Nat.le_refl _)
  have hD9 := hD7.kept hb9.size (fun b hF => hb9.block b (hD7.Flt b hF))
  have hB9 := hB7.trans (hb9.mono hBs7)
  have hBs9 := hB9.size
  have hP9 := hP7.upD hb9
  rw [← hw9]
  clear hw9 hO9 hb9 hX8 hX9 hc8 hf8 hb8 hD7 hB7 hBs7 hP7
  refine Calls.mono (set_any F5 k gs gl bm vw base nm 20 S1 _ _ D false 0 p (X.set r y.toUInt8) YL w9 hD9 hRK hp20 (by rw [List.length_set]; exact hX64) HYc.out) ?_
  rintro e wA ⟨rfl, hsA, _, hOA, _⟩
  have hOF : Only F5 w9 wA := hOA.more (fun b _ h => h.elim (fun e => e ▸ hD9.Fs) (fun h => h.elim (fun e => e ▸ hD9.Fl) (fun h => h.elim (fun e => e ▸ hD9.Fm) (fun h => hD9.Fw b h.1))))
  obtain ⟨S2, hS2⟩ : ∃ S2, S2 = S1.set p (X.set r y.toUInt8) := ⟨_, rfl⟩
  have hS264 : ∀ x ∈ S2, x.length = 64 := fun x hx => by
    rw [hS2] at hx
    exact (List.mem_or_eq_of_mem_set hx).elim (hD9.s64 x) (fun e => by rw [e, List.length_set]; exact hX64)
  have hS2l : S2.length = 20 := by rw [hS2, List.length_set]; exact hD9.lS
  rw [← hS2] at hsA
  have hkA : wA.cell? ⟨k, 0, none⟩ = some (.slice (some ⟨gs, 0, none⟩) 20 20) := (World.cell?_of_block (hOA.block k (hD9.Flt k hD9.Fk) (fun h => h.elim hD9.ks (fun h => h.elim hD9.kl (fun h => h.elim hD9.km (fun h => hD9.wk h.1)))))).trans hD9.c0
  have hSeen : SeenW wA k gs 20 S2 := ⟨hkA, hsA, by omega, hS2l, hS264, Nat.lt_of_lt_of_le (hD9.Flt k hD9.Fk) hOA.size⟩
  have hBA : Below w.heap.size w wA := Only.upB hB9 hOF hF5b (Nat.le_refl _)
  have hBsA := hBA.size
  have hPA := hP9.only hOF hgrF
  have hgS2 : n ≤ k0 → getF S2 3 n = bs := fun h => by
    rw [hS2, ← Hp.out, ← HX.out, ← Hp.out]
    rw [getF_set hD9.s64 (by rw [hD9.lS, Hs.out]; omega) (by rw [Hs.out]; exact hqs) hr64 _ (by rw [Hqr.out]; exact h)]
    exact HgS.out
  have hf20 : 3 + secsF n ≤ 20 := by rw [Hs.out]; omega
  have hgA : gotF S2 3 n (secsF n) = getF S2 3 n := gotF_all hS264 (by rw [hS2l]; exact hf20)
  have hAA : Bs wA w.heap.size B bs := hA.below hBA (Nat.le_refl _)
  have HgS2 := Lib.hid hgS2
  have HgA := Lib.hid hgA
  clear hS2 hD9 hB9 hBs9 hP9 hOF hOA hsA hkA hgS2 hgA hRK hF5b hgrF
  have hgtR := gtR
  have hcmpD : ∀ w, (Op.equalIn 10000 36 (.agg DL.toArray) (.agg DL.toArray)).run Try.prog w = .ok true w := fun w => by
    rw [ref_eqv (blobDig bs) (blobDig bs) (blobDig_length _) (blobDig_length _) 3 n 3 n DL DL HDL.out HDL.out w]
    simp
  go_wp2_with (first
    | (refine wpList_load_row rfl _ _ rfl gr rfl 36 DL.toArray (0, 0) _ hPA Try.underlying36 rfl HDi.out ?_))
  by_cases hok : blobDig (gotF S2 3 n (secsF n)) = blobDig bs
  · refine Calls.mono (bread_seen k gs 20 3 S2 (blobDig bs) DL n wA hSeen true (blobDig_length _) (by omega) hf20 HDL.out (by simpa using hok)) ?_
    rintro e w9 ⟨h9, _, hb9⟩
    obtain ⟨g9, rfl, hA9, hg9⟩ := h9 (by first | rfl | trivial)
    have hgl : (gotF S2 3 n s).length = n := by rw [← Hs.out]; exact gotF_length S2 3 n hS264 _ (Nat.le_refl _)
    rw [Hs.out] at hA9 hok
    have hP9 := hPA.upD hb9
    have hB9 := hBA.trans (hb9.mono hBsA)
    have hBs9 := hB9.size
    have hbs9 : Bs w9 w9.heap.size (some ⟨g9, 0, none⟩) (gotF S2 3 n s) := Arr.bsB hA9
    have hAw : Bs w9 w.heap.size B bs := hAA.below hb9 hBsA
    have hg9b : (some ⟨g9, 0, none⟩ : Option Addr) = some ⟨g9, 0, none⟩ := rfl
    clear hSeen hBA hBsA hPA hAA h9 hg9 hA9 hb9 hg9b
    by_cases hkn : n ≤ k0
    · have e1 : decide ((n : Int) ≤ (k0 : Int)) = true := by simp; exact hkn
      have e1n : decide (n ≤ k0) = true := by simp; exact hkn
      have hgb : gotF S2 3 n s = bs := by
        have h := HgA.out
        rw [Hs.out] at h
        rw [h]
        exact HgS2.out hkn
      rw [hgb] at hbs9
      clear hok hgb
      go_wp2_with fail
      refine Calls.mono (same_n w9.heap.size w.heap.size (some ⟨g9, 0, none⟩) B n cB n n bs bs w9 true hbs9 hAw Hbl.out Hbl.out (by unfold maxLen; omega) (by unfold maxLen; omega) (by simp)) ?_
      rintro e wa ⟨rfl, nd, rfl⟩
      go_wp2_with fail
      go_ret
      exact ⟨rfl, Below.dN hB9 nd⟩
    · have e1 : decide ((n : Int) ≤ (k0 : Int)) = false := by simp; omega
      have e1n : decide (n ≤ k0) = false := by simp; omega
      have hP9d : Arr w9.drew gr 36 DL := hP9.drewN 1
      have hB9d : Below w.heap.size w w9.drew := Below.dN hB9 1
      have hbs9d : Bs w9.drew w9.drew.heap.size (some ⟨g9, 0, none⟩) (gotF S2 3 n s) := hbs9.drewN 1
      have HDL2 := Lib.hid (show DL = refC (blobDig (gotF S2 3 n s)) (3 : Nat) (n : Nat) by rw [hok]; exact HDL.out)
      clear hok hbs9 hAw
      go_wp2_with fail
      refine wp_region_held_drew (S := fun w' => w'.rangeAt gr 0 DL) (by kernel_rfl) hP9d.rangeD (fun hHeld => ?_)
      refine anyH_take (i := 0) (v := .int .i64 0) (some 88) rfl rfl (by kernel_rfl) (by kernel_rfl) (by kernel_rfl) (fun _ _ _ h => h) (Or.inl ⟨by rfl, fun _ _ => by rfl⟩) (by assumption) ?_
      simp only [Act.put, List.setIfInBounds_toArray, List.set_cons_zero, List.set_cons_succ]
      refine anyH_take (i := 1) (v := .bool false) (some 89) rfl rfl (by kernel_rfl) (by kernel_rfl) (by kernel_rfl) (fun _ _ _ h => h) (Or.inl ⟨by rfl, fun _ _ => by go_simp⟩) (by assumption) ?_
      simp only [Act.put, List.setIfInBounds_toArray, List.set_cons_zero, List.set_cons_succ]
      refine anyH_take (i := 2) (v := .bool false) (some 90) rfl rfl (by kernel_rfl) (by kernel_rfl) (by kernel_rfl) (fun _ _ _ h => h) (Or.inl ⟨by rfl, fun _ _ => by rfl⟩) (by assumption) ?_
      simp only [Act.put, List.setIfInBounds_toArray, List.set_cons_zero, List.set_cons_succ]
      refine anyH_take (i := 3) (v := undef) (some 91) rfl rfl (by kernel_rfl) (by kernel_rfl) (by kernel_rfl) (fun _ _ _ h => h) (Or.inr ⟨by rfl, rfl⟩) (by assumption) ?_
      simp only [Act.put, List.setIfInBounds_toArray, List.set_cons_zero, List.set_cons_succ]
      refine anyH_take (i := 4) (v := undef) (some 92) rfl rfl (by kernel_rfl) (by kernel_rfl) (by kernel_rfl) (fun _ _ _ h => h) (Or.inr ⟨by rfl, rfl⟩) (by assumption) ?_
      simp only [Act.put, List.setIfInBounds_toArray, List.set_cons_zero, List.set_cons_succ]
      refine anyH_take (i := 5) (v := undef) (some 93) rfl rfl (by kernel_rfl) (by kernel_rfl) (by kernel_rfl) (fun _ _ _ h => h) (Or.inr ⟨by rfl, rfl⟩) (by assumption) ?_
      simp only [Act.put, List.setIfInBounds_toArray, List.set_cons_zero, List.set_cons_succ]
      refine anyH_take (i := 6) (v := .bool false) (some 94) rfl rfl (by kernel_rfl) (by kernel_rfl) (by kernel_rfl) (fun _ _ _ h => h) (Or.inl ⟨by rfl, fun _ _ => by rfl⟩) (by assumption) ?_
      simp only [Act.put, List.setIfInBounds_toArray, List.set_cons_zero, List.set_cons_succ]
      refine anyH_take (i := 7) (v := .bool false) (some 95) rfl rfl (by kernel_rfl) (by kernel_rfl) (by kernel_rfl) (fun _ _ _ h => h) (Or.inl ⟨by rfl, fun _ _ => by rfl⟩) (by assumption) ?_
      simp only [Act.put, List.setIfInBounds_toArray, List.set_cons_zero, List.set_cons_succ]
      refine anyH_take (i := 8) (v := .int .i64 0) (some 96) rfl rfl (by kernel_rfl) (by kernel_rfl) (by kernel_rfl) (fun _ _ _ h => h) (Or.inl ⟨by rfl, fun _ _ => by rfl⟩) (by assumption) ?_
      simp only [Act.put, List.setIfInBounds_toArray, List.set_cons_zero, List.set_cons_succ]
      refine anyH_take (i := 9) (v := .bool true) (some 97) rfl rfl (by kernel_rfl) (by kernel_rfl) (by kernel_rfl) (fun _ _ _ h => h) (Or.inl ⟨by rfl, fun _ _ => by go_simp⟩) (by assumption) ?_
      simp only [Act.put, List.setIfInBounds_toArray, List.set_cons_zero, List.set_cons_succ]
      refine anyH_take (i := 10) (v := .bool true) (some 98) rfl rfl (by kernel_rfl) (by kernel_rfl) (by kernel_rfl) (fun _ _ _ h => h) (Or.inl ⟨by rfl, fun _ _ => by rfl⟩) (by assumption) ?_
      simp only [Act.put, List.setIfInBounds_toArray, List.set_cons_zero, List.set_cons_succ]
      refine anyH_take (i := 11) (v := .slice (some ⟨g9, 0, none⟩) n n) (some 99) rfl rfl (by kernel_rfl) (by kernel_rfl) (by kernel_rfl) (fun _ _ _ h => h) (Or.inl ⟨by rfl, fun _ _ => by rfl⟩) (by assumption) ?_
      simp only [Act.put, List.setIfInBounds_toArray, List.set_cons_zero, List.set_cons_succ]
      refine anyH_take (i := 13) (some 101) rfl rfl (by kernel_rfl) (by kernel_rfl) (by kernel_rfl) (fun _ _ _ h => h) (yieldsIf_load_mid (by rfl) 36 (.tmp 9) rfl gr 0 rfl DL _ (fun _ h => h) Try.underlying36 rfl HDn.out) (by assumption) ?_
      simp only [Act.put, List.setIfInBounds_toArray, List.set_cons_zero, List.set_cons_succ]
      refine wpAnyH_ready (rs := [12]) (by kernel_rfl) (by simp) ?_
      refine AllReadyH.cons rfl (fun K hK => ?_) AllReadyH.nil
      go_simp
      go_at_call 15
      refine Calls.mono (rof_any 3 (gotF S2 3 n s) DL (some ⟨g9, 0, none⟩) n n w9.drew hgl (by omega) (Nat.le_refl _) (by unfold maxLen; omega) hbs9d (by omega) (by omega) HDL2.out) ?_
      rintro e wa ⟨rfl, hba⟩
      have hPa := hP9d.upD hba
      have hBa : Below w.heap.size w wa := hB9d.trans (hba.mono hBs9)
      dsimp only
      go_wp2_with fail
      refine hK.out _ _ hPa.rangeD (fun hHeld => ?_)
      clear hK K
      try simp only [Act.put, List.setIfInBounds_toArray, List.set_cons_zero, List.set_cons_succ]
      refine wpAnyH_ready (rs := [14]) (by kernel_rfl) (by simp) ?_
      refine AllReadyH.cons rfl (fun K hK => ?_) AllReadyH.nil
      go_simp
      refine hK.out _ _ hPa.rangeD (fun hHeld => ?_)
      clear hK K
      try simp only [Act.put, List.setIfInBounds_toArray, List.set_cons_zero, List.set_cons_succ]
      refine anyH_take (i := 15) (v := .bool true) (some 103) rfl rfl (by kernel_rfl) (by kernel_rfl) (by kernel_rfl) (fun _ _ _ h => h) (Or.inl ⟨by rfl, fun _ _ => by rfl⟩) (by assumption) ?_
      simp only [Act.put, List.setIfInBounds_toArray, List.set_cons_zero, List.set_cons_succ]
      refine anyH_take (i := 16) (v := .bool true) (some 104) rfl rfl (by kernel_rfl) (by kernel_rfl) (by kernel_rfl) (fun _ _ _ h => h) (Or.inl ⟨by rfl, fun _ _ => by rfl⟩) (by assumption) ?_
      simp only [Act.put, List.setIfInBounds_toArray, List.set_cons_zero, List.set_cons_succ]
      refine anyH_take (i := 17) (v := .bool true) (some 6) rfl rfl (by kernel_rfl) (by kernel_rfl) (by kernel_rfl) (fun _ _ _ h => h) (Or.inl ⟨by rfl, fun _ _ => by rfl⟩) (by assumption) ?_
      simp only [Act.put, List.setIfInBounds_toArray, List.set_cons_zero, List.set_cons_succ]
      refine wpAnyH_done (by kernel_rfl) ?_ _
      go_wp2_with fail
      go_ret
      exact ⟨rfl, hBa⟩
  · refine Calls.mono (bread_seen k gs 20 3 S2 (blobDig bs) DL n wA hSeen false (blobDig_length _) (by omega) hf20 HDL.out (by simpa using hok)) ?_
    rintro e w9 ⟨_, h9, hb9⟩
    obtain rfl := h9 (by first | rfl | trivial)
    have hB9 := hBA.trans (hb9.mono hBsA)
    have hkn : ¬ n ≤ k0 := fun h => hok (by rw [HgA.out, HgS2.out h])
    have e1 : decide ((n : Int) ≤ (k0 : Int)) = false := by simp; omega
    have e1n : decide (n ≤ k0) = false := by simp; omega
    clear hSeen hBA hBsA hPA hAA h9 hb9 hok
    go_wp2_with fail
    go_quiet (fail)
    go_wp2_with fail
    go_ret
    exact ⟨rfl, Below.dN hB9 _⟩

theorem blobTurned_walk (B : Option Addr) (cB : Nat) (bs : List UInt8) (hnB : bs.length ≤ cB) (hcB : cB ≤ maxLen) (a : Int) (ha0 : -9223372036854775808 ≤ a) (ha1 : a ≤ 9223372036854775807) (t : Nat) (ht : t < 256) (w : World) (hA : Bs w w.heap.size B bs) :
    Calls Try.prog 7 #[.slice B bs.length cB, .int .i64 a, .int .u8 (t : Nat)] w fun e w' => e = .returned (.bool true) ∧ Below w.heap.size w w' := by
  by_cases h : 1000 < bs.length ∨ t = 0
  · exact bturned_great B _ cB a t w h
  · exact bturned_in B _ cB bs rfl hnB hcB a t ht w hA (by omega) (by omega)

end Go.Proofs.Ytongmiebojilfaa

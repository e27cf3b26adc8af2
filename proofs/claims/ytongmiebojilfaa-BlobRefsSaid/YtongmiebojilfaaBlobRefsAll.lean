/-
  The walk of BlobRefs.
-/
import Derived.Test.YtongmiebojilfaaGrow
import Derived.Test.YtongmiebojilfaaTagged
import Derived.Test.YtongmiebojilfaaBlobEq
import Derived.Test.YtongmiebojilfaaRefDig
import Derived.Test.YtongmiebojilfaaRel
import Derived.Test.YtongmiebojilfaaBlobOf
import Derived.Test.YtongmiebojilfaaGen
import Derived.Test.YtongmiebojilfaaRefNum
import Derived.Test.YtongmiebojilfaaPackMath
import Derived.Test.YtongmiebojilfaaBlobSpeaks
import Derived.Test.YtongmiebojilfaaSame
namespace Go.Proofs.Ytongmiebojilfaa
open Go.RowKit
set_option linter.unusedVariables false
set_option linter.unusedSimpArgs false

theorem flat_take {rs : List (List UInt8)} {k : Nat} (h : k < rs.length) : (rs.take (k + 1)).flatten = (rs.take k).flatten ++ rs.getD k [] := by
  rw [List.take_succ_eq_append_getElem h, List.flatten_append]
  simp [List.getD, h]
theorem flat_le (rs : List (List UInt8)) (k : Nat) : (rs.take k).flatten.length ≤ rs.flatten.length := by
  conv => rhs; rw [← List.take_append_drop k rs, List.flatten_append, List.length_append]
  exact Nat.le_add_right _ _

theorem grow_zero (n : Nat) (w : World) (hn : n ≤ 1000000) :
    Calls Try.prog 56 #[.slice none 0 0, .int .i64 n] w fun e w' => ∃ v, e = .returned v ∧ Owns w' w.heap.size 5 v [] ∧ Below w.heap.size w w' := by
  by_cases h0 : n = 0
  · subst h0
    refine (grow_room none 0 0 0 w (by omega) (by omega) (by omega) (by omega)).mono ?_
    rintro e w' ⟨rfl, rfl⟩
    exact ⟨_, rfl, Owns.nil _ _ _, Below.refl _ _⟩
  · refine (grow_any w.heap.size n (.slice none 0 0) [] w (Owns.nil _ _ _) (Nat.le_refl _) (by omega) (by simp; omega)).mono ?_
    rintro e w' ⟨g, c, rfl, _, hown, hgr⟩
    exact ⟨_, rfl, hown, hgr.below (Nat.le_refl _) (fun k hk => by cases hk)⟩

set_option maxHeartbeats 4000000 in
set_option maxRecDepth 100000 in
theorem concat_any (rs : List (List UInt8)) (A : Option Addr) (n c : Nat) (w : World) (hn : rs.length = n) (hn2 : n ≤ 1000) (hr : RowsAt w w.heap.size A rs) (hlim : rs.flatten.length ≤ 1000000) :
    Calls Try.prog 43 #[.slice A n c] w fun e w' => ∃ v, e = .returned v ∧ Owns w' w.heap.size 5 v rs.flatten ∧ Below w.heap.size w w' := by
  obtain ⟨i0, hi, hz0, hz1, hz2⟩ := info_parts byteInfo
  have Hn := Lib.hid hn
  clear hn
  go_enter Try.func43, Try.ntmps43
  go_wp2
  go_loopw [3, 11] (fun s i wr => ∃ k : Nat, k ≤ n ∧ i = .int .i64 k ∧ s = .int .i64 ((rs.take k).flatten.length : Nat) ∧ wr = w) (fun _ i _ => n - (intOf i).toNat)
  case atStart => exact ⟨0, by omega, rfl, rfl, rfl⟩
  case round =>
    obtain ⟨k, hk, rfl, rfl, rfl⟩ := hrel
    obtain ⟨wq, hwq⟩ : ∃ x, x = wr := ⟨_, rfl⟩
    subst hwq
    have hle := flat_le rs k
    have hle1 := flat_le rs (k + 1)
    by_cases hlt : k < n
    · have hkr : k < rs.length := by rw [Hn.out]; exact hlt
      have hft := flat_take hkr
      obtain ⟨b, off, rfl, hbB, hrow⟩ := hr (by omega)
      obtain ⟨X, cx, hc, hlc, hcm, hbs⟩ := hrow k hkr
      obtain ⟨r, hre⟩ : ∃ r, rs.getD k [] = r := ⟨_, rfl⟩
      rw [hre] at hc hlc hft
      obtain ⟨t, ht⟩ : ∃ t, (rs.take k).flatten.length = t := ⟨_, rfl⟩
      obtain ⟨m, hm⟩ : ∃ m, r.length = m := ⟨_, rfl⟩
      obtain ⟨u, hu⟩ : ∃ u, (rs.take (k + 1)).flatten.length = u := ⟨_, rfl⟩
      have htm : t + m = u := by rw [← ht, ← hm, ← hu, hft, List.length_append]
      have huB : u ≤ 1000000 := by omega
      have hI : (t : Int) + (m : Int) = (u : Int) := by omega
      have hd0 : decide ((u : Int) < (0 : Int)) = false := by simp
      have hd1 : decide (k < n) = true := by simp; exact hlt
      have hkI : (k : Int) < (n : Int) := by omega
      rw [hm] at hc
      rw [ht] at *
      have Hu := Lib.hid hu
      clear ht hu hm hre hft hrow hle hle1 hlc hbs
      go_wp2
      go_roundw
      case rel => exact ⟨k + 1, by omega, by go_num, by rw [Hu.out], (by first | rfl | trivial)⟩
      case measure => simp [intOf]; omega
    · obtain rfl : k = n := by omega
      have hd1 : decide (k < k) = false := by simp
      have htk : rs.take k = rs := List.take_of_length_le (by rw [Hn.out]; omega)
      rw [htk]
      obtain ⟨t, ht⟩ : ∃ t, rs.flatten.length = t := ⟨_, rfl⟩
      rw [ht] at hlim
      have hlimF : ∀ j, (rs.take j).flatten.length ≤ t := fun j => by rw [← ht]; exact flat_le rs j
      have HlimF := Lib.hid hlimF
      rw [ht]
      have Htk := Lib.hid htk
      clear htk hle hle1 ht hlimF
      go_wp2_with fail
      refine Calls.mono (grow_zero t wq hlim) ?_
      rintro e w1 ⟨v1, rfl, hown1, hb1⟩
      have hown0 : Owns w1 wq.heap.size 5 v1 (rs.take 0).flatten := by simpa using hown1
      clear hown1
      go_wp2_with fail
      go_loopw [6, 27] (fun v i wr => ∃ j : Nat, j ≤ k ∧ i = .int .i64 j ∧ Owns wr wq.heap.size 5 v (rs.take j).flatten ∧ Below wq.heap.size wq wr) (fun _ i _ => k - (intOf i).toNat)
      case atStart => exact ⟨0, by omega, rfl, hown0, hb1⟩
      case round =>
        clear hown0 hb1
        obtain ⟨j, hj, rfl, hown, hbel⟩ := hrel
        by_cases hlt2 : j < k
        · have hjr : j < rs.length := by rw [Hn.out]; exact hlt2
          have hft := flat_take hjr
          have hle2 := HlimF.out (j + 1)
          have hsz := hbel.size
          obtain ⟨b, off, rfl, hbB, hrow⟩ := hr (by omega)
          obtain ⟨X, cx, hc, hlc, hcm, hbs⟩ := hrow j hjr
          obtain ⟨r, hre⟩ : ∃ r, rs.getD j [] = r := ⟨_, rfl⟩
          rw [hre] at hc hlc hft hbs
          rw [hft, List.length_append] at hle2
          have hcw : wr.cell? ⟨b, off + j, none⟩ = some (.slice X r.length cx) := (hbel.cell (p := ⟨b, _, none⟩) hbB).trans hc
          have hbw : Bs wr wq.heap.size X r := hbs.below hbel (Nat.le_refl _)
          have hd2 : decide (j < k) = true := by simp; exact hlt2
          have hjI : (j : Int) < (k : Int) := by omega
          obtain ⟨m, hm⟩ : ∃ m, r.length = m := ⟨_, rfl⟩
          rw [hm] at hcw hle2
          have Hft := Lib.hid hft
          have Hm := Lib.hid hm
          have hlt1 := hown.lt
          clear hft hm hre hrow hc hbs hlc
          go_wp2_with (refine wpList_append_bs rfl _ _ 22 rfl wq.heap.size 5 i0 (.int .u8 0) Try.underlying22 hi hz0 hz1 hz2 rfl _ _ rfl hown wq.heap.size X m cx r rfl Hm.out hbw (by omega) hsz ?_; intro v5 w5 hown5 hgr5)
          have hb5 : Below wq.heap.size wq w5 := hbel.trans (hgr5.below hsz (fun q hq => (hlt1 q hq).1))
          go_roundw
          case rel => exact ⟨j + 1, by omega, by go_num, by rw [Hft.out]; exact hown5, hb5⟩
          case measure => simp [intOf]; omega
        · obtain rfl : j = k := by omega
          have hd2 : decide (j < j) = false := by simp
          rw [Htk.out] at hown
          go_wp2
          go_ret
          exact ⟨_, rfl, hown, hbel⟩

end Go.Proofs.Ytongmiebojilfaa

namespace Go.Proofs.Ytongmiebojilfaa
open Go.RowKit
set_option linter.unusedVariables false
set_option linter.unusedSimpArgs false

set_option maxRecDepth 100000 in
theorem ref_built1 (d : List UInt8) (VL : List Value) (hV : VL = Lib.byteCells d) (hd : d.length = 32) : Try.prog.built 36 [(0, .agg VL.toArray)] = some (refC d 0 0).toArray := by
  have hl : VL.length = 32 := by rw [hV, Lib.byteCells_length, hd]
  rw [ref_fill]
  have h1 := fill_mid (#[(0, 32), (32, 1), (33, 1)][·]?) refZ.toArray 0 0 VL (by rw [hl]; rfl) (by rw [hl]; decide +kernel)
  rw [hl] at h1
  rw [h1, hV]
  rfl
theorem refC_set1 {d : List UInt8} (hd : d.length = 32) (a n x : Int) : (refC d a n).set 32 (.int .i64 x) = refC d x n := by
  unfold refC
  rw [List.set_append_right _ _ (by rw [Lib.byteCells_length, hd]; exact Nat.le_refl _), Lib.byteCells_length, hd]
  rfl
theorem refC_set2 {d : List UInt8} (hd : d.length = 32) (a n x : Int) : (refC d a n).set 33 (.int .i64 x) = refC d a x := by
  unfold refC
  rw [List.set_append_right _ _ (by rw [Lib.byteCells_length, hd]; decide), Lib.byteCells_length, hd]
  rfl
theorem Turn.only {p : Nat} {w w' : World} (h : Turn p w w') : Only (fun b => b = p) w w' := ⟨h.os, h.tape, h.output, h.size, fun k hk hn => h.block k hk (fun e => hn (by injection e))⟩
theorem Only.turn {p : Nat} {w w' : World} (h : Only (fun b => b = p) w w') : Turn p w w' := ⟨h.os, h.tape, h.output, h.size, fun k hk hn => h.block k hk (fun e => hn (by rw [e]))⟩
/-- What Take gives. -/
def tkC (d : List UInt8) (a n : Nat) (b : Bool) : List Value := if b then refZ else refC d (a : Nat) (n : Nat)
theorem numF_le' (most : Nat) (l : List UInt8) : (numF most l).1 ≤ most := by
  unfold numF
  split
  · exact Nat.zero_le _
  · rename_i h; exact Nat.le_of_not_lt (fun e => h (.inr e))

/-- What lies at p and below stays. -/
def Low (p : Nat) (w w' : World) : Prop := w.heap.size ≤ w'.heap.size ∧ ∀ k, k ≤ p → w'.heap[k]? = w.heap[k]?
theorem PIn.low {p : Nat} {l : List UInt8} {wr : Bool} {w w' : World} (h : PIn w p l wr) (hb : Low p w w') : PIn w' p l wr := by
  obtain ⟨A, c, hg, h1, h2, h3, h4⟩ := h
  exact ⟨A, c, (hb.2 p (Nat.le_refl _)).trans hg, h1, h2, h3.keep fun b o hlt => World.cell?_of_block (hb.2 b (Nat.le_of_lt hlt)), h4⟩
theorem RIn.low {q : Nat} {L : List UInt8} {A : Option Addr} {c o : Nat} {wr : Bool} {w w' : World} (h : RIn w q L A c o wr) (hb : Low q w w') : RIn w' q L A c o wr := (hb.2 q (Nat.le_refl _)).trans h
theorem RFix.low {q : Nat} {L : List UInt8} {A : Option Addr} {c : Nat} {w w' : World} (h : RFix w q L A c) (hb : Low q w w') : RFix w' q L A c :=
  ⟨h.le, h.lim, h.cap, h.bytes.keep fun b o hlt => World.cell?_of_block (hb.2 b (Nat.le_of_lt hlt))⟩
theorem ref_zeroT : Try.prog.built 36 [] = some refZ.toArray := by kernel_rfl

set_option maxHeartbeats 8000000 in
set_option maxRecDepth 100000 in
theorem btake_gen (p : Nat) (I0 I1 I2 I3 : World → Prop) (d : List UInt8) (hdl : d.length = 32) (VL : List Value) (hVL : VL = Lib.byteCells d) (a n : Nat) (ha : a ≤ 65535) (hn : n ≤ 65536) (b3 : Bool) (TL : List Value) (hTL : TL = tkC d a n b3)
    (k0 : ∀ w w', I0 w → Low p w w' → I0 w') (k1 : ∀ w w', I1 w → Low p w w' → I1 w') (k2 : ∀ w w', I2 w → Low p w w' → I2 w') (k3 : ∀ w w', I3 w → Low p w w' → I3 w')
    (hdig : ∀ w, I0 w → Calls Try.prog 38 #[.pointer (some ⟨p, 0, none⟩)] w fun e w' => e = .returned (.agg VL.toArray) ∧ I1 w' ∧ Turn p w w')
    (hn1 : ∀ w, I1 w → Calls Try.prog 39 #[.pointer (some ⟨p, 0, none⟩), .int .u64 65535] w fun e w' => e = .returned (.int .u64 (a : Nat)) ∧ I2 w' ∧ Turn p w w')
    (hn2 : ∀ w, I2 w → Calls Try.prog 39 #[.pointer (some ⟨p, 0, none⟩), .int .u64 65536] w fun e w' => e = .returned (.int .u64 (n : Nat)) ∧ I3 w' ∧ Turn p w w')
    (hwr : ∀ w, I3 w → Calls Try.prog 40 #[.pointer (some ⟨p, 0, none⟩)] w fun e w' => e = .returned (.bool b3) ∧ w' = w)
    (w : World) (h : I0 w) (hp : p < w.heap.size) :
    Calls Try.prog 22 #[.pointer (some ⟨p, 0, none⟩)] w fun e w' => e = .returned (.agg TL.toArray) ∧ I3 w' ∧ Turn p w w' := by
  have hVl : VL.length = 32 := by rw [hVL, Lib.byteCells_length]; exact hdl
  have hB1 := ref_built1 d VL hVL hdl
  obtain ⟨D0, hD0⟩ : ∃ x, x = refC d 0 0 := ⟨_, rfl⟩
  obtain ⟨D1, hD1⟩ : ∃ x, x = refC d a 0 := ⟨_, rfl⟩
  obtain ⟨D2, hD2⟩ : ∃ x, x = refC d a n := ⟨_, rfl⟩
  have hs1 : D0.set 32 (.int .i64 (a : Nat)) = D1 := by rw [hD0, hD1]; exact refC_set1 hdl _ _ _
  have hs2 : D1.set 33 (.int .i64 (n : Nat)) = D2 := by rw [hD1, hD2]; exact refC_set2 hdl _ _ _
  have h032 : D0[32]? = some (.int .i64 0) := by rw [hD0]; exact (refC_at hdl 0 0).1
  have h133 : D1[33]? = some (.int .i64 0) := by rw [hD1]; exact (refC_at hdl a 0).2
  rw [← hD0] at hB1
  have HB1 := Lib.hid hB1
  have hD0l : D0.length = 34 := by rw [hD0]; exact refC_length hdl _ _
  have hD2l : D2.length = 34 := by rw [hD2]; exact refC_length hdl _ _
  have HDi := Lib.hid (show (Try.prog.info? 36).map (·.size) = some D0.toArray.size by rw [List.size_toArray, hD0l]; exact refSize)
  have HDs := Lib.hid (show refZ.toArray.size = D0.toArray.size by rw [List.size_toArray, List.size_toArray, hD0l]; rfl)
  have HD1 := Lib.hid (show D0.toArray.all (·.oneCell') = true by rw [hD0]; exact all_oneCell_toArray (refC_cell _ _ _))
  have HEi := Lib.hid (show (Try.prog.info? 36).map (·.size) = some D2.toArray.size by rw [List.size_toArray, hD2l]; exact refSize)
  have hTl : TL.length = 34 := by rw [hTL]; unfold tkC; split; exact refC_length (by simp) _ _; exact refC_length hdl _ _
  have HTi := Lib.hid (show (Try.prog.info? 36).map (·.size) = some TL.toArray.size by rw [List.size_toArray, hTl]; exact refSize)
  have HTs := Lib.hid (show refZ.toArray.size = TL.toArray.size by rw [List.size_toArray, List.size_toArray, hTl]; rfl)
  have HT1 := Lib.hid (show TL.toArray.all (·.oneCell') = true by rw [hTL]; unfold tkC; split; exact all_oneCell_toArray (refC_cell _ _ _); exact all_oneCell_toArray (refC_cell _ _ _))
  have hia : IntKind.i64.wrap ((a : Nat) : Int) = ((a : Nat) : Int) := IntWalk.i64_in _ (by omega)
  have hin : IntKind.i64.wrap ((n : Nat) : Int) = ((n : Nat) : Int) := IntWalk.i64_in _ (by omega)
  have Hz := Lib.hid (show b3 = true → Try.prog.built 36 [] = some TL.toArray from fun e => by rw [hTL, e]; exact ref_zeroT)
  have He := Lib.hid (show b3 = false → D2 = TL from fun e => by rw [hTL, hD2, e]; rfl)
  obtain ⟨W1, hW1⟩ : ∃ x, x = w.alloc (.cells refZ.toArray 36) := ⟨_, rfl⟩
  have hR1 : Arr W1 w.heap.size 36 refZ := by rw [hW1]; exact Arr.new w _ _
  have hO1 : Only (fun b => b = p) w W1 := by rw [hW1]; exact (Only.refl _ w).alloc _
  have hz1 : w.heap.size < W1.heap.size := hR1.lt
  have hI1 : I0 W1 := k0 w W1 h ⟨by omega, fun k hk => by rw [hW1]; exact Below.heap_alloc w _ k (by omega)⟩
  have HW1 := Lib.hid hW1
  have HS1 := Lib.hid hs1
  have HS2 := Lib.hid hs2
  clear hW1 hD0 hD1 hD2 hVL hTL hB1 hs1 hs2
  go_enter Try.func22, Try.ntmps22
  go_upto_region 1 with fail
  change Code.wp _ _ _ _ (w.alloc (.cells refZ.toArray 36))
  rw [← HW1.out]
  clear HW1
  go_wp2_with fail
  go_at_call 38
  refine Calls.mono (hdig W1 hI1) ?_
  rintro e w2 ⟨rfl, hI2, ht2⟩
  have hO2 := hO1.trans ht2.only
  have hR2 : Arr w2 w.heap.size 36 refZ := hR1.only ht2.only (by omega)
  have hz2 := ht2.size
  clear hdig hO1 hR1 hI1 ht2
  go_wp2_with (first
    | (refine wpList_builtD rfl _ _ rfl [(0, .agg VL.toArray)] rfl D0.toArray HB1.out ?_)
    | (change wpList _ _ _ _ _ (w2.alloc (.cells refZ.toArray 36)); refine wpList_store_row rfl _ _ _ rfl w2.heap.size D0.toArray rfl rfl 36 refZ.toArray (heap_alloc_new w2 _) HDi.out HDs.out HD1.out ?_; obtain ⟨w3, hw3⟩ : ∃ x, x = (w2.alloc (.cells refZ.toArray 36)).setRow w2.heap.size D0.toArray := ⟨_, rfl⟩; rw [← hw3]; obtain ⟨hX3, hb3⟩ := alloc_rowD w2 36 refZ.toArray D0; rw [← hw3] at hX3 hb3; clear hw3))
  obtain ⟨g, hg⟩ : ∃ g, g = w2.heap.size := ⟨_, rfl⟩
  rw [← hg] at hX3 ⊢
  have hgp : p < g := by omega
  have hgw : w.heap.size < g := by omega
  have hR3 : Arr w3 w.heap.size 36 refZ := hR2.below hb3 hR2.lt
  have hO3 := hO2.step hb3
  have hI3 : I1 w3 := k1 w2 w3 hI2 ⟨hb3.size, fun k hk => hb3.block k (by omega)⟩
  have hz3 := hb3.size
  have hgz : g < w3.heap.size := hX3.lt
  clear hb3 hO2 hR2 hI2 hg hz3 hz2
  refine Calls.mono (hn1 w3 hI3) ?_
  rintro e w4 ⟨rfl, hI4, ht4⟩
  have hX4 := hX3.only ht4.only (by omega)
  have hR4 := hR3.only ht4.only (by omega)
  have hO4 := hO3.trans ht4.only
  have hz4 := ht4.size
  have hc4 : w4.cell? ⟨g, 32, none⟩ = some (.int .i64 0) := by rw [hX4.cell]; exact h032
  have hf4 := hX4.frozen 32
  clear hX3 hR3 hO3 hI3 ht4 hn1
  go_wp2_with fail
  obtain ⟨w5, hw5⟩ : ∃ x, x = w4.setCell ⟨g, 32, none⟩ (.int .i64 (a : Nat)) := ⟨_, rfl⟩
  have hX5 : Arr w5 g 36 D1 := by rw [hw5, ← HS1.out]; exact hX4.set 32 _
  have hR5 : Arr w5 w.heap.size 36 refZ := by rw [hw5]; exact hR4.setOther (Nat.ne_of_lt hgw) _
  have hO5 : Only (fun b => b = p) w w5 := by rw [hw5]; exact hO4.setCell (p := ⟨g, 32, none⟩) (.inr (Nat.le_of_lt hgw)) _
  have hz5 : w5.heap.size = w4.heap.size := by rw [hw5]; simp [World.setCell]
  have hI5 : I2 w5 := k2 w4 w5 hI4 ⟨by omega, fun k hk => by rw [hw5]; exact Below.heap_setCell w4 _ _ k (show k ≠ g by omega)⟩
  rw [← hw5]
  clear hw5 hX4 hR4 hO4 hI4 hc4 hf4
  go_wp2_with fail
  refine Calls.mono (hn2 w5 hI5) ?_
  rintro e w6 ⟨rfl, hI6, ht6⟩
  have hX6 := hX5.only ht6.only (by omega)
  have hR6 := hR5.only ht6.only (by omega)
  have hO6 := hO5.trans ht6.only
  have hz6 := ht6.size
  have hc6 : w6.cell? ⟨g, 33, none⟩ = some (.int .i64 0) := by rw [hX6.cell]; exact h133
  have hf6 := hX6.frozen 33
  clear hX5 hR5 hO5 hI5 ht6 hn2
  go_wp2_with fail
  obtain ⟨w7, hw7⟩ : ∃ x, x = w6.setCell ⟨g, 33, none⟩ (.int .i64 (n : Nat)) := ⟨_, rfl⟩
  have hX7 : Arr w7 g 36 D2 := by rw [hw7, ← HS2.out]; exact hX6.set 33 _
  have hR7 : Arr w7 w.heap.size 36 refZ := by rw [hw7]; exact hR6.setOther (Nat.ne_of_lt hgw) _
  have hO7 : Only (fun b => b = p) w w7 := by rw [hw7]; exact hO6.setCell (p := ⟨g, 33, none⟩) (.inr (Nat.le_of_lt hgw)) _
  have hz7 : w7.heap.size = w6.heap.size := by rw [hw7]; simp [World.setCell]
  have hI7 : I3 w7 := k3 w6 w7 hI6 ⟨by omega, fun k hk => by rw [hw7]; exact Below.heap_setCell w6 _ _ k (show k ≠ g by omega)⟩
  rw [← hw7]
  clear hw7 hX6 hR6 hO6 hI6 hc6 hf6
  have hR7h : Hid (w7.heap[w.heap.size]? = some (.cells refZ.toArray 36 (0, 0))) := hR7
  have hset := hR7.setRow TL
  have hOz : Only (fun b => b = p) w (w7.setRow w.heap.size TL.toArray) := hO7.setRow (.inr (Nat.le_refl _)) _
  have hIz : I3 (w7.setRow w.heap.size TL.toArray) := k3 w7 _ hI7 ⟨by simp, fun k hk => setRow_other w7 _ k _ (by omega)⟩
  cases b3
  · go_wp2_with fail
    refine Calls.mono (hwr w7 hI7) ?_
    rintro e w8 ⟨rfl, rfl⟩
    have e := He.out (by first | rfl | trivial)
    subst e
    go_wp2_with (first
      | (refine wpList_load_row rfl _ _ rfl g rfl 36 D2.toArray (0, 0) _ hX7 Try.underlying36 rfl HEi.out ?_)
      | (refine wpList_store_row rfl _ _ _ rfl w.heap.size D2.toArray rfl rfl 36 refZ.toArray hR7h.out HTi.out HTs.out HT1.out ?_))
    exact bodyPost_ret (v := .agg D2.toArray) (results_cell_row (by rfl) _ _ w.heap.size 36 D2.toArray (0, 0) _ (by rfl) hset Try.underlying36 rfl HTi.out) rfl ⟨rfl, hIz, hOz.turn⟩
  · have Hz2 := Lib.hid (Hz.out (by first | rfl | trivial))
    go_wp2_with fail
    refine Calls.mono (hwr w7 hI7) ?_
    rintro e w8 ⟨rfl, rfl⟩
    go_wp2_with (first
      | (refine wpList_builtD rfl _ _ rfl [] rfl TL.toArray Hz2.out ?_)
      | (refine wpList_store_row rfl _ _ _ rfl w.heap.size TL.toArray rfl rfl 36 refZ.toArray hR7h.out HTi.out HTs.out HT1.out ?_))
    exact bodyPost_ret (v := .agg TL.toArray) (results_cell_row (by rfl) _ _ w.heap.size 36 TL.toArray (0, 0) _ (by rfl) hset Try.underlying36 rfl HTi.out) rfl ⟨rfl, hIz, hOz.turn⟩

set_option maxHeartbeats 8000000 in
set_option maxRecDepth 100000 in
theorem rtake_gen (p : Nat) (I0 I1 I2 I3 : World → Prop) (d : List UInt8) (hdl : d.length = 32) (VL : List Value) (hVL : VL = Lib.byteCells d) (a n : Nat) (ha : a ≤ 65535) (hn : n ≤ 65536) (b3 : Bool) (TL : List Value) (hTL : TL = tkC d a n b3)
    (k0 : ∀ w w', I0 w → Low p w w' → I0 w') (k1 : ∀ w w', I1 w → Low p w w' → I1 w') (k2 : ∀ w w', I2 w → Low p w w' → I2 w') (k3 : ∀ w w', I3 w → Low p w w' → I3 w')
    (hdig : ∀ w, I0 w → Calls Try.prog 41 #[.pointer (some ⟨p, 0, none⟩)] w fun e w' => e = .returned (.agg VL.toArray) ∧ I1 w' ∧ Turn p w w')
    (hn1 : ∀ w, I1 w → Calls Try.prog 42 #[.pointer (some ⟨p, 0, none⟩), .int .u64 65535] w fun e w' => e = .returned (.int .u64 (a : Nat)) ∧ I2 w' ∧ Turn p w w')
    (hn2 : ∀ w, I2 w → Calls Try.prog 42 #[.pointer (some ⟨p, 0, none⟩), .int .u64 65536] w fun e w' => e = .returned (.int .u64 (n : Nat)) ∧ I3 w' ∧ Turn p w w')
    (hwr : ∀ w, I3 w → w.cell? ⟨p, 2, none⟩ = some (.bool b3))
    (w : World) (h : I0 w) (hp : p < w.heap.size) :
    Calls Try.prog 23 #[.pointer (some ⟨p, 0, none⟩)] w fun e w' => e = .returned (.agg TL.toArray) ∧ I3 w' ∧ Turn p w w' := by
  have hVl : VL.length = 32 := by rw [hVL, Lib.byteCells_length]; exact hdl
  have hB1 := ref_built1 d VL hVL hdl
  obtain ⟨D0, hD0⟩ : ∃ x, x = refC d 0 0 := ⟨_, rfl⟩
  obtain ⟨D1, hD1⟩ : ∃ x, x = refC d a 0 := ⟨_, rfl⟩
  obtain ⟨D2, hD2⟩ : ∃ x, x = refC d a n := ⟨_, rfl⟩
  have hs1 : D0.set 32 (.int .i64 (a : Nat)) = D1 := by rw [hD0, hD1]; exact refC_set1 hdl _ _ _
  have hs2 : D1.set 33 (.int .i64 (n : Nat)) = D2 := by rw [hD1, hD2]; exact refC_set2 hdl _ _ _
  have h032 : D0[32]? = some (.int .i64 0) := by rw [hD0]; exact (refC_at hdl 0 0).1
  have h133 : D1[33]? = some (.int .i64 0) := by rw [hD1]; exact (refC_at hdl a 0).2
  rw [← hD0] at hB1
  have HB1 := Lib.hid hB1
  have hD0l : D0.length = 34 := by rw [hD0]; exact refC_length hdl _ _
  have hD2l : D2.length = 34 := by rw [hD2]; exact refC_length hdl _ _
  have HDi := Lib.hid (show (Try.prog.info? 36).map (·.size) = some D0.toArray.size by rw [List.size_toArray, hD0l]; exact refSize)
  have HDs := Lib.hid (show refZ.toArray.size = D0.toArray.size by rw [List.size_toArray, List.size_toArray, hD0l]; rfl)
  have HD1 := Lib.hid (show D0.toArray.all (·.oneCell') = true by rw [hD0]; exact all_oneCell_toArray (refC_cell _ _ _))
  have HEi := Lib.hid (show (Try.prog.info? 36).map (·.size) = some D2.toArray.size by rw [List.size_toArray, hD2l]; exact refSize)
  have hTl : TL.length = 34 := by rw [hTL]; unfold tkC; split; exact refC_length (by simp) _ _; exact refC_length hdl _ _
  have HTi := Lib.hid (show (Try.prog.info? 36).map (·.size) = some TL.toArray.size by rw [List.size_toArray, hTl]; exact refSize)
  have HTs := Lib.hid (show refZ.toArray.size = TL.toArray.size by rw [List.size_toArray, List.size_toArray, hTl]; rfl)
  have HT1 := Lib.hid (show TL.toArray.all (·.oneCell') = true by rw [hTL]; unfold tkC; split; exact all_oneCell_toArray (refC_cell _ _ _); exact all_oneCell_toArray (refC_cell _ _ _))
  have hia : IntKind.i64.wrap ((a : Nat) : Int) = ((a : Nat) : Int) := IntWalk.i64_in _ (by omega)
  have hin : IntKind.i64.wrap ((n : Nat) : Int) = ((n : Nat) : Int) := IntWalk.i64_in _ (by omega)
  have Hz := Lib.hid (show b3 = true → Try.prog.built 36 [] = some TL.toArray from fun e => by rw [hTL, e]; exact ref_zeroT)
  have He := Lib.hid (show b3 = false → D2 = TL from fun e => by rw [hTL, hD2, e]; rfl)
  obtain ⟨W1, hW1⟩ : ∃ x, x = w.alloc (.cells refZ.toArray 36) := ⟨_, rfl⟩
  have hR1 : Arr W1 w.heap.size 36 refZ := by rw [hW1]; exact Arr.new w _ _
  have hO1 : Only (fun b => b = p) w W1 := by rw [hW1]; exact (Only.refl _ w).alloc _
  have hz1 : w.heap.size < W1.heap.size := hR1.lt
  have hI1 : I0 W1 := k0 w W1 h ⟨by omega, fun k hk => by rw [hW1]; exact Below.heap_alloc w _ k (by omega)⟩
  have HW1 := Lib.hid hW1
  have HS1 := Lib.hid hs1
  have HS2 := Lib.hid hs2
  clear hW1 hD0 hD1 hD2 hVL hTL hB1 hs1 hs2
  go_enter Try.func23, Try.ntmps23
  go_upto_region 1 with fail
  change Code.wp _ _ _ _ (w.alloc (.cells refZ.toArray 36))
  rw [← HW1.out]
  clear HW1
  go_wp2_with fail
  go_at_call 41
  refine Calls.mono (hdig W1 hI1) ?_
  rintro e w2 ⟨rfl, hI2, ht2⟩
  have hO2 := hO1.trans ht2.only
  have hR2 : Arr w2 w.heap.size 36 refZ := hR1.only ht2.only (by omega)
  have hz2 := ht2.size
  clear hdig hO1 hR1 hI1 ht2
  go_wp2_with (first
    | (refine wpList_builtD rfl _ _ rfl [(0, .agg VL.toArray)] rfl D0.toArray HB1.out ?_)
    | (change wpList _ _ _ _ _ (w2.alloc (.cells refZ.toArray 36)); refine wpList_store_row rfl _ _ _ rfl w2.heap.size D0.toArray rfl rfl 36 refZ.toArray (heap_alloc_new w2 _) HDi.out HDs.out HD1.out ?_; obtain ⟨w3, hw3⟩ : ∃ x, x = (w2.alloc (.cells refZ.toArray 36)).setRow w2.heap.size D0.toArray := ⟨_, rfl⟩; rw [← hw3]; obtain ⟨hX3, hb3⟩ := alloc_rowD w2 36 refZ.toArray D0; rw [← hw3] at hX3 hb3; clear hw3))
  obtain ⟨g, hg⟩ : ∃ g, g = w2.heap.size := ⟨_, rfl⟩
  rw [← hg] at hX3 ⊢
  have hgp : p < g := by omega
  have hgw : w.heap.size < g := by omega
  have hR3 : Arr w3 w.heap.size 36 refZ := hR2.below hb3 hR2.lt
  have hO3 := hO2.step hb3
  have hI3 : I1 w3 := k1 w2 w3 hI2 ⟨hb3.size, fun k hk => hb3.block k (by omega)⟩
  have hz3 := hb3.size
  have hgz : g < w3.heap.size := hX3.lt
  clear hb3 hO2 hR2 hI2 hg hz3 hz2
  refine Calls.mono (hn1 w3 hI3) ?_
  rintro e w4 ⟨rfl, hI4, ht4⟩
  have hX4 := hX3.only ht4.only (by omega)
  have hR4 := hR3.only ht4.only (by omega)
  have hO4 := hO3.trans ht4.only
  have hz4 := ht4.size
  have hc4 : w4.cell? ⟨g, 32, none⟩ = some (.int .i64 0) := by rw [hX4.cell]; exact h032
  have hf4 := hX4.frozen 32
  clear hX3 hR3 hO3 hI3 ht4 hn1
  go_wp2_with fail
  obtain ⟨w5, hw5⟩ : ∃ x, x = w4.setCell ⟨g, 32, none⟩ (.int .i64 (a : Nat)) := ⟨_, rfl⟩
  have hX5 : Arr w5 g 36 D1 := by rw [hw5, ← HS1.out]; exact hX4.set 32 _
  have hR5 : Arr w5 w.heap.size 36 refZ := by rw [hw5]; exact hR4.setOther (Nat.ne_of_lt hgw) _
  have hO5 : Only (fun b => b = p) w w5 := by rw [hw5]; exact hO4.setCell (p := ⟨g, 32, none⟩) (.inr (Nat.le_of_lt hgw)) _
  have hz5 : w5.heap.size = w4.heap.size := by rw [hw5]; simp [World.setCell]
  have hI5 : I2 w5 := k2 w4 w5 hI4 ⟨by omega, fun k hk => by rw [hw5]; exact Below.heap_setCell w4 _ _ k (show k ≠ g by omega)⟩
  rw [← hw5]
  clear hw5 hX4 hR4 hO4 hI4 hc4 hf4
  go_wp2_with fail
  refine Calls.mono (hn2 w5 hI5) ?_
  rintro e w6 ⟨rfl, hI6, ht6⟩
  have hX6 := hX5.only ht6.only (by omega)
  have hR6 := hR5.only ht6.only (by omega)
  have hO6 := hO5.trans ht6.only
  have hz6 := ht6.size
  have hc6 : w6.cell? ⟨g, 33, none⟩ = some (.int .i64 0) := by rw [hX6.cell]; exact h133
  have hf6 := hX6.frozen 33
  clear hX5 hR5 hO5 hI5 ht6 hn2
  go_upto_region 4 with fail
  obtain ⟨w7, hw7⟩ : ∃ x, x = w6.setCell ⟨g, 33, none⟩ (.int .i64 (n : Nat)) := ⟨_, rfl⟩
  have hX7 : Arr w7 g 36 D2 := by rw [hw7, ← HS2.out]; exact hX6.set 33 _
  have hR7 : Arr w7 w.heap.size 36 refZ := by rw [hw7]; exact hR6.setOther (Nat.ne_of_lt hgw) _
  have hO7 : Only (fun b => b = p) w w7 := by rw [hw7]; exact hO6.setCell (p := ⟨g, 33, none⟩) (.inr (Nat.le_of_lt hgw)) _
  have hz7 : w7.heap.size = w6.heap.size := by rw [hw7]; simp [World.setCell]
  have hI7 : I3 w7 := k3 w6 w7 hI6 ⟨by omega, fun k hk => by rw [hw7]; exact Below.heap_setCell w6 _ _ k (show k ≠ g by omega)⟩
  rw [← hw7]
  clear hw7 hX6 hR6 hO6 hI6 hc6 hf6
  have hR7h : Hid (w7.heap[w.heap.size]? = some (.cells refZ.toArray 36 (0, 0))) := hR7
  have hset := hR7.setRow TL
  have hOz : Only (fun b => b = p) w (w7.setRow w.heap.size TL.toArray) := hO7.setRow (.inr (Nat.le_refl _)) _
  have hIz : I3 (w7.setRow w.heap.size TL.toArray) := k3 w7 _ hI7 ⟨by simp, fun k hk => setRow_other w7 _ k _ (by omega)⟩
  cases b3
  · have hwc := hwr w7 hI7
    have e := He.out (by first | rfl | trivial)
    subst e
    go_wp2_with (first
      | (refine wpList_load_row rfl _ _ rfl g rfl 36 D2.toArray (0, 0) _ hX7 Try.underlying36 rfl HEi.out ?_)
      | (refine wpList_store_row rfl _ _ _ rfl w.heap.size D2.toArray rfl rfl 36 refZ.toArray hR7h.out HTi.out HTs.out HT1.out ?_))
    exact bodyPost_ret (v := .agg D2.toArray) (results_cell_row (by rfl) _ _ w.heap.size 36 D2.toArray (0, 0) _ (by rfl) hset Try.underlying36 rfl HTi.out) rfl ⟨rfl, hIz, hOz.turn⟩
  · have Hz2 := Lib.hid (Hz.out (by first | rfl | trivial))
    have hwc := hwr w7 hI7
    go_wp2_with (first
      | (refine wpList_builtD rfl _ _ rfl [] rfl TL.toArray Hz2.out ?_)
      | (refine wpList_store_row rfl _ _ _ rfl w.heap.size TL.toArray rfl rfl 36 refZ.toArray hR7h.out HTi.out HTs.out HT1.out ?_))
    exact bodyPost_ret (v := .agg TL.toArray) (results_cell_row (by rfl) _ _ w.heap.size 36 TL.toArray (0, 0) _ (by rfl) hset Try.underlying36 rfl HTi.out) rfl ⟨rfl, hIz, hOz.turn⟩

end Go.Proofs.Ytongmiebojilfaa

namespace Go.Proofs.Ytongmiebojilfaa
open Go.RowKit
set_option linter.unusedVariables false
set_option linter.unusedSimpArgs false

/-- A whole number, taken modulo 2^64. -/
def uF (a : Int) : Nat := (IntKind.u64.wrap a).toNat
theorem uF_wrap (a : Int) : IntKind.u64.wrap a = ((uF a : Nat) : Int) ∧ uF a < 18446744073709551616 := by
  unfold uF
  have h : IntKind.u64.wrap a = a % 18446744073709551616 := by rw [IntKind.wrap_u64]
  omega
theorem uF_nat {n : Nat} (h : n < 18446744073709551616) : uF (n : Int) = n := by
  unfold uF
  rw [IntWalk.u64_in _ (by omega)]
  simp
/-- A Ref as bytes, behind others. -/
def refB (out d : List UInt8) (a z : Int) : List UInt8 := out ++ d ++ Lib.uvarint (uF a) ++ Lib.uvarint (uF z)

theorem rows_two {w : World} {B : Nat} {A A' : Option Addr} {l l' : List UInt8} {n c n' c' : Nat} (T : TypeId) (hn : l.length = n) (hc : n ≤ c) (hm : c ≤ maxLen) (h : Bs w B A l) (hn' : l'.length = n') (hc' : n' ≤ c') (hm' : c' ≤ maxLen) (h' : Bs w B A' l') (hB : B ≤ w.heap.size) :
    RowsAt (w.alloc (.cells #[.slice A n c, .slice A' n' c'] T)) (w.heap.size + 1) (some ⟨w.heap.size, 0, none⟩) [l, l'] := fun _ => by
  subst hn hn'
  have ha := Arr.new w T [.slice A l.length c, .slice A' l'.length c']
  have hb : Below w.heap.size w (w.alloc (.cells #[.slice A l.length c, .slice A' l'.length c'] T)) := (Below.refl _ w).alloc (Nat.le_refl _) _
  refine ⟨w.heap.size, 0, rfl, by omega, fun i hi => ?_⟩
  have hi2 : i = 0 ∨ i = 1 := by simp at hi; omega
  rcases hi2 with rfl | rfl
  · exact ⟨A, c, ha.cell 0, hc, hm, (h.below hb hB).more (by omega)⟩
  · exact ⟨A', c', ha.cell 1, hc', hm', (h'.below hb hB).more (by omega)⟩

set_option maxHeartbeats 8000000 in
set_option maxRecDepth 100000 in
theorem bput_any (out d : List UInt8) (hd : d.length = 32) (a z : Int) (DL : List Value) (hDL : DL = refC d a z) (A : Option Addr) (n c : Nat) (w : World) (hn : out.length = n) (hn2 : n ≤ 100000) (hnc : n ≤ c) (hcm : c ≤ maxLen) (hb : Bs w w.heap.size A out) :
    Calls Try.prog 26 #[.slice A n c, .agg DL.toArray] w fun e w' => ∃ v, e = .returned v ∧ Owns w' w.heap.size 5 v (refB out d a z) ∧ Below w.heap.size w w' := by
  obtain ⟨W1, hW1⟩ : ∃ x, x = w.alloc (.cells DL.toArray 36) := ⟨_, rfl⟩
  have hR1 : Arr W1 w.heap.size 36 DL := by rw [hW1]; exact Arr.new w _ _
  have hW1s : W1.heap.size = w.heap.size + 1 := by rw [hW1]; simp
  have hb1 : Below w.heap.size w W1 := by rw [hW1]; exact (Below.refl _ w).alloc (Nat.le_refl _) _
  have hd1 : Bs W1 W1.heap.size (some ⟨w.heap.size, 0, none⟩) d := fun hp => ⟨w.heap.size, 0, rfl, hR1.lt, fun j hj => by
    rw [Nat.zero_add, hR1.cell, hDL]
    unfold refC
    rw [List.getElem?_append_left (by rw [Lib.byteCells_length]; exact hj)]
    exact byteCells_get hj⟩
  obtain ⟨W2, hW2⟩ : ∃ x, x = W1.alloc (.cells #[.slice A n c, .slice (some ⟨w.heap.size, 0, none⟩) 32 32] 22) := ⟨_, rfl⟩
  have hrow : RowsAt W2 W2.heap.size (some ⟨W1.heap.size, 0, none⟩) [out, d] := by
    rw [hW2]
    exact (rows_two (w := W1) 22 hn hnc hcm ((hb.below hb1 (Nat.le_refl _)).more hb1.size) hd (Nat.le_refl _) (by unfold maxLen; omega) hd1 (Nat.le_refl _)).more (Nat.le_of_eq (by simp))
  have hb2 : Below W1.heap.size W1 W2 := by rw [hW2]; exact (Below.refl _ W1).alloc (Nat.le_refl _) _
  have hfl : ([out, d] : List (List UInt8)).flatten = out ++ d := by simp
  obtain ⟨x, hx⟩ : ∃ x, uF a = x := ⟨_, rfl⟩
  obtain ⟨y, hy⟩ : ∃ y, uF z = y := ⟨_, rfl⟩
  have hxw : IntKind.u64.wrap a = (x : Int) := by rw [← hx]; exact (uF_wrap a).1
  have hyw : IntKind.u64.wrap z = (y : Int) := by rw [← hy]; exact (uF_wrap z).1
  have hxl : x < 18446744073709551616 := by rw [← hx]; exact (uF_wrap a).2
  have hyl : y < 18446744073709551616 := by rw [← hy]; exact (uF_wrap z).2
  have hR2 : Arr W2 w.heap.size 36 DL := hR1.below hb2 hR1.lt
  have h32 : DL[32]? = some (.int .i64 a) := by rw [hDL]; exact (refC_at hd a z).1
  have h33 : DL[33]? = some (.int .i64 z) := by rw [hDL]; exact (refC_at hd a z).2
  have HW1 := Lib.hid hW1
  have HW2 := Lib.hid hW2
  have Hx := Lib.hid hx
  have Hy := Lib.hid hy
  rw [hW1s] at hrow hb2
  have hwB : w.heap.size ≤ w.heap.size + 1 := Nat.le_succ _
  have hz2 := hb2.size
  have HDL := Lib.hid hDL
  clear hW1 hW2 hd1 hx hy hR1 hDL
  go_enter Try.func26, Try.ntmps26
  go_upto_region 1 with fail
  change Code.wp _ _ _ _ (w.alloc (.cells DL.toArray 36))
  rw [← HW1.out]
  clear HW1
  go_wp2_with fail
  go_at_call 43
  rw [hW1s] at *
  change Calls _ _ #[.slice (some ⟨w.heap.size + 1, 0, none⟩) 2 2] (W1.alloc (.cells #[.slice A n c, .slice (some ⟨w.heap.size, 0, none⟩) 32 32] 22)) _
  rw [← HW2.out]
  refine Calls.mono (concat_any [out, d] _ 2 2 W2 rfl (by omega) hrow (by rw [hfl, List.length_append, hn, hd]; omega)) ?_
  rintro e w3 ⟨v3, rfl, hown3, hb3⟩
  rw [hfl] at hown3
  have hR3 : Arr w3 w.heap.size 36 DL := hR2.below hb3 hR2.lt
  have hc3 : w3.cell? ⟨w.heap.size, 32, none⟩ = some (.int .i64 a) := by rw [hR3.cell]; exact h32
  obtain ⟨B, hB⟩ : ∃ B, B = W2.heap.size := ⟨_, rfl⟩
  have hBw2 : Below w.heap.size w W2 := hb1.trans (hb2.mono hwB)
  have hBw3 : Below w.heap.size w w3 := hBw2.trans (hb3.mono hBw2.size)
  have hB3 : B ≤ w3.heap.size := by rw [hB]; exact hb3.size
  have hwBB : w.heap.size < B := by rw [hB]; exact hR2.lt
  rw [← hB] at hown3
  have hl3 : (out ++ d).length ≤ 200000 := by rw [List.length_append, hn, hd]; omega
  clear hb2 hb3 hrow hW1s hR2 hBw2 hB hz2 HW2
  dsimp only
  go_wp2_with fail
  go_at_call 44
  refine Calls.mono (number_any B x hxl v3 (out ++ d) w3 hown3 hB3 (by omega)) ?_
  rintro e w4 ⟨v4, rfl, hown4, hgr4⟩
  have hb4 : Below B w3 w4 := hgr4.below hB3 (fun q hq => (hown3.lt q hq).1)
  have hR4 : Arr w4 w.heap.size 36 DL := hR3.below hb4 hwBB
  have hc4 : w4.cell? ⟨w.heap.size, 33, none⟩ = some (.int .i64 z) := by rw [hR4.cell]; exact h33
  have hBw4 : Below w.heap.size w w4 := hBw3.trans (hb4.mono (Nat.le_of_lt hwBB))
  have hB4 : B ≤ w4.heap.size := Nat.le_trans hB3 hb4.size
  have hl4 : (out ++ d ++ Lib.uvarint x).length ≤ 200010 := by
    have := Lib.uvarint_length64 hxl
    rw [List.length_append]; omega
  clear hown3 hgr4 hb4 hR3 hc3 hBw3 hB3
  dsimp only
  go_wp2_with fail
  go_at_call 44
  refine Calls.mono (number_any B y hyl v4 (out ++ d ++ Lib.uvarint x) w4 hown4 hB4 (by omega)) ?_
  rintro e w5 ⟨v5, rfl, hown5, hgr5⟩
  have hb5 : Below B w4 w5 := hgr5.below hB4 (fun q hq => (hown4.lt q hq).1)
  have hBw5 : Below w.heap.size w w5 := hBw4.trans (hb5.mono (Nat.le_of_lt hwBB))
  go_wp2_with fail
  go_ret
  exact ⟨v5, rfl, by unfold refB; rw [Hx.out, Hy.out]; exact hown5.base (Nat.le_of_lt hwBB), hBw5⟩

set_option maxHeartbeats 8000000 in
set_option maxRecDepth 100000 in
theorem rput_any (B : Nat) (sv : Value) (out d : List UInt8) (hd : d.length = 32) (a z : Int) (DL : List Value) (hDL : DL = refC d a z) (w : World) (hown : Owns w B 5 sv out) (hB : B ≤ w.heap.size) (hn2 : out.length ≤ 100000) :
    Calls Try.prog 27 #[sv, .agg DL.toArray] w fun e w' => ∃ v, e = .returned v ∧ Owns w' B 5 v (refB out d a z) ∧ Below B w w' := by
  obtain ⟨i0, hi, hz0, hz1, hz2⟩ := info_parts byteInfo
  obtain ⟨W1, hW1⟩ : ∃ x, x = w.alloc (.cells DL.toArray 36) := ⟨_, rfl⟩
  have hR1 : Arr W1 w.heap.size 36 DL := by rw [hW1]; exact Arr.new w _ _
  have hb1 : Below w.heap.size w W1 := by rw [hW1]; exact (Below.refl _ w).alloc (Nat.le_refl _) _
  have hown1 : Owns W1 B 5 sv (out ++ d.take 0) := by
    have := hown.below hb1 (fun k hk => (hown.lt k hk).2)
    simpa using this
  have hsvk : ∀ k, sv.ownBlock = some k → k ≠ w.heap.size := fun k hk => by have := (hown.lt k hk).2; omega
  have h32 : DL[32]? = some (.int .i64 a) := by rw [hDL]; exact (refC_at hd a z).1
  have h33 : DL[33]? = some (.int .i64 z) := by rw [hDL]; exact (refC_at hd a z).2
  have hdi : ∀ i, i < 32 → DL[i]? = some (.int .u8 ((d.getD i 0).toNat : Nat)) := fun i hi => by
    rw [hDL]
    unfold refC
    rw [List.getElem?_append_left (by rw [Lib.byteCells_length]; omega)]
    exact byteCells_get (by omega)
  obtain ⟨x, hx⟩ : ∃ x, uF a = x := ⟨_, rfl⟩
  obtain ⟨y, hy⟩ : ∃ y, uF z = y := ⟨_, rfl⟩
  have hxw : IntKind.u64.wrap a = (x : Int) := by rw [← hx]; exact (uF_wrap a).1
  have hyw : IntKind.u64.wrap z = (y : Int) := by rw [← hy]; exact (uF_wrap z).1
  have hxl : x < 18446744073709551616 := by rw [← hx]; exact (uF_wrap a).2
  have hyl : y < 18446744073709551616 := by rw [← hy]; exact (uF_wrap z).2
  have HW1 := Lib.hid hW1
  have Hx := Lib.hid hx
  have Hy := Lib.hid hy
  have Hdi := Lib.hid hdi
  have hB1 : B ≤ W1.heap.size := Nat.le_trans hB hb1.size
  have hbB1 : Below B w W1 := hb1.mono hB
  clear hW1 hx hy hDL hdi hown hb1
  go_enter Try.func27, Try.ntmps27
  go_upto_region 1 with fail
  change Code.wp _ _ _ _ (w.alloc (.cells DL.toArray 36))
  rw [← HW1.out]
  clear HW1
  go_wp2_with fail
  go_loopw [0, 5] (fun v i wr => ∃ k : Nat, k ≤ 32 ∧ i = .int .i64 k ∧ Owns wr B 5 v (out ++ d.take k) ∧ Arr wr w.heap.size 36 DL ∧ (∀ q, v.ownBlock = some q → q ≠ w.heap.size) ∧ B ≤ wr.heap.size ∧ Below B w wr) (fun _ i _ => 32 - (intOf i).toNat)
  case atStart => exact ⟨0, by omega, rfl, hown1, hR1, hsvk, hB1, hbB1⟩
  case round =>
    clear hown1 hsvk hR1 hB1 hbB1
    obtain ⟨k, hk, rfl, hown, hR, hvk, hBr, hbB⟩ := hrel
    have hl : (out ++ d.take k).length ≤ 100032 := by rw [List.length_append, List.length_take]; omega
    by_cases hlt : k < 32
    · have hc := Hdi.out k hlt
      have htk : d.take (k + 1) = d.take k ++ [d.getD k 0] := by
        rw [List.take_succ_eq_append_getElem (by omega)]
        simp [List.getD, show k < d.length by omega]
      obtain ⟨b, hb⟩ : ∃ b, d.getD k 0 = b := ⟨_, rfl⟩
      rw [hb] at hc htk
      have hbl : b.toNat < 256 := UInt8.toNat_lt _
      obtain ⟨q, hq⟩ : ∃ q, b.toNat = q := ⟨_, rfl⟩
      rw [hq] at hc hbl
      have hce : wr.cell? ⟨w.heap.size, k, none⟩ = some (.int .u8 (q : Nat)) := by rw [hR.cell]; exact hc
      have hd1 : decide ((k : Int) < (32 : Int)) = true := by simp; omega
      have hkI : (k : Int) < (32 : Int) := by omega
      obtain ⟨Y, hY⟩ : ∃ Y, out ++ d.take k = Y := ⟨_, rfl⟩
      have hY2 : out ++ d.take (k + 1) = Y ++ [b] := by rw [htk, ← List.append_assoc, hY]
      rw [hY] at hown hl
      have Hq := Lib.hid hq
      have HY2 := Lib.hid hY2
      clear hY hY2 htk hq hb hc
      go_wp2_with (at_builtin; refine wpList_append_own_at _ rfl _ _ 22 rfl B 5 i0 (.int .u8 0) 1 1 Try.underlying22 hi hz0 hz1 hz2 rfl (by decide) _ _ _ rfl (World.ownsRow.alloc hown _) ⟨wr.heap.size, 0, none⟩ 1 1 [Value.int .u8 (q : Nat)] rfl rfl ?c1 ?c2 ?c3 ?c4 ?c5 ?_)
      case c1 =>
        intro j u hj
        match j, hj with
        | 0, hj => simp at hj; subst hj; simp [Addr.add]
      case c2 => intro u hu; simp at hu; subst hu; rfl
      case c3 => unfold maxLen; omega
      case c4 => omega
      case c5 => simp; omega
      intro v' w1 hown' hgrow _ hplace
      have hRa : Arr (wr.alloc (.cells #[.int .u8 (q : Nat)] 5)) w.heap.size 36 DL := hR.alloc _
      have hRn : Arr w1 w.heap.size 36 DL := (hgrow.block w.heap.size hRa.lt (fun e => hvk _ e.symm rfl)).trans hRa
      have hvn : ∀ g, v'.ownBlock = some g → g ≠ w.heap.size := fun g hg => by
        rcases hplace with e | e
        · exact hvk g (by rw [← e]; exact hg)
        · rw [hg] at e
          injection e with e
          have h1 := hR.lt
          have h2 : (wr.alloc (.cells #[.int .u8 (q : Nat)] 5)).heap.size = wr.heap.size + 1 := by simp
          omega
      have hsz := hgrow.size
      have hbn : Below B w w1 := (hbB.alloc hBr _).grown hgrow (by simp; omega) (fun k hk => (hown.lt k hk).1)
      have hon : Owns w1 B 5 v' (out ++ d.take (k + 1)) := by
        rw [HY2.out, show b = q.toUInt8 from by rw [← Hq.out]; simp]
        exact Owns.snoc hbl rfl rfl hown'
      have hBn : B ≤ w1.heap.size := by simp at hsz; omega
      clear hown hown' hgrow hplace hbB hRa hsz
      go_wp2
      go_roundw
      case rel => exact ⟨k + 1, by omega, by go_num, hon, hRn, hvn, hBn, hbn⟩
      case measure => simp [intOf]; omega
    · obtain rfl : k = 32 := by omega
      have hd1 : decide (((32 : Nat) : Int) < (32 : Int)) = false := by simp
      have htk : d.take 32 = d := by rw [← hd, List.take_length]
      rw [htk] at hown hl
      obtain ⟨Y, hY⟩ : ∃ Y, out ++ d = Y := ⟨_, rfl⟩
      rw [hY] at hown hl
      obtain ⟨A6, c6, rfl, h61, h62, h63⟩ := hown.slice
      obtain ⟨m, hm⟩ : ∃ m, Y.length = m := ⟨_, rfl⟩
      rw [hm] at hown hl hvk h61 ⊢
      have hRd : Arr wr.drew w.heap.size 36 DL := hR.drewN 1
      have hownd : Owns wr.drew B 5 (.slice A6 m c6) Y := hown.drewN 1
      have hBd : B ≤ wr.drew.heap.size := hBr
      have hbd : Below B w wr.drew := Below.dN hbB 1
      have HY := Lib.hid hY
      have Hm := Lib.hid hm
      clear hY hm htk hown
      go_wp2_with fail
      refine wp_region_held_drew (S := fun w' => w'.rangeAt w.heap.size 0 DL) (by kernel_rfl) hRd.range (fun hHeld => ?_)
      refine anyH_take (i := 0) (v := .slice A6 m c6) (some 17) rfl rfl (by kernel_rfl) (by kernel_rfl) (by kernel_rfl) (fun _ _ _ h => h) (Or.inl ⟨by rfl, fun _ _ => by rfl⟩) (by assumption) ?_
      simp only [Act.put, List.setIfInBounds_toArray, List.set_cons_zero, List.set_cons_succ]
      refine anyH_take (i := 1) (v := .pointer (some ⟨w.heap.size, 32, none⟩)) (some 18) rfl rfl (by kernel_rfl) (by kernel_rfl) (by kernel_rfl) (fun _ _ _ h => h) (Or.inl ⟨by rfl, fun _ _ => by go_simp⟩) (by assumption) ?_
      simp only [Act.put, List.setIfInBounds_toArray, List.set_cons_zero, List.set_cons_succ]
      refine anyH_take (i := 2) (v := .int .i64 a) (some 19) rfl rfl (by kernel_rfl) (by kernel_rfl) (by kernel_rfl) (fun _ _ _ h => h) (Or.inl ⟨by rfl, fun w' h' => by
        have h2 : w'.cell? ⟨w.heap.size, 32, none⟩ = some (.int .i64 a) := h' 32 _ h32
        go_simp⟩) (by assumption) ?_
      simp only [Act.put, List.setIfInBounds_toArray, List.set_cons_zero, List.set_cons_succ]
      refine anyH_take (i := 3) (v := .int .u64 (x : Nat)) (some 20) rfl rfl (by kernel_rfl) (by kernel_rfl) (by kernel_rfl) (fun _ _ _ h => h) (Or.inl ⟨by rfl, fun _ _ => by go_simp⟩) (by assumption) ?_
      simp only [Act.put, List.setIfInBounds_toArray, List.set_cons_zero, List.set_cons_succ]
      refine anyH_take (i := 5) (v := .pointer (some ⟨w.heap.size, 33, none⟩)) (some 22) rfl rfl (by kernel_rfl) (by kernel_rfl) (by kernel_rfl) (fun _ _ _ h => h) (Or.inl ⟨by rfl, fun _ _ => by go_simp⟩) (by assumption) ?_
      simp only [Act.put, List.setIfInBounds_toArray, List.set_cons_zero, List.set_cons_succ]
      refine anyH_take (i := 6) (v := .int .i64 z) (some 23) rfl rfl (by kernel_rfl) (by kernel_rfl) (by kernel_rfl) (fun _ _ _ h => h) (Or.inl ⟨by rfl, fun w' h' => by
        have h2 : w'.cell? ⟨w.heap.size, 33, none⟩ = some (.int .i64 z) := h' 33 _ h33
        go_simp⟩) (by assumption) ?_
      simp only [Act.put, List.setIfInBounds_toArray, List.set_cons_zero, List.set_cons_succ]
      refine anyH_take (i := 7) (v := .int .u64 (y : Nat)) (some 24) rfl rfl (by kernel_rfl) (by kernel_rfl) (by kernel_rfl) (fun _ _ _ h => h) (Or.inl ⟨by rfl, fun _ _ => by go_simp⟩) (by assumption) ?_
      simp only [Act.put, List.setIfInBounds_toArray, List.set_cons_zero, List.set_cons_succ]
      refine wpAnyH_ready (rs := [4]) (by kernel_rfl) (by simp) ?_
      refine AllReadyH.cons rfl (fun K hK => ?_) AllReadyH.nil
      go_simp
      go_at_call 45
      refine Calls.mono (rnumber_any B x hxl _ Y wr.drew hownd hBd (by rw [Hm.out]; omega)) ?_
      rintro e w5 ⟨v5, rfl, hown5, hgr5⟩
      have hR5 : Arr w5 w.heap.size 36 DL := (hgr5.1.block w.heap.size hRd.lt (fun e => hvk _ e.symm rfl)).trans hRd
      have hv5 : ∀ g, v5.ownBlock = some g → g ≠ w.heap.size := fun g hg => by
        rcases hgr5.2 with e | ⟨k, e, hk⟩
        · exact hvk g (by rw [← e]; exact hg)
        · rw [hg] at e
          injection e with e
          have h1 := hRd.lt
          omega
      have hb5 : Below B w w5 := hbd.trans (hgr5.below hBd (fun q hq => (hownd.lt q hq).1))
      have hB5 : B ≤ w5.heap.size := Nat.le_trans hBd hgr5.1.size
      have hl5 : (Y ++ Lib.uvarint x).length ≤ 100042 := by
        have := Lib.uvarint_length64 hxl
        have := Hm.out
        rw [List.length_append]; omega
      clear hgr5 hownd hbd
      dsimp only
      go_wp2_with fail
      refine hK.out _ _ hR5.range (fun hHeld => ?_)
      clear hK K
      try simp only [Act.put, List.setIfInBounds_toArray, List.set_cons_zero, List.set_cons_succ]
      refine wpAnyH_ready (rs := [8]) (by kernel_rfl) (by simp) ?_
      refine AllReadyH.cons rfl (fun K hK => ?_) AllReadyH.nil
      go_simp
      go_at_call 45
      refine Calls.mono (rnumber_any B y hyl v5 (Y ++ Lib.uvarint x) w5 hown5 hB5 (by omega)) ?_
      rintro e w6 ⟨v6, rfl, hown6, hgr6⟩
      have hR6 : Arr w6 w.heap.size 36 DL := (hgr6.1.block w.heap.size hR5.lt (fun e => hv5 _ e.symm rfl)).trans hR5
      have hb6 : Below B w w6 := hb5.trans (hgr6.below hB5 (fun q hq => (hown5.lt q hq).1))
      dsimp only
      go_wp2_with fail
      refine hK.out _ _ hR6.range (fun hHeld => ?_)
      clear hK K
      try simp only [Act.put, List.setIfInBounds_toArray, List.set_cons_zero, List.set_cons_succ]
      refine anyH_take (i := 9) (v := v6) (some 4) rfl rfl (by kernel_rfl) (by kernel_rfl) (by kernel_rfl) (fun _ _ _ h => h) (Or.inl ⟨by rfl, fun _ _ => by rfl⟩) (by assumption) ?_
      simp only [Act.put, List.setIfInBounds_toArray, List.set_cons_zero, List.set_cons_succ]
      refine wpAnyH_done (by kernel_rfl) ?_ _
      go_wp2_with fail
      go_ret
      exact ⟨v6, rfl, by unfold refB; rw [HY.out, Hx.out, Hy.out]; exact hown6, hb6⟩

end Go.Proofs.Ytongmiebojilfaa

namespace Go.Proofs.Ytongmiebojilfaa
open Go.RowKit
set_option linter.unusedVariables false
set_option linter.unusedSimpArgs false

theorem btake_at (L l1 l2 l3 : List UInt8) (b1 b2 b3 : Bool) (d : List UInt8) (a n : Nat) (hd : digF L = d) (h1 : (cutF 32 L).2.1 = l1) (hb1 : (cutF 32 L).2.2 = b1)
    (ha : (numF 65535 l1).1 = a) (h2 : (numF 65535 l1).2.1 = l2) (hb2 : (b1 || (numF 65535 l1).2.2) = b2) (hn : (numF 65536 l2).1 = n) (h3 : (numF 65536 l2).2.1 = l3) (hb3 : (b2 || (numF 65536 l2).2.2) = b3)
    (TL : List Value) (hTL : TL = tkC d a n b3) (p : Nat) (w : World) (h : PIn w p L false) :
    Calls Try.prog 22 #[.pointer (some ⟨p, 0, none⟩)] w fun e w' => e = .returned (.agg TL.toArray) ∧ PIn w' p l3 b3 ∧ Turn p w w' := by
  refine btake_gen p (fun w => PIn w p L false) (fun w => PIn w p l1 b1) (fun w => PIn w p l2 b2) (fun w => PIn w p l3 b3) d (by rw [← hd]; exact digF_length L) (Lib.byteCells d) rfl a n (by rw [← ha]; exact numF_le' _ _) (by rw [← hn]; exact numF_le' _ _) b3 TL hTL
    (fun _ _ h k => h.low k) (fun _ _ h k => h.low k) (fun _ _ h k => h.low k) (fun _ _ h k => h.low k) (fun w h => ?_) (fun w h => ?_) (fun w h => ?_) (fun w h => ?_) w h h.lt
  · refine (digest_in p L false w h).mono ?_
    rintro e w' ⟨he, hp, ht⟩
    rw [h1, hb1, Bool.false_or] at hp
    exact ⟨by rw [he, hd]; rfl, hp, ht⟩
  · refine (show Calls Try.prog 39 #[.pointer (some ⟨p, 0, none⟩), .int .u64 65535] w _ from number_in p 65535 l1 b1 w h (by omega)).mono ?_
    rintro e w' ⟨he, hp, ht⟩
    rw [h2, hb2] at hp
    exact ⟨by rw [he, ha], hp, ht⟩
  · refine (show Calls Try.prog 39 #[.pointer (some ⟨p, 0, none⟩), .int .u64 65536] w _ from number_in p 65536 l2 b2 w h (by omega)).mono ?_
    rintro e w' ⟨he, hp, ht⟩
    rw [h3, hb3] at hp
    exact ⟨by rw [he, hn], hp, ht⟩
  · refine (wrong_in p l3 b3 w h).mono ?_
    rintro e w' ⟨he, hw⟩
    exact ⟨he, hw.symm⟩

theorem rtake_at (L : List UInt8) (A : Option Addr) (c o1 o2 o3 : Nat) (b1 b2 b3 : Bool) (d : List UInt8) (a n : Nat) (hd : rdF L 0 false = d) (hdl : d.length = 32) (h1 : (takeF 32 L 0 false).2.1 = o1) (hb1 : (takeF 32 L 0 false).2.2 = b1)
    (ha : (rnF 65535 L o1 b1).1 = a) (h2 : (rnF 65535 L o1 b1).2.1 = o2) (hb2 : (rnF 65535 L o1 b1).2.2 = b2) (hn : (rnF 65536 L o2 b2).1 = n) (h3 : (rnF 65536 L o2 b2).2.1 = o3) (hb3 : (rnF 65536 L o2 b2).2.2 = b3) (k1 : o1 ≤ L.length) (k2 : o2 ≤ L.length)
    (hal : a ≤ 65535) (hnl : n ≤ 65536) (TL : List Value) (hTL : TL = tkC d a n b3) (p : Nat) (w : World) (h : RIn w p L A c 0 false) (hf : RFix w p L A c) :
    Calls Try.prog 23 #[.pointer (some ⟨p, 0, none⟩)] w fun e w' => e = .returned (.agg TL.toArray) ∧ (RIn w' p L A c o3 b3 ∧ RFix w' p L A c) ∧ Turn p w w' := by
  refine rtake_gen p (fun w => RIn w p L A c 0 false ∧ RFix w p L A c) (fun w => RIn w p L A c o1 b1 ∧ RFix w p L A c) (fun w => RIn w p L A c o2 b2 ∧ RFix w p L A c) (fun w => RIn w p L A c o3 b3 ∧ RFix w p L A c) d hdl (Lib.byteCells d) rfl a n hal hnl b3 TL hTL
    (fun _ _ h k => ⟨h.1.low k, h.2.low k⟩) (fun _ _ h k => ⟨h.1.low k, h.2.low k⟩) (fun _ _ h k => ⟨h.1.low k, h.2.low k⟩) (fun _ _ h k => ⟨h.1.low k, h.2.low k⟩) (fun w h => ?_) (fun w h => ?_) (fun w h => ?_) (fun w h => ?_) w ⟨h, hf⟩ h.lt
  · refine (rdigest_in p L A c 0 false w h.1 h.2 (Nat.zero_le _)).mono ?_
    rintro e w' ⟨he, hp, ht⟩
    rw [h1, hb1] at hp
    exact ⟨by rw [he, hd]; rfl, ⟨hp, h.2.turn ht h.1.lt⟩, ht⟩
  · refine (show Calls Try.prog 42 #[.pointer (some ⟨p, 0, none⟩), .int .u64 65535] w _ from rnumber_in p 65535 L A c o1 b1 w h.1 h.2 k1 (by omega)).mono ?_
    rintro e w' ⟨he, hp, ht⟩
    rw [h2, hb2] at hp
    exact ⟨by rw [he, ha], ⟨hp, h.2.turn ht h.1.lt⟩, ht⟩
  · refine (show Calls Try.prog 42 #[.pointer (some ⟨p, 0, none⟩), .int .u64 65536] w _ from rnumber_in p 65536 L A c o2 b2 w h.1 h.2 k2 (by omega)).mono ?_
    rintro e w' ⟨he, hp, ht⟩
    rw [h3, hb3] at hp
    exact ⟨by rw [he, hn], ⟨hp, h.2.turn ht h.1.lt⟩, ht⟩
  · exact h.1.cells.2.2.1

theorem takes_both (L : List UInt8) : ∃ (d : List UInt8) (a n : Nat) (b3 : Bool) (l3 : List UInt8) (o3 : Nat), d.length = 32 ∧ a ≤ 65535 ∧ n ≤ 65536 ∧ Rel l3 L o3 b3 ∧
    (∀ (TL : List Value) (p : Nat) (w : World), TL = tkC d a n b3 → PIn w p L false → Calls Try.prog 22 #[.pointer (some ⟨p, 0, none⟩)] w fun e w' => e = .returned (.agg TL.toArray) ∧ PIn w' p l3 b3 ∧ Turn p w w') ∧
    (∀ (TL : List Value) (q : Nat) (A : Option Addr) (c : Nat) (w : World), TL = tkC d a n b3 → RIn w q L A c 0 false → RFix w q L A c → Calls Try.prog 23 #[.pointer (some ⟨q, 0, none⟩)] w fun e w' => e = .returned (.agg TL.toArray) ∧ (RIn w' q L A c o3 b3 ∧ RFix w' q L A c) ∧ Turn q w w') := by
  have r0 : Rel L L 0 false := ⟨fun _ => rfl, (fun h => by cases h), Nat.zero_le _⟩
  obtain ⟨_, e1, r1⟩ := rel_cut r0 32 (fun _ => by omega)
  rw [Bool.false_or] at e1
  have ed := rel_dig r0
  obtain ⟨a2, e2, r2⟩ := rel_num r1 65535
  obtain ⟨a3, e3, r3⟩ := rel_num r2 65536
  refine ⟨_, _, _, _, _, _, digF_length L, numF_le' 65535 (cutF 32 L).2.1, numF_le' 65536 (numF 65535 (cutF 32 L).2.1).2.1, r3, fun TL p w hT h => ?_, fun TL q A c w hT h hf => ?_⟩
  · refine btake_at L _ _ _ _ _ _ _ _ _ rfl rfl rfl rfl rfl rfl rfl rfl ?_ TL hT p w h
    rw [e1, e2]
    exact e3
  · exact rtake_at L A c _ _ _ _ _ _ _ _ _ ed.symm (digF_length L) rfl rfl a2.symm rfl rfl a3.symm rfl rfl r1.2.2 r2.2.2 (numF_le' _ _) (numF_le' _ _) TL hT q w h hf

theorem numF_back (most v : Nat) (r : List UInt8) (h : v ≤ most) (hv : v < 18446744073709551616) : numF most (Lib.uvarint v ++ r) = (v, r, false) := by
  unfold numF
  rw [lead_uv v r hv]
  have := Lib.uvarint_pos v
  rw [if_neg (by simp only; omega)]
  simp

theorem take_back (d : List UInt8) (hd : d.length = 32) (a n : Nat) (ha : a ≤ 65535) (hn : n ≤ 65536) (TL : List Value) (hTL : TL = refC d (a : Nat) (n : Nat)) (p : Nat) (w : World) (h : PIn w p (d ++ Lib.uvarint a ++ Lib.uvarint n) false) :
    Calls Try.prog 22 #[.pointer (some ⟨p, 0, none⟩)] w fun e w' => e = .returned (.agg TL.toArray) ∧ PIn w' p [] false ∧ Turn p w w' := by
  have hl : ¬ ((d ++ Lib.uvarint a ++ Lib.uvarint n).length < 32) := by simp only [List.length_append, hd]; omega
  have htk : (d ++ Lib.uvarint a ++ Lib.uvarint n).take 32 = d := by rw [List.append_assoc, ← hd, List.take_left]
  have hdr : (d ++ Lib.uvarint a ++ Lib.uvarint n).drop 32 = Lib.uvarint a ++ Lib.uvarint n := by rw [List.append_assoc, ← hd, List.drop_left]
  have hc : cutF 32 (d ++ Lib.uvarint a ++ Lib.uvarint n) = (d, Lib.uvarint a ++ Lib.uvarint n, false) := by
    unfold cutF; rw [if_neg hl, htk, hdr]
  have e1 := numF_back 65535 a (Lib.uvarint n) ha (by omega)
  have e2 := numF_back 65536 n [] hn (by omega)
  rw [List.append_nil] at e2
  refine btake_at (d ++ Lib.uvarint a ++ Lib.uvarint n) (Lib.uvarint a ++ Lib.uvarint n) (Lib.uvarint n) [] false false false d a n ?_ (by rw [hc]) (by rw [hc]) (by rw [e1]) (by rw [e1]) (by rw [e1]; rfl) (by rw [e2]) (by rw [e2]) (by rw [e2]; rfl) TL (by rw [hTL]; rfl) p w h
  unfold digF
  rw [if_neg hl, htk]

end Go.Proofs.Ytongmiebojilfaa

namespace Go.Proofs.Ytongmiebojilfaa
open Go.RowKit
set_option linter.unusedVariables false
set_option linter.unusedSimpArgs false

theorem rdone_nB (q : Nat) (L : List UInt8) (A : Option Addr) (c o : Nat) (b : Bool) (l : List UInt8) (d : Int) (w : World) (h : RIn w q L A c o b) (hf : RFix w q L A c) (hr : Rel l L o b) (hd : doneF l b = d) :
    Calls Try.prog 25 #[.pointer (some ⟨q, 0, none⟩)] w fun e w' => e = .returned (.int .i64 d) ∧ ∃ k, w' = w.drewN k := by
  subst hd
  rw [← rel_done hr]
  exact rdone_in q L A c o b w h hf
theorem done_nB (p : Nat) (l : List UInt8) (b : Bool) (d : Int) (w : World) (h : PIn w p l b) (hd : doneF l b = d) :
    Calls Try.prog 24 #[.pointer (some ⟨p, 0, none⟩)] w fun e w' => e = .returned (.int .i64 d) ∧ w' = w := by
  subst hd
  exact (done_in p l b w h).mono fun e w' h => ⟨h.1, h.2.symm⟩
theorem PIn.belowB {w w' : World} {B p : Nat} {l : List UInt8} {b : Bool} (h : PIn w p l b) (hb : Below B w w') (hB : w.heap.size ≤ B) : PIn w' p l b := h.low ⟨hb.size, fun k hk => hb.block k (by have := h.lt; omega)⟩
theorem Turn.belowB {p B : Nat} {w w' : World} (h : Turn p w w') (hB : B ≤ w.heap.size) (hp : B ≤ p) : Below B w w' := h.only.below hB (fun k hk => by omega)
theorem wpList_fromB {P : Program} {ops : Array Oper} {rest : List Oper} {o : Oper} {a : Act} {w : World} {Q : Exit → Act → World → Prop} (hg : o.guard = none) (T : TypeId) (x y : Operand) (ho : o.op = .slice T x (some y) none none)
    (sv z v : Value) (hx : a.eval x = sv) (hy : a.eval y = z) (hr : (Instr.sliceAt T sv (some z) none none).run P w = .ok v w) (h : wpList P ops Q rest (a.put o.dst v) w) : wpList P ops Q (o :: rest) a w := by
  refine wpList_plain hg fun K hK => ?_
  unfold Oper.wp execOp
  simp only [ho, Option.map_some, Option.map_none, hx, hy, Sem.run_bind, Sem.run_pure, hr, Result.andThen_ok]
  exact hK _ _ h
/-- What Take gives is a Ref's cells. -/
theorem tkC_ref (d : List UInt8) (hd : d.length = 32) (a n : Nat) (b : Bool) : ∃ (d' : List UInt8) (a' n' : Int), d'.length = 32 ∧ tkC d a n b = refC d' a' n' := by
  cases b
  · exact ⟨d, a, n, hd, rfl⟩
  · exact ⟨List.replicate 32 0, 0, 0, by simp, rfl⟩

set_option maxHeartbeats 4000000 in
set_option maxRecDepth 100000 in
theorem brefs_great (DL : List Value) (A : Option Addr) (n c : Nat) (w : World) (h : 300 < n) :
    Calls Try.prog 5 #[.agg DL.toArray, .slice A n c] w fun e w' => e = .returned (.bool true) ∧ Below w.heap.size w w' := by
  obtain ⟨W1, hW1⟩ : ∃ x, x = w.alloc (.cells DL.toArray 36) := ⟨_, rfl⟩
  have hb1 : Below w.heap.size w W1 := by rw [hW1]; exact (Below.refl _ w).alloc (Nat.le_refl _) _
  have HW1 := Lib.hid hW1
  have hd1 : decide ((300 : Int) < (n : Int)) = true := by simp; omega
  clear hW1
  go_enter Try.func5, Try.ntmps5
  go_upto_region 1 with fail
  change Code.wp _ _ _ _ (w.alloc (.cells DL.toArray 36))
  rw [← HW1.out]
  clear HW1
  go_wp2_with fail
  refine Calls.mono (bspeaks_true W1) ?_
  rintro e w1 ⟨rfl, hB1⟩
  go_wp2_with fail
  go_ret
  exact ⟨rfl, hb1.trans (hB1.mono hb1.size)⟩

set_option maxHeartbeats 16000000 in
set_option maxRecDepth 100000 in
theorem brefs_in (d : List UInt8) (hd : d.length = 32) (a z : Int) (DL : List Value) (hDL : DL = refC d a z) (A : Option Addr) (n c : Nat) (bs : List UInt8) (hbl : bs.length = n) (hnc : n ≤ c) (hcm : c ≤ maxLen) (w : World) (hA : Bs w w.heap.size A bs) (h300 : n ≤ 300)
    (ha0 : -9223372036854775808 ≤ a) (ha1 : a ≤ 9223372036854775807) (hz0 : -9223372036854775808 ≤ z) (hz1 : z ≤ 9223372036854775807) :
    Calls Try.prog 5 #[.agg DL.toArray, .slice A n c] w fun e w' => e = .returned (.bool true) ∧ Below w.heap.size w w' := by
  obtain ⟨i0, hi, hi0, hi1, hi2⟩ := info_parts byteInfo
  obtain ⟨td, ta, tn, b3, l3, o3, htd, hta, htn, hrel3, hbt, hrt⟩ := takes_both bs
  obtain ⟨TL, hTL⟩ : ∃ T, T = tkC td ta tn b3 := ⟨_, rfl⟩
  have hcmpT : ∀ w, (Op.equalIn 10000 36 (.agg TL.toArray) (.agg TL.toArray)).run Try.prog w = .ok true w := fun w => by
    obtain ⟨d', a', n', hd', e⟩ := tkC_ref td htd ta tn b3
    rw [ref_eqv d' d' hd' hd' a' n' a' n' TL TL (hTL.trans e) (hTL.trans e) w]
    simp
  have hbt2 := fun p w => hbt TL p w hTL
  have hrt2 := fun q A c w => hrt TL q A c w hTL
  have hgt := gtR
  obtain ⟨W1, hW1⟩ : ∃ x, x = w.alloc (.cells DL.toArray 36) := ⟨_, rfl⟩
  have hR1 : Arr W1 w.heap.size 36 DL := by rw [hW1]; exact Arr.new w _ _
  have hb1 : Below w.heap.size w W1 := by rw [hW1]; exact (Below.refl _ w).alloc (Nat.le_refl _) _
  have hDll : DL.length = 34 := by rw [hDL]; exact refC_length hd _ _
  have HDi := Lib.hid (show (Try.prog.info? 36).map (·.size) = some DL.toArray.size by rw [List.size_toArray, hDll]; exact refSize)
  have HDn := Lib.hid (show (Try.prog.info? 36).map (·.size) = some DL.length by rw [hDll]; exact refSize)
  have h32 : DL[32]? = some (.int .i64 a) := by rw [hDL]; exact (refC_at hd a z).1
  have h33 : DL[33]? = some (.int .i64 z) := by rw [hDL]; exact (refC_at hd a z).2
  have HW1 := Lib.hid hW1
  have HDL := Lib.hid hDL
  have Hbl := Lib.hid hbl
  have hd1 : decide ((300 : Int) < (n : Int)) = false := by simp; omega
  obtain ⟨B, hB⟩ : ∃ B, B = W1.heap.size := ⟨_, rfl⟩
  have hwB : w.heap.size < B := by rw [hB]; exact hR1.lt
  have hA1 : Bs W1 w.heap.size A bs := hA.below hb1 (Nat.le_refl _)
  have hrow0 : ∀ g k, B ≤ g → (Value.slice (some ⟨g, 0, none⟩) 0 0).ownBlock = some k → B ≤ k := fun g k hg hk => by
    simp only [Value.ownBlock, Option.some.injEq] at hk
    omega
  clear hW1 hDL hbl hTL hbt hrt hA
  go_enter Try.func5, Try.ntmps5
  go_upto_region 1 with fail
  change Code.wp _ _ _ _ (w.alloc (.cells DL.toArray 36))
  rw [← HW1.out]
  clear HW1
  go_wp2_with fail
  refine Calls.mono (bspeaks_true W1) ?_
  rintro e w2 ⟨rfl, hb2⟩
  rw [← hB] at hb2
  have hB2 : B ≤ w2.heap.size := by rw [hB]; exact hb2.size
  have hA2 : Bs w2 w.heap.size A bs := hA1.below hb2 (Nat.le_of_lt hwB)
  go_wp2_with (at_builtin; refine wpList_append_bs rfl _ _ 22 rfl w2.heap.size 5 i0 (.int .u8 0) Try.underlying22 hi hi0 hi1 hi2 rfl (.slice (some ⟨w2.heap.size, 0, none⟩) 0 0) [] rfl (owns_empty w2 w2.heap.size (Nat.le_refl _)) w.heap.size A n c bs rfl Hbl.out (hA2.alloc (by omega) _) (by simp; omega) (by simp) ?_; intro v3 w3 hown3 hg3)
  rw [List.nil_append] at hown3
  have hb3 : Below B W1 w3 := hb2.trans (((Below.refl B w2).alloc hB2 _).trans (hg3.below (by simp; omega) (fun k hk => hrow0 _ k hB2 hk)))
  have hB3 : B ≤ w3.heap.size := by rw [hB]; exact hb3.size
  obtain ⟨A3, c3, rfl, _, _, hs3⟩ := hown3.slice
  rw [Hbl.out]
  clear hown3 hg3 hA2 hb2 hB2
  go_wp2_with fail
  refine (from_n _ A3 c3 n bs w3 hs3 Hbl.out (by omega)).mono ?_
  rintro e w4 ⟨p, rfl, hp3, hpin, hb4⟩
  have hBp : B ≤ p := Nat.le_trans hB3 hp3
  have hb4 : Below B W1 w4 := hb3.trans (hb4.mono hB3)
  clear hs3 hb3 hB3 hp3
  have hplt := hpin.lt
  go_wp2_with fail
  obtain ⟨w5, hw5⟩ : ∃ x, x = w4.alloc (.cells #[.slice A n c, .int .i64 0, .bool false] 53) := ⟨_, rfl⟩
  change Calls _ _ _ (w4.alloc (.cells #[.slice A n c, .int .i64 0, .bool false] 53)) _
  rw [← hw5]
  have hri5 : RIn w5 w4.heap.size bs A c 0 false := by
    unfold RIn
    rw [hw5, Hbl.out]
    exact heap_alloc_new w4 _
  have hb5 : Below B W1 w5 := by rw [hw5]; exact hb4.alloc (Nat.le_trans hBp (Nat.le_of_lt hplt)) _
  have hp5 : PIn w5 p bs false := hpin.belowB (B := w4.heap.size) (by rw [hw5]; exact (Below.refl _ _).alloc (Nat.le_refl _) _) (Nat.le_refl _)
  have hB5 : B ≤ w5.heap.size := by rw [hB]; exact hb5.size
  obtain ⟨q, hq⟩ : ∃ q, q = w4.heap.size := ⟨_, rfl⟩
  rw [← hq] at hri5 hplt ⊢
  have hBq : B ≤ q := by omega
  have hqp : q ≠ p := by omega
  clear hw5 hq hb4 hpin
  refine Calls.mono (hbt2 p w5 hp5) ?_
  rintro e w6 ⟨rfl, hp6, ht6⟩
  have hri6 : RIn w6 q bs A c 0 false := (ht6.block q hri5.lt (fun e => hqp (by injection e))).trans hri5
  have hb6 : Below B W1 w6 := hb5.trans (ht6.belowB hB5 hBp)
  have hB6 : B ≤ w6.heap.size := by rw [hB]; exact hb6.size
  have hf6 : RFix w6 q bs A c := ⟨by rw [Hbl.out]; exact hnc, by rw [Hbl.out]; omega, hcm, (hA1.below hb6 (Nat.le_of_lt hwB)).more (by omega)⟩
  clear hp5 hri5 hb5 hB5 ht6
  go_wp2_with fail
  refine Calls.mono (hrt2 q A c w6 hri6 hf6) ?_
  rintro e w7 ⟨rfl, ⟨hri7, hf7⟩, ht7⟩
  have hp7 : PIn w7 p l3 b3 := hp6.low ⟨ht7.size, fun k hk => ht7.block k (by have := hp6.lt; omega) (fun e => by injection e with e; omega)⟩
  have hb7 : Below B W1 w7 := hb6.trans (ht7.belowB hB6 hBq)
  clear hp6 hri6 hf6 hb6 hB6 ht7
  obtain ⟨dn, hdn⟩ : ∃ x, doneF l3 b3 = x := ⟨_, rfl⟩
  have Hdn := Lib.hid hdn
  clear hdn
  go_wp2_with fail
  refine Calls.mono (done_nB p l3 b3 dn w7 hp7 Hdn.out) ?_
  rintro e w8 ⟨rfl, rfl⟩
  go_wp2_with fail
  refine Calls.mono (rdone_nB q bs A c o3 b3 l3 dn w8 hri7 hf7 hrel3 Hdn.out) ?_
  rintro e w9 ⟨rfl, nd, rfl⟩
  have hb9 : Below B W1 (w8.drewN nd) := Below.dN hb7 nd
  obtain ⟨w9, hw9⟩ : ∃ x, x = w8.drewN nd := ⟨_, rfl⟩
  rw [← hw9] at hb9 ⊢
  clear hw9 hri7 hf7 hp7 hb7 hqp hbt2 hrt2 hplt
  have hB9 : B ≤ w9.heap.size := by rw [hB]; exact hb9.size
  have hR9 : Arr w9 w.heap.size 36 DL := hR1.below hb9 hwB
  have hN9 : Arr (w9.alloc (.cells #[.int .u8 9] 5)) w9.heap.size 5 [.int .u8 9] := Arr.new w9 _ _
  obtain ⟨wa, hwa⟩ : ∃ x, x = w9.alloc (.cells #[.int .u8 9] 5) := ⟨_, rfl⟩
  have hba : Below B W1 wa := by rw [hwa]; exact hb9.alloc hB9 _
  have hRa : Arr wa w.heap.size 36 DL := by rw [hwa]; exact hR9.alloc _
  rw [← hwa] at hN9
  have hsa : Bs wa wa.heap.size (some ⟨w9.heap.size, 0, none⟩) [9] := Arr.bs1 (n := 9) rfl hN9
  have hBa : B ≤ wa.heap.size := by rw [hB]; exact hba.size
  have Hwa := Lib.hid hwa
  clear hwa
  go_wp2_with (first
    | (change wpList _ _ _ _ _ (w9.alloc (.cells #[.int .u8 9] 5)); rw [← Hwa.out]; refine wpList_load_row rfl _ _ rfl w.heap.size rfl 36 DL.toArray (0, 0) _ hRa Try.underlying36 rfl HDi.out ?_))
  refine Calls.mono (bput_any [9] d hd a z DL HDL.out _ 1 1 wa rfl (by omega) (by omega) (by unfold maxLen; omega) hsa) ?_
  rintro e wb ⟨vb, rfl, hownb, hbb⟩
  have hbB : Below B W1 wb := hba.trans (hbb.mono hBa)
  have hBb : B ≤ wb.heap.size := by rw [hB]; exact hbB.size
  have hRb : Arr wb w.heap.size 36 DL := hR1.below hbB hwB
  have hrB : (refB [9] d a z).length ≤ 60 := by
    have e1 := Lib.uvarint_length64 (uF_wrap a).2
    have e2 := Lib.uvarint_length64 (uF_wrap z).2
    unfold refB
    simp only [List.length_append, List.length_cons, List.length_nil, hd]
    omega
  have hdrop : (refB [9] d a z).drop 1 = d ++ Lib.uvarint (uF a) ++ Lib.uvarint (uF z) := by unfold refB; rfl
  have hpos : 1 ≤ (refB [9] d a z).length := by unfold refB; simp only [List.length_append, List.length_cons]; omega
  obtain ⟨R, hR⟩ : ∃ R, R = refB [9] d a z := ⟨_, rfl⟩
  rw [← hR] at hownb hrB hdrop hpos
  obtain ⟨Ab, cb, rfl, hb1c, hb2c, hbsb⟩ := hownb.slice
  obtain ⟨m, hm⟩ : ∃ m, R.length = m := ⟨_, rfl⟩
  rw [hm] at hrB hpos hb1c ⊢
  have hNb : Arr (wb.alloc (.cells #[.int .u8 9] 5)) wb.heap.size 5 [.int .u8 9] := Arr.new wb _ _
  obtain ⟨wc, hwc⟩ : ∃ x, x = wb.alloc (.cells #[.int .u8 9] 5) := ⟨_, rfl⟩
  have hbc : Below B W1 wc := by rw [hwc]; exact hbB.alloc hBb _
  have hbbc : Below wb.heap.size wb wc := by rw [hwc]; exact (Below.refl _ _).alloc (Nat.le_refl _) _
  have hRc : Arr wc w.heap.size 36 DL := hR1.below hbc hwB
  have hownc : Owns wc wb.heap.size 5 (.slice (some ⟨wb.heap.size, 0, none⟩) 1 1) [9] := by
    rw [hwc]
    exact Owns.of_row (cur := [.int .u8 9]) (Nat.le_refl _) (Nat.le_refl _) (by unfold maxLen; omega) (heap_alloc_new wb _) rfl rfl
  have Hm := Lib.hid hm
  have HRr := Lib.hid hR
  have Hwc := Lib.hid hwc
  have Hdrop := Lib.hid hdrop
  clear hm hR hwc hdrop hownb hsa hN9 hba hRa hBa hNb hbb hR9 hb9
  go_wp2_with (first
    | (change wpList _ _ _ _ _ (wb.alloc (.cells #[.int .u8 9] 5)); rw [← Hwc.out]; refine wpList_load_row rfl _ _ rfl w.heap.size rfl 36 DL.toArray (0, 0) _ hRc Try.underlying36 rfl HDi.out ?_))
  refine Calls.mono (rput_any wb.heap.size _ [9] d hd a z DL HDL.out wc hownc hbbc.size (by simp)) ?_
  rintro e wd ⟨vd, rfl, hownd, hbd⟩
  rw [← HRr.out] at hownd
  obtain ⟨Ad, cd, rfl, hd1c, hd2c, hbsd⟩ := hownd.slice
  rw [Hm.out]
  have hBd : Below B W1 wd := hbc.trans (hbd.mono hBb)
  have hbsb' : Bs wd wb.heap.size Ab R := (hbsb.below hbbc (Nat.le_refl _)).below hbd (Nat.le_refl _)
  have hbd2 : wb.heap.size ≤ wd.heap.size := Nat.le_trans hbbc.size hbd.size
  clear hownd hownc hbsb hbc hRc hbbc hbd
  go_wp2_with fail
  refine Calls.mono (same_n wb.heap.size wd.heap.size Ab Ad cb cd m m R R wd true hbsb' hbsd Hm.out Hm.out (by unfold maxLen; omega) (by unfold maxLen; omega) (by simp)) ?_
  rintro e we ⟨rfl, ne, rfl⟩
  have hbE : Below B W1 (wd.drewN ne) := Below.dN hBd ne
  have hbsE : Bs (wd.drewN ne) wb.heap.size Ab R := hbsb'.drewN ne
  obtain ⟨we, hwe⟩ : ∃ x, x = wd.drewN ne := ⟨_, rfl⟩
  rw [← hwe] at hbE hbsE ⊢
  have hRe : Arr we w.heap.size 36 DL := hR1.below hbE hwB
  have hBe : B ≤ we.heap.size := by rw [hB]; exact hbE.size
  have hbbe : wb.heap.size ≤ we.heap.size := by rw [hwe]; exact hbd2
  have he32 : we.cell? ⟨w.heap.size, 32, none⟩ = some (.int .i64 a) := by rw [hRe.cell]; exact h32
  have he33 : we.cell? ⟨w.heap.size, 33, none⟩ = some (.int .i64 z) := by rw [hRe.cell]; exact h33
  clear hwe hbsb' hbsd hBd hRb hbB hbd2
  have hlast : Below w.heap.size w we := hb1.trans (hbE.mono (Nat.le_of_lt hwB))
  clear hB
  by_cases c1 : a < 0
  · have q1 : decide (a < (0 : Int)) = true := by simp; exact c1
    go_wp2_with fail
    go_ret
    exact ⟨rfl, hlast⟩
  have q1 : decide (a < (0 : Int)) = false := by simp; omega
  by_cases c2 : 65535 < a
  · have q2 : decide ((65535 : Int) < a) = true := by simp; exact c2
    go_wp2_with fail
    go_ret
    exact ⟨rfl, hlast⟩
  have q2 : decide ((65535 : Int) < a) = false := by simp; omega
  by_cases c3 : z < 0
  · have q3 : decide (z < (0 : Int)) = true := by simp; exact c3
    go_wp2_with fail
    go_ret
    exact ⟨rfl, hlast⟩
  have q3 : decide (z < (0 : Int)) = false := by simp; omega
  by_cases c4 : 65536 < z
  · have q4 : decide ((65536 : Int) < z) = true := by simp; exact c4
    go_wp2_with fail
    go_ret
    exact ⟨rfl, hlast⟩
  have q4 : decide ((65536 : Int) < z) = false := by simp; omega
  obtain ⟨a', ha'⟩ : ∃ a' : Nat, a = (a' : Int) := ⟨a.toNat, by omega⟩
  obtain ⟨z', hz'⟩ : ∃ z' : Nat, z = (z' : Int) := ⟨z.toNat, by omega⟩
  have hback : R.drop 1 = d ++ Lib.uvarint a' ++ Lib.uvarint z' := by rw [Hdrop.out, ha', hz', uF_nat (by omega), uF_nat (by omega)]
  have hDL2 : DL = refC d (a' : Nat) (z' : Nat) := by rw [HDL.out, ha', hz']
  have hal : a' ≤ 65535 := by omega
  have hzl : z' ≤ 65536 := by omega
  have hcmpD : ∀ w, (Op.equalIn 10000 36 (.agg DL.toArray) (.agg DL.toArray)).run Try.prog w = .ok true w := fun w => by
    rw [ref_eqv d d hd hd a' z' a' z' DL DL hDL2 hDL2 w]
    simp
  have hfrom := run_from (P := Try.prog) 22 underB sizeB Ab m cb 1 .i64 1 rfl hpos we
  have hbsd1 := hbsE.cutA (c := cb) (k := 1) (by rw [Hm.out]; exact hpos) (by rw [Hm.out]; exact hb1c)
  rw [hback] at hbsd1
  have hlm : (d ++ Lib.uvarint a' ++ Lib.uvarint z').length = m - 1 := by rw [← hback, List.length_drop, Hm.out]
  have Hlm := Lib.hid hlm
  have HDL2 := Lib.hid hDL2
  have Hfrom := Lib.hid hfrom
  have hBWe : B ≤ we.heap.size := hBe
  clear ha' hz' hback hlm hDL2 hfrom
  go_wp2_with (refine wpList_fromB rfl 22 _ _ rfl (.slice Ab m cb) (.int .i64 1) _ rfl rfl Hfrom.out ?_)
  refine (from_n _ _ _ (m - 1) (d ++ Lib.uvarint a' ++ Lib.uvarint z') we hbsd1 Hlm.out (by omega)).mono ?_
  rintro e wf ⟨p2, rfl, hp2, hpinf, hbf⟩
  have hbF : Below B W1 wf := hbE.trans (hbf.mono hBe)
  have hRf : Arr wf w.heap.size 36 DL := hR1.below hbF hwB
  have hBp2 : B ≤ p2 := Nat.le_trans hBe hp2
  have hBf : B ≤ wf.heap.size := Nat.le_trans hBe hbf.size
  have hRfd : Arr wf.drew w.heap.size 36 DL := hRf.drewN 1
  have hpfd : PIn wf.drew p2 (d ++ Lib.uvarint a' ++ Lib.uvarint z') false := hpinf.low ⟨Nat.le_refl _, fun _ _ => rfl⟩
  have hbFd : Below B W1 wf.drew := Below.dN hbF 1
  clear hRe he32 he33 hbsd1 hbsE hbE hpinf hbf hRf hbF q1 q2 q3 q4
  dsimp only
  go_wp2_with fail
  refine wp_region_held_drew (S := fun w' => w'.rangeAt w.heap.size 0 DL) (by kernel_rfl) hRfd.range (fun hHeld => ?_)
  refine anyH_take (i := 0) (v := .pointer (some ⟨p2, 0, none⟩)) (some 62) rfl rfl (by kernel_rfl) (by kernel_rfl) (by kernel_rfl) (fun _ _ _ h => h) (Or.inl ⟨by rfl, fun _ _ => by rfl⟩) (by assumption) ?_
  simp only [Act.put, List.setIfInBounds_toArray, List.set_cons_zero, List.set_cons_succ]
  refine anyH_take (i := 2) (some 64) rfl rfl (by kernel_rfl) (by kernel_rfl) (by kernel_rfl) (fun _ _ _ h => h) (yieldsIf_load_mid (by rfl) 36 (.tmp 2) rfl w.heap.size 0 rfl DL _ (fun _ h => h) Try.underlying36 rfl HDn.out) (by assumption) ?_
  simp only [Act.put, List.setIfInBounds_toArray, List.set_cons_zero, List.set_cons_succ]
  refine wpAnyH_ready (rs := [1]) (by kernel_rfl) (by simp) ?_
  refine AllReadyH.cons rfl (fun K hK => ?_) AllReadyH.nil
  go_simp
  go_at_call 22
  refine Calls.mono (take_back d hd a' z' hal hzl DL HDL2.out p2 wf.drew hpfd) ?_
  rintro e wg ⟨rfl, hpg, htg⟩
  have hbG : Below B W1 wg := hbFd.trans (htg.belowB hBf hBp2)
  have hRg : Arr wg w.heap.size 36 DL := hR1.below hbG hwB
  dsimp only
  go_wp2_with fail
  refine hK.out _ _ hRg.range (fun hHeld => ?_)
  clear hK K
  try simp only [Act.put, List.setIfInBounds_toArray, List.set_cons_zero, List.set_cons_succ]
  refine wpAnyH_ready (rs := [3]) (by kernel_rfl) (by simp) ?_
  refine AllReadyH.cons rfl (fun K hK => ?_) AllReadyH.nil
  go_simp
  refine hK.out _ _ hRg.range (fun hHeld => ?_)
  clear hK K
  try simp only [Act.put, List.setIfInBounds_toArray, List.set_cons_zero, List.set_cons_succ]
  refine anyH_take (i := 4) (v := .bool true) (some 66) rfl rfl (by kernel_rfl) (by kernel_rfl) (by kernel_rfl) (fun _ _ _ h => h) (Or.inl ⟨by rfl, fun _ _ => by rfl⟩) (by assumption) ?_
  simp only [Act.put, List.setIfInBounds_toArray, List.set_cons_zero, List.set_cons_succ]
  refine anyH_take (i := 5) (v := .pointer (some ⟨p2, 0, none⟩)) (some 67) rfl rfl (by kernel_rfl) (by kernel_rfl) (by kernel_rfl) (fun _ _ _ h => h) (Or.inl ⟨by rfl, fun _ _ => by rfl⟩) (by assumption) ?_
  simp only [Act.put, List.setIfInBounds_toArray, List.set_cons_zero, List.set_cons_succ]
  refine wpAnyH_ready (rs := [6]) (by kernel_rfl) (by simp) ?_
  refine AllReadyH.cons rfl (fun K hK => ?_) AllReadyH.nil
  go_simp
  go_at_call 24
  refine Calls.mono (done_nB p2 [] false 0 wg hpg rfl) ?_
  rintro e wh ⟨rfl, rfl⟩
  dsimp only
  go_wp2_with fail
  refine hK.out _ _ hRg.range (fun hHeld => ?_)
  clear hK K
  try simp only [Act.put, List.setIfInBounds_toArray, List.set_cons_zero, List.set_cons_succ]
  refine anyH_take (i := 7) (v := .bool true) (some 69) rfl rfl (by kernel_rfl) (by kernel_rfl) (by kernel_rfl) (fun _ _ _ h => h) (Or.inl ⟨by rfl, fun _ _ => by go_simp⟩) (by assumption) ?_
  simp only [Act.put, List.setIfInBounds_toArray, List.set_cons_zero, List.set_cons_succ]
  refine anyH_take (i := 8) (v := .bool true) (some 70) rfl rfl (by kernel_rfl) (by kernel_rfl) (by kernel_rfl) (fun _ _ _ h => h) (Or.inl ⟨by rfl, fun _ _ => by rfl⟩) (by assumption) ?_
  simp only [Act.put, List.setIfInBounds_toArray, List.set_cons_zero, List.set_cons_succ]
  refine anyH_take (i := 9) (v := .bool true) (some 4) rfl rfl (by kernel_rfl) (by kernel_rfl) (by kernel_rfl) (fun _ _ _ h => h) (Or.inl ⟨by rfl, fun _ _ => by rfl⟩) (by assumption) ?_
  simp only [Act.put, List.setIfInBounds_toArray, List.set_cons_zero, List.set_cons_succ]
  refine wpAnyH_done (by kernel_rfl) ?_ _
  go_wp2_with fail
  go_ret
  exact ⟨rfl, hb1.trans (hbG.mono (Nat.le_of_lt hwB))⟩

theorem blobRefs_walk (d : List UInt8) (a z : Int) (hd : d.length = 32) (ha0 : -9223372036854775808 ≤ a) (ha1 : a ≤ 9223372036854775807) (hz0 : -9223372036854775808 ≤ z) (hz1 : z ≤ 9223372036854775807) (A : Option Addr) (c : Nat) (bs : List UInt8) (hnc : bs.length ≤ c) (hcm : c ≤ maxLen) (w : World) (hA : Bs w w.heap.size A bs) :
    Calls Try.prog 5 #[.agg (refC d a z).toArray, .slice A bs.length c] w fun e w' => e = .returned (.bool true) ∧ Below w.heap.size w w' := by
  by_cases h : 300 < bs.length
  · exact brefs_great _ A _ c w h
  · exact brefs_in d hd a z _ rfl A _ c bs rfl hnc hcm w hA (by omega) ha0 ha1 hz0 hz1

end Go.Proofs.Ytongmiebojilfaa

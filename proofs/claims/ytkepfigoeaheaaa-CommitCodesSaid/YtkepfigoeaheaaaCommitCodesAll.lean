/-
  The law CommitCodes.
-/
import Derived.Test.YtkepfigoeaheaaaComLib
import Derived.Test.YtkepfigoeaheaaaComRightL
namespace Go.Proofs.Ytkepfigoeaheaaa
open Go.RowKit
set_option linter.unusedVariables false
set_option linter.unusedSimpArgs false


theorem Grew.keepArr {w w' : World} {sv v' : Value} {g : Nat} {T : TypeId} {DL : List Value} (hg : Grew w w' sv v') (hX : Arr w g T DL) (hv : ∀ k, sv.ownBlock = some k → k ≠ g) : Arr w' g T DL ∧ ∀ k, v'.ownBlock = some k → k ≠ g := by
  refine ⟨(hg.1.block g hX.lt (fun e => hv _ e.symm rfl)).trans hX, fun k hk => ?_⟩
  rcases hg.2 with e | ⟨j, e, hj⟩
  · exact hv k (by rw [← e]; exact hk)
  · rw [hk] at e
    injection e with e
    have := hX.lt
    omega
theorem owns_emptyB (w : World) (base : Nat) (h : base ≤ w.heap.size) : Owns (w.alloc (.cells #[] 5)) base 5 (.slice (some ⟨w.heap.size, 0, none⟩) 0 0) [] :=
  ⟨by simp [Lib.byteCells], .inr ⟨w.heap.size, 0, #[], rfl, h, heap_alloc_new w _, Nat.le_refl _, by unfold maxLen; omega, by simp, by simp [Lib.byteCells]⟩⟩
theorem drop_getD {α : Type} {l : List α} {k : Nat} (z : α) (h : k < l.length) : l.drop k = l.getD k z :: l.drop (k + 1) := by
  rw [List.drop_eq_getElem_cons h]
  congr 1
  simp [List.getD, h]
theorem encN_le (b : BinF) (hd : b.d.length = 32) : (encN b).length ≤ 62 := by
  have e1 := Lib.uvarint_length64 (uN_wrap b.x).2
  have e2 := Lib.uvarint_length64 (uN_wrap b.a).2
  have e3 := Lib.uvarint_length64 (uN_wrap b.n).2
  unfold encN binB
  simp only [List.length_append]
  omega
theorem encR_le (r : RefF) (hd : r.d.length = 32) : (encR r).length ≤ 52 := by
  have e1 := Lib.uvarint_length64 (uF_wrap r.a).2
  have e2 := Lib.uvarint_length64 (uF_wrap r.n).2
  unfold encR refB
  simp only [List.length_append, List.length_nil]
  omega

set_option maxHeartbeats 8000000 in
set_option maxRecDepth 100000 in
theorem rnput_out (B : Nat) (sv : Value) (out : List UInt8) (n a c : Int) (d : List UInt8) (hd : d.length = 32) (DL : List Value) (hDL : DL = binC n a c d) (w : World) (hown : Owns w B 5 sv out) (hBw : B ≤ w.heap.size) (hlim : out.length ≤ 100000000000) :
    Calls Try.prog 40 #[sv, .agg DL.toArray] w fun e w' => ∃ v, e = .returned v ∧ Owns w' B 5 v (out ++ binB n a c d) ∧ Below B w w' := by
  obtain ⟨i0, hi, hz0, hz1, hz2⟩ := info_parts byteInfo
  obtain ⟨W1, hW1⟩ : ∃ x, x = w.alloc (.cells DL.toArray 72) := ⟨_, rfl⟩
  have hX1 : Arr W1 w.heap.size 72 DL := by rw [hW1]; exact Arr.new w _ _
  have hb1 : Below w.heap.size w W1 := by rw [hW1]; exact (Below.refl _ w).alloc (Nat.le_refl _) _
  have hown1 := hown.below hb1 (fun k hk => (hown.lt k hk).2)
  have hv1 : ∀ k, sv.ownBlock = some k → k ≠ w.heap.size := fun k hk => by have := (hown.lt k hk).2; omega
  have hbw1 : Below B w W1 := hb1.mono hBw
  have HD0 := Lib.hid (show DL[0]? = some (.int .i64 n) by rw [hDL]; rfl)
  have HD1 := Lib.hid (show DL[1]? = some (.int .i64 a) by rw [hDL]; rfl)
  have HD2 := Lib.hid (show DL[2]? = some (.int .i64 c) by rw [hDL]; rfl)
  have Hbs := Lib.hid (show ∀ w' : World, Arr w' w.heap.size 72 DL → Bs w' w'.heap.size (some ⟨w.heap.size, 3, none⟩) d from fun w' h => bin_dig_bs hDL h)
  obtain ⟨x, hx⟩ : ∃ x, uN n = x := ⟨_, rfl⟩
  obtain ⟨y, hy⟩ : ∃ y, uN a = y := ⟨_, rfl⟩
  obtain ⟨z, hz⟩ : ∃ z, uN c = z := ⟨_, rfl⟩
  have hxw : IntKind.u64.wrap n = (x : Int) := by rw [← hx]; exact (uN_wrap n).1
  have hyw : IntKind.u64.wrap a = (y : Int) := by rw [← hy]; exact (uN_wrap a).1
  have hzw : IntKind.u64.wrap c = (z : Int) := by rw [← hz]; exact (uN_wrap c).1
  have hxl : x < 18446744073709551616 := by rw [← hx]; exact (uN_wrap n).2
  have hyl : y < 18446744073709551616 := by rw [← hy]; exact (uN_wrap a).2
  have hzl : z < 18446744073709551616 := by rw [← hz]; exact (uN_wrap c).2
  have HBin := Lib.hid (show Lib.uvarint x ++ (Lib.uvarint y ++ (Lib.uvarint z ++ d)) = binB n a c d by rw [← hx, ← hy, ← hz]; simp [binB])
  have e1 := Lib.uvarint_length64 hxl
  have e2 := Lib.uvarint_length64 hyl
  have e3 := Lib.uvarint_length64 hzl
  obtain ⟨X, hXe⟩ : ∃ X, X = Lib.uvarint x := ⟨_, rfl⟩
  obtain ⟨Y, hYe⟩ : ∃ X, X = Lib.uvarint y := ⟨_, rfl⟩
  obtain ⟨Z, hZe⟩ : ∃ X, X = Lib.uvarint z := ⟨_, rfl⟩
  have HXe := Lib.hid hXe
  have HYe := Lib.hid hYe
  have HZe := Lib.hid hZe
  rw [← hXe] at e1
  rw [← hYe] at e2
  rw [← hZe] at e3
  have c0 : W1.cell? ⟨w.heap.size, 0, none⟩ = some (.int .i64 n) := by rw [hX1.cell]; exact HD0.out
  have HW1 := Lib.hid hW1
  have hB1 : B ≤ W1.heap.size := Nat.le_trans hBw hb1.size
  clear hW1 hDL hx hy hz hXe hYe hZe hown hb1
  go_enter Try.func40, Try.ntmps40
  go_upto_region 1 with fail
  change Code.wp _ _ _ _ (w.alloc (.cells DL.toArray 72))
  rw [← HW1.out]
  clear HW1
  go_wp2_with fail
  go_at_call 38
  refine Calls.mono (rnumber_any B x hxl _ out W1 hown1 hB1 (by omega)) ?_
  rintro e w2 ⟨v2, rfl, hown2, hg2⟩
  have hb2 : Below B W1 w2 := hg2.below hB1 (fun k hk => (hown1.lt k hk).1)
  obtain ⟨hX2, hv2⟩ := hg2.keepArr hX1 hv1
  have hB2 : B ≤ w2.heap.size := Nat.le_trans hB1 hb2.size
  have hbw2 := hbw1.trans hb2
  have c1 : w2.cell? ⟨w.heap.size, 1, none⟩ = some (.int .i64 a) := by rw [hX2.cell]; exact HD1.out
  rw [← HXe.out] at hown2
  clear hX1 hbw1 hg2 hb2 c0 hB1 hown1 hv1
  dsimp only
  go_wp2_with fail
  go_at_call 38
  refine Calls.mono (rnumber_any B y hyl _ _ w2 hown2 hB2 (by simp only [List.length_append]; omega)) ?_
  rintro e w3 ⟨v3, rfl, hown3, hg3⟩
  have hb3 : Below B w2 w3 := hg3.below hB2 (fun k hk => (hown2.lt k hk).1)
  obtain ⟨hX3, hv3⟩ := hg3.keepArr hX2 hv2
  have hB3 : B ≤ w3.heap.size := Nat.le_trans hB2 hb3.size
  have hbw3 := hbw2.trans hb3
  have c2 : w3.cell? ⟨w.heap.size, 2, none⟩ = some (.int .i64 c) := by rw [hX3.cell]; exact HD2.out
  rw [← HYe.out] at hown3
  clear hX2 hbw2 hg3 hb3 c1 hB2 hown2
  dsimp only
  go_wp2_with fail
  go_at_call 38
  refine Calls.mono (rnumber_any B z hzl _ _ w3 hown3 hB3 (by simp only [List.length_append]; omega)) ?_
  rintro e w4 ⟨v4, rfl, hown4, hg4⟩
  have hb4 : Below B w3 w4 := hg4.below hB3 (fun k hk => (hown3.lt k hk).1)
  obtain ⟨hX4, hv4⟩ := hg4.keepArr hX3 hv3
  have hB4 : B ≤ w4.heap.size := Nat.le_trans hB3 hb4.size
  have hbw4 := hbw3.trans hb4
  have hbs := Hbs.out w4 hX4
  rw [← HZe.out] at hown4
  clear hX3 hbw3 hg4 hb4 c2 hB3 hown3
  dsimp only
  go_wp2_with (at_builtin; refine wpList_append_bs rfl _ _ 33 rfl B 5 i0 (.int .u8 0) Try.underlying33 hi hz0 hz1 hz2 rfl v4 _ rfl hown4 w4.heap.size (some ⟨w.heap.size, 3, none⟩) 32 32 d rfl hd hbs (by simp only [List.length_append]; omega) hB4 ?_)
  intro v5 w5 hown5 hg5
  have hb5 : Below B w4 w5 := hg5.below hB4 (fun k hk => (hown4.lt k hk).1)
  have hbw5 := hbw4.trans hb5
  rw [HXe.out, HYe.out, HZe.out] at hown5
  try simp only [List.append_assoc] at hown5
  rw [HBin.out] at hown5
  clear hown4 hg5 hbs
  go_wp2_with fail
  go_ret
  exact ⟨v5, rfl, hown5, hbw5⟩


set_option maxHeartbeats 16000000 in
set_option maxRecDepth 100000 in
theorem rencC_any (x : Cx) (VL : List Value) (hVL : VL = comC x) (w : World) (h : CxOk w w.heap.size x) (hlb : x.c.bins.length ≤ 100000) (hle : x.c.evs.length ≤ 100000) (hel : ∀ e ∈ x.c.evs, e.length ≤ 1000000) :
    Calls Try.prog 12 #[.agg VL.toArray] w fun e w' => ∃ v, e = .returned v ∧ Owns w' w.heap.size 5 v (encC x.c) ∧ Below w.heap.size w w' := by
  obtain ⟨i0, hi, hz0, hz1, hz2⟩ := info_parts byteInfo
  have Hi := Lib.hid (show (Try.prog.info? 5) = some i0 ∧ i0.zero = some (.int .u8 0) ∧ i0.size = 1 ∧ i0.bytes = 1 from ⟨hi, hz0, hz1, hz2⟩)
  obtain ⟨W1, hW1⟩ : ∃ z, z = w.alloc (.cells VL.toArray 30) := ⟨_, rfl⟩
  have hR1 : Arr W1 w.heap.size 30 VL := by rw [hW1]; exact Arr.new w _ _
  have hb0 : Below w.heap.size w W1 := by rw [hW1]; exact (Below.refl _ w).alloc (Nat.le_refl _) _
  have Hx := Lib.hid h
  obtain ⟨R1, hR1e⟩ : ∃ z, z = rC x.c.r1 := ⟨_, rfl⟩
  obtain ⟨R2, hR2e⟩ : ∃ z, z = rC x.c.r2 := ⟨_, rfl⟩
  obtain ⟨R3, hR3e⟩ : ∃ z, z = rC x.c.r3 := ⟨_, rfl⟩
  obtain ⟨SL, hSL⟩ : ∃ z, z = Lib.byteCells x.c.st := ⟨_, rfl⟩
  obtain ⟨n0, hn0⟩ : ∃ z, x.c.bins.length = z := ⟨_, rfl⟩
  obtain ⟨n1, hn1⟩ : ∃ z, x.c.evs.length = z := ⟨_, rfl⟩
  obtain ⟨ep, hep⟩ : ∃ z, x.c.ep = z := ⟨_, rfl⟩
  have l1 : R1.length = 34 := by rw [hR1e]; exact rC_length h.r1
  have l2 : R2.length = 34 := by rw [hR2e]; exact rC_length h.r2
  have l3 : R3.length = 34 := by rw [hR3e]; exact rC_length h.r3
  have hV2 : VL = comV ep R1 R2 R3 (.slice x.Ab n0 x.cb) SL (.slice x.Ae n1 x.ce) := by rw [hVL, hR1e, hR2e, hR3e, hSL, ← hn0, ← hn1, ← hep]; rfl
  have Hat := Lib.hid (fun (w' : World) (hA : Arr w' w.heap.size 30 VL) => (show ComAt w' w.heap.size ep R1 R2 R3 (.slice x.Ab n0 x.cb) SL (.slice x.Ae n1 x.ce) from Arr.com (by rw [← hV2]; exact hA) l1 l2 l3 (by rw [hSL, Lib.byteCells_length, h.st])))
  have H1 := Lib.hid (show (Try.prog.info? 26).map (·.size) = some R1.length by rw [l1]; exact refSize)
  have H2 := Lib.hid (show (Try.prog.info? 26).map (·.size) = some R2.length by rw [l2]; exact refSize)
  have H3 := Lib.hid (show (Try.prog.info? 26).map (·.size) = some R3.length by rw [l3]; exact refSize)
  have HR := Lib.hid (show R1 = rC x.c.r1 ∧ R2 = rC x.c.r2 ∧ R3 = rC x.c.r3 from ⟨hR1e, hR2e, hR3e⟩)
  have HSL := Lib.hid hSL
  have Hn0 := Lib.hid hn0
  have Hn1 := Lib.hid hn1
  have Hep := Lib.hid hep
  have Hel := Lib.hid hel
  have hepl : ep < 18446744073709551616 := by rw [← hep]; exact h.ep
  have hn0l : n0 ≤ 100000 := by omega
  have hn1l : n1 ≤ 100000 := by omega
  obtain ⟨B, hB⟩ : ∃ z, z = W1.heap.size := ⟨_, rfl⟩
  have hgB : w.heap.size < B := by rw [hB]; exact hR1.lt
  have hBW : B ≤ W1.heap.size := Nat.le_of_eq hB
  have HB := Lib.hid hB
  have HW1 := Lib.hid hW1
  have Hb0 := Lib.hid hb0
  -- what stays
  have Hcm := Lib.hid (fun (wr : World) (hbr : Below B W1 wr) => show Arr wr w.heap.size 30 VL from hR1.below hbr hgB)
  have Hkp := Lib.hid (fun (wr : World) (hbr : Below B W1 wr) (b o : Nat) (hb : b < w.heap.size) => show wr.cell? ⟨b, o, none⟩ = w.cell? ⟨b, o, none⟩ from (World.cell?_of_block (hbr.block b (by omega))).trans (World.cell?_of_block (hb0.block b hb)))
  have hbnd : x.cb ≤ 9223372036854775807 ∧ x.ce ≤ 9223372036854775807 ∧ n0 ≤ x.cb ∧ n1 ≤ x.ce := by
    have g1 := h.mb
    have g2 := h.me
    have g3 := h.lb
    have g4 := h.le
    unfold maxLen at g1 g2
    omega
  obtain ⟨⟨g1, g2, g3⟩, g4⟩ : (x.cb ≤ 9223372036854775807 ∧ x.ce ≤ 9223372036854775807 ∧ n0 ≤ x.cb) ∧ n1 ≤ x.ce := ⟨⟨hbnd.1, hbnd.2.1, hbnd.2.2.1⟩, hbnd.2.2.2⟩
  have hwn0 : IntKind.u64.wrap (n0 : Int) = (n0 : Int) := IntWalk.u64_in _ (by omega)
  have hwn1 : IntKind.u64.wrap (n1 : Int) = (n1 : Int) := IntWalk.u64_in _ (by omega)
  have Hr := Lib.hid (show (encR x.c.r1).length ≤ 52 ∧ (encR x.c.r2).length ≤ 52 ∧ (encR x.c.r3).length ≤ 52 from ⟨encR_le _ h.r1.d, encR_le _ h.r2.d, encR_le _ h.r3.d⟩)
  have Hul := Lib.hid (show (Lib.uvarint ep).length ≤ 10 ∧ (Lib.uvarint n0).length ≤ 10 ∧ (Lib.uvarint n1).length ≤ 10 from ⟨Lib.uvarint_length64 hepl, Lib.uvarint_length64 (by omega), Lib.uvarint_length64 (by omega)⟩)
  clear hbnd hR1e hR2e hR3e hSL hn0 hn1 hep hVL hV2 hlb hle hel hb0 hR1 hW1 hB h l1 l2 l3 hi hz0 hz1 hz2
  go_enter Try.func12, Try.ntmps12
  go_upto_region 1 with fail
  rw [← HW1.out]
  clear HW1
  have p0 := (Hat.out (W1.alloc (.cells #[] 5)) (Hcm.out _ ((Below.refl B W1).alloc hBW _))).ep
  go_wp2_with fail
  rw [← HB.out]
  have hown0 := owns_emptyB W1 B hBW
  rw [← HB.out] at hown0
  refine Calls.mono (rnumber_any B ep hepl _ [] _ hown0 (by simp; omega) (by simp)) ?_
  rintro e w2 ⟨v2, rfl, hO2, hg2⟩
  have hb2 : Below B W1 w2 := ((Below.refl B W1).alloc hBW _).trans (hg2.below (by simp; omega) (fun k hk => (hown0.lt k hk).1))
  rw [List.nil_append] at hO2
  have HO2 := Lib.hid hO2
  have hs2 := hb2.size
  clear hO2 hown0 hg2 p0
  have HA2 := Lib.hid (Hat.out w2 (Hcm.out w2 hb2))
  go_wp2_with (first | ((with_reducible refine wpList_at 12 (by rfl) ?_); refine wpList_load_mid_ifC (by rfl) 26 _ rfl w.heap.size 1 rfl R1 _ (HA2.out.r1) Try.underlying26 rfl H1.out ?_))
  refine Calls.mono (rput_any B v2 _ x.c.r1.d Hx.out.r1.d x.c.r1.a x.c.r1.n R1 HR.out.1 w2 HO2.out (by omega) (by have := Hul.out.1; omega)) ?_
  rintro e w3 ⟨v3, rfl, hO3, hb3'⟩
  rw [refB_out] at hO3
  change Owns _ _ _ _ (_ ++ encR x.c.r1) at hO3
  have hb3 := hb2.trans hb3'
  have HO3 := Lib.hid hO3
  have hs3 := hb3.size
  clear hO3 hb3' hb2 HA2 HO2 hs2
  have HA3 := Lib.hid (Hat.out w3 (Hcm.out w3 hb3))
  go_wp2_with (first | ((with_reducible refine wpList_at 16 (by rfl) ?_); refine wpList_load_mid_ifC (by rfl) 26 _ rfl w.heap.size 35 rfl R2 _ (HA3.out.r2) Try.underlying26 rfl H2.out ?_))
  refine Calls.mono (rput_any B v3 _ x.c.r2.d Hx.out.r2.d x.c.r2.a x.c.r2.n R2 HR.out.2.1 w3 HO3.out (by omega) (by have := Hul.out.1; have := Hr.out.1; simp only [List.length_append]; omega)) ?_
  rintro e w4 ⟨v4, rfl, hO4, hb4'⟩
  rw [refB_out] at hO4
  change Owns _ _ _ _ (_ ++ encR x.c.r2) at hO4
  have hb4 := hb3.trans hb4'
  have HO4 := Lib.hid hO4
  have hs4 := hb4.size
  clear hO4 hb4' hb3 HA3 HO3 hs3
  have HA4 := Lib.hid (Hat.out w4 (Hcm.out w4 hb4))
  go_wp2_with (first | ((with_reducible refine wpList_at 20 (by rfl) ?_); refine wpList_load_mid_ifC (by rfl) 26 _ rfl w.heap.size 69 rfl R3 _ (HA4.out.r3) Try.underlying26 rfl H3.out ?_))
  refine Calls.mono (rput_any B v4 _ x.c.r3.d Hx.out.r3.d x.c.r3.a x.c.r3.n R3 HR.out.2.2 w4 HO4.out (by omega) (by have := Hul.out.1; have := Hr.out.1; have := Hr.out.2.1; simp only [List.length_append]; omega)) ?_
  rintro e w5 ⟨v5, rfl, hO5, hb5'⟩
  rw [refB_out] at hO5
  change Owns _ _ _ _ (_ ++ encR x.c.r3) at hO5
  have hb5 := hb4.trans hb5'
  obtain ⟨O5, hO5e⟩ : ∃ z, ((Lib.uvarint ep ++ encR x.c.r1) ++ encR x.c.r2) ++ encR x.c.r3 = z := ⟨_, rfl⟩
  rw [hO5e] at hO5
  have HO5e := Lib.hid (show O5 = encH x.c by rw [← hO5e]; unfold encH; rw [Hep.out]; simp only [List.append_assoc])
  have HO5l := Lib.hid (show O5.length ≤ 166 by have := Hul.out.1; have := Hr.out; rw [HO5e.out]; unfold encH; rw [Hep.out]; simp only [List.length_append]; omega)
  have HO5 := Lib.hid hO5
  have hs5 := hb5.size
  clear hO5 hb5' hb4 HA4 HO4 hs4 hO5e
  have p5 := (Hat.out w5 (Hcm.out w5 hb5)).bins
  go_wp2_with fail
  refine Calls.mono (rnumber_any B n0 (by omega) v5 O5 w5 HO5.out (by omega) (by have := HO5l.out; omega)) ?_
  rintro e w6 ⟨v6, rfl, hO6, hg6⟩
  have hb6 : Below B W1 w6 := hb5.trans (hg6.below (by omega) (fun k hk => (HO5.out.lt k hk).1))
  obtain ⟨P1, hP1⟩ : ∃ z, (O5 ++ Lib.uvarint n0) ++ x.c.bins.flatMap encN = z := ⟨_, rfl⟩
  have HP1 := Lib.hid (show (O5 ++ Lib.uvarint n0) ++ (x.c.bins.drop 0).flatMap encN = P1 by rw [List.drop_zero]; exact hP1)
  have Hl6 := Lib.hid (show (O5 ++ Lib.uvarint n0).length ≤ 176 by have := HO5l.out; have := Hul.out.2.1; simp only [List.length_append]; omega)
  have HP1e := Lib.hid (show P1 = encH x.c ++ (Lib.uvarint x.c.bins.length ++ x.c.bins.flatMap encN) by rw [← hP1, HO5e.out, Hn0.out, List.append_assoc])
  have HO6 := Lib.hid hO6
  clear hO6 hg6 hb5 hs5 p5 HO5 hP1
  go_wp2_with fail
  go_loopw [3, 4] (fun v i wr => ∃ (k : Nat) (o : List UInt8), k ≤ n0 ∧ i = .int .i64 k ∧ Owns wr B 5 v o ∧ Hid (o ++ (x.c.bins.drop k).flatMap encN = P1) ∧ Hid (o.length ≤ 176 + 62 * k) ∧ Below B W1 wr) (fun _ i _ => n0 - (Go.RowKit.intOf i).toNat)
  case atStart => exact ⟨0, _, Nat.zero_le _, rfl, HO6.out, HP1, Lib.hid (by have := Hl6.out; omega), hb6⟩
  case round =>
    clear HO6 hb6 Hl6 HP1
    obtain ⟨k, o, hk, rfl, hO, Ho, Hl, hbr⟩ := hrel
    have HO := Lib.hid hO
    have hsr := hbr.size
    have q4 := (Hat.out wr (Hcm.out wr hbr)).bins
    clear hO
    by_cases hlt : k < n0
    · have hd1 : decide ((k : Int) < (n0 : Int)) = true := by simp; omega
      obtain ⟨bb, off, hAb, hblk, hrow⟩ := Hx.out.bins (by rw [Hn0.out]; omega)
      obtain ⟨b, hb⟩ : ∃ b, x.c.bins.getD k zB = b := ⟨_, rfl⟩
      have hbe : x.c.bins[k]? = some b := by
        rw [← hb, List.getElem?_eq_getElem (by rw [Hn0.out]; exact hlt)]
        simp [List.getD, Hn0.out, hlt]
      have hbW := Hx.out.bw b (List.mem_of_getElem? hbe)
      obtain ⟨BL, hBL⟩ : ∃ z, z = bC b := ⟨_, rfl⟩
      have hBl : BL.length = 35 := by rw [hBL]; exact bC_length hbW
      have hrg : wr.rangeAt bb (off + k * 35) BL := fun j v hj => (Hkp.out wr hbr bb _ hblk).trans (hrow k b hbe j v (by rw [← hBL]; exact hj))
      have HBl := Lib.hid (show (Try.prog.info? 72).map (·.size) = some BL.length by rw [hBl]; exact binSize)
      have HBL := Lib.hid hBL
      have Hb := Lib.hid hb
      have HbW := Lib.hid hbW
      rw [hAb] at q4
      clear hrow hb hbW hBL hBl hbe hAb
      go_wp2_with (first | ((with_reducible refine wpList_at 40 (by rfl) ?_); refine wpList_load_mid_ifC (by rfl) 72 _ rfl bb (off + k * 35) rfl BL _ (hrg) Try.underlying72 rfl HBl.out ?_))
      refine Calls.mono (rnput_out B _ o b.x b.a b.n b.d HbW.out.d BL HBL.out wr HO.out (by omega) (by have := Hl.out; omega)) ?_
      rintro e wa ⟨va, rfl, hOa, hba⟩
      have hbra := hbr.trans hba
      have Hoa := Lib.hid (show (o ++ encN b) ++ (x.c.bins.drop (k + 1)).flatMap encN = P1 by
        have h1 := Ho.out
        rw [drop_getD zB (by rw [Hn0.out]; exact hlt), List.flatMap_cons, Hb.out] at h1
        rw [List.append_assoc]; exact h1)
      have Hla := Lib.hid (show (o ++ encN b).length ≤ 176 + 62 * (k + 1) by have := Hl.out; have := encN_le b HbW.out.d; simp only [List.length_append]; omega)
      clear hba hbr HO Ho Hl
      go_wp2_with fail
      go_roundw
      case rel => exact ⟨k + 1, _, by omega, by go_num, hOa, Hoa, Hla, hbra⟩
      case measure => simp [Go.RowKit.intOf]; omega
    · obtain rfl : k = n0 := by omega
      have hd1 : decide ((k : Int) < (k : Int)) = false := by simp
      have Hfin := Lib.hid (show o = P1 by have h1 := Ho.out; rw [List.drop_of_length_le (by rw [Hn0.out]; exact Nat.le_refl _)] at h1; simpa using h1)
      have hst : Bs wr wr.heap.size (some ⟨w.heap.size, 104, none⟩) x.c.st := fun hp => ⟨w.heap.size, 104, rfl, by omega, fun j hj => by
        have h1 := (Hat.out wr (Hcm.out wr hbr)).st j (.int .u8 ((x.c.st.getD j 0).toNat : Nat)) (by rw [HSL.out]; exact byteCells_get hj)
        exact h1⟩
      have Hst := Lib.hid hst
      have Hstl := Lib.hid Hx.out.st
      have hll := Hl.out
      clear hst
      go_upto_region 11 with (at_builtin; refine wpList_append_bs rfl _ _ 33 rfl B 5 i0 (.int .u8 0) Try.underlying33 Hi.out.1 Hi.out.2.1 Hi.out.2.2.1 Hi.out.2.2.2 rfl _ o rfl HO.out wr.heap.size (some ⟨w.heap.size, 104, none⟩) 32 32 x.c.st rfl Hstl.out Hst.out (by omega) (by omega) ?_; intro v7 w7 hO7 hg7)
      have hb7 : Below B W1 w7 := hbr.trans (hg7.below (by omega) (fun k hk => (HO.out.lt k hk).1))
      have hs7 := hb7.size
      have HO7 := Lib.hid hO7
      have p7 := (Hat.out w7 (Hcm.out w7 hb7)).evs
      have Hl7 := Lib.hid (show (o ++ x.c.st).length ≤ 208 + 62 * k by simp only [List.length_append]; have := Hstl.out; omega)
      clear hO7 hg7 hbr HO hsr q4 hd1 hll Hst
      go_wp2_with fail
      refine Calls.mono (rnumber_any B n1 (by omega) v7 (o ++ x.c.st) w7 HO7.out (by omega) (by have := Hl7.out; omega)) ?_
      rintro e w8 ⟨v8, rfl, hO8, hg8⟩
      have hb8 : Below B W1 w8 := hb7.trans (hg8.below (by omega) (fun k hk => (HO7.out.lt k hk).1))
      have HO8 := Lib.hid hO8
      have Hl8 := Lib.hid (show ((o ++ x.c.st) ++ Lib.uvarint n1).length ≤ 7000000 by have := Hl7.out; have := Hul.out.2.2; rw [List.length_append]; omega)
      have HP2 := Lib.hid (show ((o ++ x.c.st) ++ Lib.uvarint n1) ++ (x.c.evs.drop 0).flatMap encE = encC x.c by
        rw [List.drop_zero, Hfin.out, HP1e.out, ← Hn1.out]
        unfold encC
        simp only [List.append_assoc])
      clear hO8 hg8 hb7 HO7 Hl7 hs7 p7
      go_wp2_with fail
      go_loopw [3, 5] (fun v i wr => ∃ (j : Nat) (o : List UInt8), j ≤ n1 ∧ i = .int .i64 j ∧ Owns wr B 5 v o ∧ Hid (o ++ (x.c.evs.drop j).flatMap encE = encC x.c) ∧ Hid (o.length ≤ 7000000 + 1000010 * j) ∧ Below B W1 wr) (fun _ i _ => n1 - (Go.RowKit.intOf i).toNat)
      case atStart => exact ⟨0, _, Nat.zero_le _, rfl, HO8.out, HP2, Lib.hid (by have := Hl8.out; omega), hb8⟩
      case round =>
        clear HO8 hb8 Hl8 HP2
        obtain ⟨j, o2, hj, rfl, hO, Ho2, Hl2, hbr⟩ := hrel
        have HO := Lib.hid hO
        have hsr := hbr.size
        have q4 := (Hat.out wr (Hcm.out wr hbr)).evs
        clear hO
        by_cases hlt : j < n1
        · have hd1 : decide ((j : Int) < (n1 : Int)) = true := by simp; omega
          obtain ⟨bb, off, hAe, hblk, hrow⟩ := Hx.out.evs (by rw [Hn1.out]; omega)
          obtain ⟨A9, c9, hc9, hle9, hcm9, hbs9⟩ := hrow j (by rw [Hn1.out]; exact hlt)
          obtain ⟨ev, hev⟩ : ∃ z, x.c.evs.getD j [] = z := ⟨_, rfl⟩
          rw [hev] at hc9 hle9 hbs9
          obtain ⟨m, hm⟩ : ∃ z, ev.length = z := ⟨_, rfl⟩
          rw [hm] at hc9 hle9
          have hcell : wr.cell? ⟨bb, off + j, none⟩ = some (.slice A9 m c9) := (Hkp.out wr hbr bb _ hblk).trans hc9
          have hbsB : Bs wr B A9 ev := fun hp => by
            obtain ⟨b2, o2', e2, hb2, hc2⟩ := hbs9 hp
            exact ⟨b2, o2', e2, by omega, fun i hi => (Hkp.out wr hbr b2 _ hb2).trans (hc2 i hi)⟩
          have hm6 : m ≤ 1000000 := by
            rw [← hm]
            refine Hel.out ev ?_
            rw [← hev]
            have : j < x.c.evs.length := by rw [Hn1.out]; exact hlt
            simp [List.getD, this]
          have Hcall := Lib.hid (rbytes_any B _ o2 ev A9 c9 wr HO.out (by omega) hbsB (by have := Hl2.out; omega))
          rw [hm] at Hcall
          have Hev := Lib.hid hev
          have Hm := Lib.hid hm
          have hcm9' : c9 ≤ 9223372036854775807 := by unfold maxLen at hcm9; omega
          rw [hAe] at q4
          clear hrow hc9 hbs9 hev hm hAe hcm9 hbsB
          go_wp2_with fail
          refine Calls.mono Hcall.out ?_
          rintro e wa ⟨va, rfl, hOa, hga⟩
          have hbra := hbr.trans (hga.below (by omega) (fun k hk => (HO.out.lt k hk).1))
          have Hoa := Lib.hid (show (o2 ++ (Lib.uvarint m ++ ev)) ++ (x.c.evs.drop (j + 1)).flatMap encE = encC x.c by
            have h1 := Ho2.out
            rw [drop_getD [] (by rw [Hn1.out]; exact hlt), List.flatMap_cons, Hev.out] at h1
            unfold encE at h1 ⊢
            rw [Hm.out] at h1
            rw [List.append_assoc]; exact h1)
          have Hla := Lib.hid (show (o2 ++ (Lib.uvarint m ++ ev)).length ≤ 7000000 + 1000010 * (j + 1) by have := Hl2.out; have := Lib.uvarint_length64 (x := m) (by omega); have := Hm.out; simp only [List.length_append]; omega)
          clear hga hbr HO Ho2 Hl2 Hcall
          go_wp2_with fail
          go_roundw
          case rel => exact ⟨j + 1, _, by omega, by go_num, hOa, Hoa, Hla, hbra⟩
          case measure => simp [Go.RowKit.intOf]; omega
        · obtain rfl : j = n1 := by omega
          have hd1 : decide ((j : Int) < (j : Int)) = false := by simp
          have Hfin2 := Lib.hid (show o2 = encC x.c by have h1 := Ho2.out; rw [List.drop_of_length_le (by rw [Hn1.out]; exact Nat.le_refl _)] at h1; simpa using h1)
          go_wp2_with fail
          go_ret
          exact ⟨_, rfl, by rw [← Hfin2.out]; exact HO.out.base (Nat.le_of_lt hgB), Hb0.out.trans (hbr.mono (Nat.le_of_lt hgB))⟩

end Go.Proofs.Ytkepfigoeaheaaa

namespace Go.Proofs.Ytkepfigoeaheaaa
open Go.RowKit
set_option linter.unusedVariables false
set_option linter.unusedSimpArgs false

theorem ev_le {l : List (List UInt8)} {e : List UInt8} (h : e ∈ l) : e.length ≤ (l.flatMap encE).length := by
  induction l with
  | nil => cases h
  | cons a t ih =>
    rcases List.mem_cons.1 h with rfl | h
    · simp [encE]; omega
    · have := ih h; rw [List.flatMap_cons, List.length_append]; omega

theorem okC_of {w : World} {B : Nat} {x : Cx} (hx : CxOk w B x) (hm : MayC x.c) (hl : (encC x.c).length ≤ 65536) (hg : greatC x.c = false) : OkC x.c := by
  obtain ⟨g1, g2, _⟩ := greatC_no hg
  obtain ⟨_, m1, m2, m3, m4, _⟩ := hm
  refine ⟨hx.ep, ⟨m1, hx.r1.d⟩, ⟨m2, hx.r2.d⟩, ⟨m3, hx.r3.d⟩, ⟨by omega, fun b hb => ⟨m4 b hb, (hx.bw b hb).d⟩⟩, hx.st, ⟨by omega, fun e he => ?_⟩⟩
  have h1 := ev_le he
  have h2 : (x.c.evs.flatMap encE).length ≤ (encC x.c).length := by simp [encC]; omega
  omega

theorem wpList_eql_ifC {P : Program} {ops : Array Oper} {rest : List Oper} {o : Oper} {a : Act} {w : World} {Q : Exit → Act → World → Prop} (hw : Region.wanted o (yielded ops a.tmps) = true) (ty ty2 : TypeId) (x y : Operand) (ho : o.op = .binOp .eql ty x y ty2)
    (X Y : List Value) (hx : a.eval x = .agg X.toArray) (hy : a.eval y = .agg Y.toArray) (b : Bool) (he : ∀ w, (Op.equalIn 10000 ty (.agg X.toArray) (.agg Y.toArray)).run P w = .ok b w) (hm : P.eqGuardType P.depth ty = false)
    (h : wpList P ops Q rest (a.put o.dst (.bool b)) w) : wpList P ops Q (o :: rest) a w :=
  wpList_step fun K hK => by
    rw [if_pos hw]
    unfold Oper.wp execOp
    simp only [ho, hx, hy, Sem.run_bind, Sem.run_pure, Result.andThen_ok, run_eqGuard_agg, run_eql_struct, he, hm]
    exact hK _ _ h

theorem right_cx (x : Cx) (VL : List Value) (hVL : VL = comC x) (w : World) (h : CxOk w w.heap.size x) (r : Bool) (hr : r = true ↔ MayC x.c) :
    Calls Try.prog 11 #[.agg VL.toArray] w fun e w' => e = .returned (.bool r) ∧ Below w.heap.size w w' :=
  right_any x.c x.Ab x.cb VL _ _ _ _ _ _ rfl h.lb h.mb hVL rfl rfl rfl h.r1 h.r2 h.r3 (by rw [Lib.byteCells_length, h.st]) h.ep w h.bins h.bw r hr
theorem good_back {c : Com} (h : OkC c) (hm : MayC c) (hl : (encC c).length ≤ 65536) : Good (encC c) ∧ IsDec (encC c) c := by
  obtain ⟨h1, h2⟩ := dec_back h []
  rw [List.append_nil] at h1 h2
  exact ⟨⟨hl, h2, c, h1, hm.1, hm.2.2.2.2.2⟩, h1⟩


set_option maxHeartbeats 16000000 in
set_option maxRecDepth 100000 in
theorem ccodes_walk (x : Cx) (w : World) (hx : CxOk w w.heap.size x) :
    Calls Try.prog 3 #[.agg (comC x).toArray] w fun e w' => e = .returned (.bool true) ∧ Below w.heap.size w w' := by
  obtain ⟨XL, hXL⟩ : ∃ z, z = comC x := ⟨_, rfl⟩
  rw [← hXL]
  obtain ⟨W1, hW1⟩ : ∃ z, z = w.alloc (.cells XL.toArray 30) := ⟨_, rfl⟩
  have hb01 : Below w.heap.size w W1 := by rw [hW1]; exact (Below.refl _ w).alloc (Nat.le_refl _) _
  have hRx : Arr W1 w.heap.size 30 XL := by rw [hW1]; exact Arr.new w _ _
  have HIx := Lib.hid (show (Try.prog.info? 30).map (·.size) = some XL.length by rw [hXL, comC_length hx]; exact comSize)
  obtain ⟨gx, hgx⟩ : ∃ z, w.heap.size = z := ⟨_, rfl⟩
  have HW1 := Lib.hid hW1
  have HXL := Lib.hid hXL
  rw [hgx] at hRx
  have Hgx := Lib.hid hgx
  have Hx := Lib.hid hx
  have Hb0 := Lib.hid hb01
  clear hXL hW1 hb01 hx hgx
  go_enter Try.func3, Try.ntmps3
  go_wp2_with fail
  rw [← HW1.out, Hgx.out]
  refine Calls.mono (speaks13_any W1) ?_
  rintro e w3 ⟨rfl, hb3⟩
  have hRx3 := hRx.up hb3
  have Hb3 := Lib.hid (show Below w.heap.size w w3 from Hb0.out.trans (hb3.mono Hb0.out.size))
  clear hRx hb3
  obtain ⟨r1, hr1⟩ : ∃ r, greatC x.c = r := ⟨_, rfl⟩
  have Hr1 := Lib.hid hr1
  clear hr1
  go_wp2_with ((with_reducible refine wpList_at 10 (by rfl) ?_); refine wpList_load_mid_ifC (by rfl) _ _ rfl gx 0 rfl XL _ (Arr.range hRx3) Try.underlying30 rfl HIx.out ?_)
  refine Calls.mono (great_anyC x XL HXL.out w3 ((Hx.out.below Hb3.out (Nat.le_refl _)).more Hb3.out.size) r1 Hr1.out) ?_
  rintro e w4 ⟨rfl, hb4⟩
  have hRx4 := hRx3.up hb4
  have Hb4 := Lib.hid (show Below w.heap.size w w4 from Hb3.out.trans (hb4.mono Hb3.out.size))
  clear hRx3 hb4
  cases r1 with
  | true =>
    go_wp2_with fail
    go_ret
    exact ⟨rfl, Hb4.out⟩
  | false =>
  have Hgr := Lib.hid (greatC_no Hr1.out)
  go_wp2_with ((with_reducible refine wpList_at 13 (by rfl) ?_); refine wpList_load_mid_ifC (by rfl) _ _ rfl gx 0 rfl XL _ (Arr.range hRx4) Try.underlying30 rfl HIx.out ?_)
  refine Calls.mono (enc_any x XL HXL.out w4 ((Hx.out.below Hb4.out (Nat.le_refl _)).more Hb4.out.size) (by have := Hgr.out.1; omega) (by have := Hgr.out.2.1; omega) (fun e he => by have := Hgr.out.2.2 e he; omega)) ?_
  rintro e w5 ⟨v1, k1, rfl, hb5, hp1⟩
  have hRx5 := hRx4.up hb5
  have Hb5 := Lib.hid (show Below w.heap.size w w5 from Hb4.out.trans (hb5.mono Hb4.out.size))
  have Hp1 := Lib.hid hp1
  clear hRx4 hb5 hp1
  obtain ⟨r, hr⟩ : ∃ r : Bool, r = true ↔ MayC x.c := by classical exact ⟨decide _, decide_eq_true_iff⟩
  have Hr := Lib.hid hr
  clear hr
  go_wp2_with ((with_reducible refine wpList_at 17 (by rfl) ?_); refine wpList_load_mid_ifC (by rfl) _ _ rfl gx 0 rfl XL _ (Arr.range hRx5) Try.underlying30 rfl HIx.out ?_)
  refine Calls.mono (right_cx x XL HXL.out w5 ((Hx.out.below Hb5.out (Nat.le_refl _)).more Hb5.out.size) r Hr.out) ?_
  rintro e w6 ⟨rfl, hb6⟩
  have hRx6 := hRx5.up hb6
  have Hb6 := Lib.hid (show Below w.heap.size w w6 from Hb5.out.trans (hb6.mono Hb5.out.size))
  have Hb56 := Lib.hid hb6
  clear hRx5 hb6
  cases r with
  | false =>
    have hno : ¬ MayC x.c := fun h => by have := Hr.out.2 h; cases this
    obtain ⟨rfl, rfl⟩ : k1 = 1 ∧ v1 = .slice none 0 0 := by
      rcases Hp1.out with ⟨_, h, h2⟩ | ⟨h, _⟩ | ⟨h, _⟩
      · exact ⟨h, h2⟩
      · exact absurd h hno
      · exact absurd h hno
    have q1 : ((1 : Int) == 1) = true := by simp
    clear hno Hp1
    go_wp2_with fail
    go_ret
    exact ⟨rfl, Hb6.out⟩
  | true =>
  have Hmay := Lib.hid (Hr.out.1 rfl)
  go_wp2_with ((with_reducible refine wpList_at 27 (by rfl) ?_); refine wpList_load_mid_ifC (by rfl) _ _ rfl gx 0 rfl XL _ (Arr.range hRx6) Try.underlying30 rfl HIx.out ?_)
  refine Calls.mono (rencC_any x XL HXL.out w6 ((Hx.out.below Hb6.out (Nat.le_refl _)).more Hb6.out.size) (by have := Hgr.out.1; omega) (by have := Hgr.out.2.1; omega) (fun e he => by have := Hgr.out.2.2 e he; omega)) ?_
  rintro e w7 ⟨v5, rfl, hO7, hb7⟩
  have hRx7 := hRx6.up hb7
  have Hb7 := Lib.hid (show Below w.heap.size w w7 from Hb6.out.trans (hb7.mono Hb6.out.size))
  have hb57 := Hb56.out.trans (hb7.mono Hb56.out.size)
  obtain ⟨A5, c5, rfl, hc5, hcm5, hbs5⟩ := Owns.slice hO7
  obtain ⟨E, hE⟩ : ∃ E, encC x.c = E := ⟨_, rfl⟩
  have HE := Lib.hid hE
  rw [hE] at hbs5 hc5 hO7 ⊢
  have HO7 := Lib.hid hO7
  obtain ⟨n1, hn1⟩ : ∃ z, E.length = z := ⟨_, rfl⟩
  rw [hn1] at hc5 ⊢
  have Hn1 := Lib.hid hn1
  have Hbs5 := Lib.hid hbs5
  have Hc5 := Lib.hid (show n1 ≤ c5 ∧ c5 ≤ maxLen from ⟨hc5, hcm5⟩)
  have Hb57 := Lib.hid hb57
  have Hs7 := Lib.hid hb7.size
  clear hRx6 hb7 hbs5 hc5 hcm5 hb57 hn1 hE hO7
  by_cases hbig : 65536 < n1
  · have hd1 : decide ((65536 : Int) < (n1 : Int)) = true := by simp; omega
    have hd1n : decide (65536 < n1) = true := decide_eq_true hbig
    obtain ⟨rfl, rfl⟩ : k1 = 4 ∧ v1 = .slice none 0 0 := by
      have e0 : (encC x.c).length = n1 := by rw [HE.out, Hn1.out]
      rcases Hp1.out with ⟨h, _⟩ | ⟨_, _, h, h2⟩ | ⟨_, h, _⟩
      · exact absurd Hmay.out h
      · exact ⟨h, h2⟩
      · omega
    have q1 : ((4 : Int) == 4) = true := by simp
    clear Hp1
    go_wp2_with fail
    go_ret
    exact ⟨rfl, Hb7.out⟩
  have hd1 : decide ((65536 : Int) < (n1 : Int)) = false := by simp; omega
  have hd1n : decide (65536 < n1) = false := decide_eq_false hbig
  obtain ⟨rfl, hown1⟩ : k1 = 0 ∧ Owns w5 w4.heap.size 5 v1 E := by
    have e0 : (encC x.c).length = n1 := by rw [HE.out, Hn1.out]
    rcases Hp1.out with ⟨h, _⟩ | ⟨_, h, _⟩ | ⟨_, _, h, h2⟩
    · exact absurd Hmay.out h
    · omega
    · exact ⟨h, by rw [← HE.out]; exact h2⟩
  obtain ⟨A1, c1, rfl, hc1, hcm1, hbs1⟩ := Owns.slice hown1
  rw [Hn1.out] at hc1 ⊢
  have Hlen := Lib.hid (show n1 ≤ 65536 by omega)
  have Hc1 := Lib.hid (show n1 ≤ c1 ∧ c1 ≤ maxLen from ⟨hc1, hcm1⟩)
  have Hgood := Lib.hid (show Good E ∧ IsDec E x.c by
    have e0 : (encC x.c).length = n1 := by rw [HE.out, Hn1.out]
    have := good_back (okC_of Hx.out Hmay.out (by omega) Hr1.out) Hmay.out (by omega)
    rwa [HE.out] at this)
  have Hbs1 := Lib.hid ((hbs1.below Hb57.out (Nat.le_refl _)).more Hb57.out.size)
  clear hown1 hc1 hcm1 hbs1 hbig Hp1
  go_wp2_with fail
  refine Calls.mono (dec_any A1 n1 c1 E Hn1.out Hc1.out.1 Hc1.out.2 w7 Hbs1.out) ?_
  rintro e w8 ⟨hb8, hres⟩
  obtain ⟨yx, rfl, hyok, hdec⟩ : ∃ yx, e = .returned (.tuple #[.agg (comC yx).toArray, .int .i64 0]) ∧ CxOk w8 w8.heap.size yx ∧ yx.c = x.c := by
    rcases hres with ⟨yx, he, hyok, hdec, _⟩ | ⟨_, h⟩
    · exact ⟨yx, he, hyok, dec_one hdec Hgood.out.2⟩
    · exact absurd Hgood.out.1 h
  have hRx8 := hRx7.up hb8
  have Hb8 := Lib.hid (show Below w.heap.size w w8 from Hb7.out.trans (hb8.mono Hb7.out.size))
  have Hs8 := Lib.hid hb8.size
  have Hbs18 := Lib.hid (Hbs1.out.below hb8 (Nat.le_refl _))
  have Hbs58 := Lib.hid (Hbs5.out.below hb8 (Nat.le_refl _))
  obtain ⟨ZL, hZL⟩ : ∃ z, z = comZ := ⟨_, rfl⟩
  have HZ0 := Lib.hid (fun w : World => show (zeroValue 30).run Try.prog w = .ok (.agg ZL.toArray) w by rw [hZL]; exact comZero w)
  have HZL := Lib.hid hZL
  obtain ⟨RL, hRL⟩ : ∃ z, z = comC yx := ⟨_, rfl⟩
  rw [← hRL]
  have hRl : RL.length = 137 := by rw [hRL]; exact comC_length hyok
  have HRi := Lib.hid (show (Try.prog.info? 30).map (·.size) = some RL.toArray.size ∧ ZL.toArray.size = RL.toArray.size by rw [List.size_toArray, hRl, HZL.out]; exact ⟨comSize, rfl⟩)
  have HR1 := Lib.hid (show RL.toArray.all (·.oneCell') = true by rw [hRL]; exact all_oneC (comC_one _))
  have HIr := Lib.hid (show (Try.prog.info? 30).map (·.size) = some RL.length by rw [hRl]; exact comSize)
  have HRL := Lib.hid hRL
  have Hyok := Lib.hid hyok
  have Hyes := Lib.hid hdec
  obtain ⟨gr, hgr⟩ : ∃ q, q = w8.heap.size := ⟨_, rfl⟩
  have Hgr2 := Lib.hid hgr
  clear hZL hRL hRl hyok hdec hres hgr hb8 hRx7
  go_upto_region 12 with (first | (refine wpList_allocZC rfl 30 rfl ZL.toArray (HZ0.out _) ?_) | (change wpList _ _ _ _ _ (w8.alloc (.cells ZL.toArray 30)); refine wpList_store_row rfl _ _ _ rfl w8.heap.size RL.toArray rfl rfl 30 ZL.toArray (heap_alloc_new w8 _) HRi.out.1 HRi.out.2 HR1.out ?_; obtain ⟨w9, hw9⟩ : ∃ x, x = (w8.alloc (.cells ZL.toArray 30)).setRow w8.heap.size RL.toArray := ⟨_, rfl⟩; rw [← hw9]; obtain ⟨hP9, hb9⟩ := alloc_row w8 30 ZL.toArray RL; rw [← hw9] at hP9 hb9; clear hw9))
  rw [← Hgr2.out] at hP9 ⊢
  have hRx9 := hRx8.up hb9
  have Hb9 := Lib.hid (show Below w.heap.size w w9 from Hb8.out.trans (hb9.mono Hb8.out.size))
  have Hbs19 := Lib.hid (Hbs18.out.below hb9 Hs8.out)
  have Hbs59 := Lib.hid (Hbs58.out.below hb9 Hs8.out)
  have Hy9 := Lib.hid (Hyok.out.below hb9 (Nat.le_refl _))
  have Hs9 := Lib.hid hb9.size
  have q3 : ((0 : Int) == 0) = true := by simp
  clear hb9 hRx8 HZ0 HRi HR1
  have hsame := same_any w7.heap.size w7.heap.size A1 A5 c1 c5 E E w9 Hbs19.out Hbs59.out (by rw [Hn1.out]; have := Hlen.out; unfold maxLen; omega) (by rw [Hn1.out]; have := Hlen.out; unfold maxLen; omega)
  rw [Hn1.out, decide_eq_true (rfl : E = E)] at hsame
  have Hsame := Lib.hid hsame
  clear hsame
  go_wp2_with fail
  refine Calls.mono Hsame.out ?_
  rintro e wz ⟨rfl, nd, hwz⟩
  clear Hsame
  have hP10 : Arr wz gr 30 RL := by rw [hwz]; exact hP9.drewN nd
  have hRx10 : Arr wz gx 30 XL := by rw [hwz]; exact hRx9.drewN nd
  have Hb10 := Lib.hid (show Below w.heap.size w wz by rw [hwz]; exact Below.dN Hb9.out nd)
  have Hbs110 := Lib.hid (show Bs wz w7.heap.size A1 E by rw [hwz]; exact Hbs19.out.drewN nd)
  have Hy10 := Lib.hid (show CxOk wz w8.heap.size yx by rw [hwz]; exact Hy9.out.below (Below.dN (Below.refl _ _) nd) (Nat.le_refl _))
  have Hs10 := Lib.hid (show w8.heap.size ≤ wz.heap.size by rw [hwz]; exact Hs9.out)
  clear hP9 hRx9 Hb9 Hbs19 Hbs59 Hy9 hwz Hs9
  go_wp2_with (first | ((with_reducible refine wpList_at 56 (by rfl) ?_); refine wpList_load_mid_ifC (by rfl) _ _ rfl gr 0 rfl RL _ (Arr.range hP10) Try.underlying30 rfl HIr.out ?_) | ((with_reducible refine wpList_at 57 (by rfl) ?_); refine wpList_load_mid_ifC (by rfl) _ _ rfl gx 0 rfl XL _ (Arr.range hRx10) Try.underlying30 rfl HIx.out ?_))
  refine Calls.mono (same_anyC yx x RL XL HRL.out HXL.out wz (Hy10.out.more Hs10.out) ((Hx.out.below Hb10.out (Nat.le_refl _)).more Hb10.out.size) true ⟨fun _ => Hyes.out, fun _ => rfl⟩) ?_
  rintro e w11 ⟨rfl, hb11⟩
  have Hb11 := Lib.hid (show Below w.heap.size w w11 from Hb10.out.trans (hb11.mono Hb10.out.size))
  have HsT := Lib.hid (show w7.heap.size ≤ wz.heap.size from Nat.le_trans Hs8.out Hs10.out)
  have Hbs111 := Lib.hid (Hbs110.out.below hb11 HsT.out)
  have HsT2 := Lib.hid (Nat.le_trans HsT.out hb11.size)
  clear hb11 hP10 hRx10 Hy10 Hbs110 HsT
  obtain ⟨D1, hD1⟩ : ∃ z, z = Lib.byteCells (blobDig E) := ⟨_, rfl⟩
  obtain ⟨F1, hF1⟩ : ∃ z, z = refC (blobDig E) (0 : Nat) n1 := ⟨_, rfl⟩
  have hfd1 : ∀ w, (Instr.field 26 (.agg F1.toArray) 0).run Try.prog w = .ok (.agg D1.toArray) w := fun w => ref_field0 (blobDig_length _) _ _ F1 D1 hF1 hD1 w
  have HD1 := Lib.hid hD1
  have HF1 := Lib.hid hF1
  have Hdq := Lib.hid (fun w : World => show (Op.equalIn 10000 24 (.agg D1.toArray) (.agg D1.toArray)).run Try.prog w = .ok true w by
    have := dig_eqvC (blobDig_length E) (blobDig_length E) hD1 hD1 w
    rwa [decide_eq_true rfl] at this)
  have hlim : n1 ≤ 900000 := by have := Hlen.out; omega
  have Hcd := Lib.hid (cdig_any E D1 A1 n1 c1 w11 HD1.out Hn1.out hlim Hc1.out.1 Hc1.out.2 (Hbs111.out.more HsT2.out))
  clear hD1 hF1
  go_wp2_with fail
  refine Calls.mono Hcd.out ?_
  rintro e wa ⟨rfl, hba⟩
  have Hba := Lib.hid (show Below w.heap.size w wa from Hb11.out.trans (hba.mono Hb11.out.size))
  have Hbs1a := Lib.hid (Hbs111.out.below hba HsT2.out)
  have HsA := Lib.hid (Nat.le_trans HsT2.out hba.size)
  clear hba Hcd Hbs111
  have Hof := Lib.hid (rof_any 0 E F1 A1 n1 c1 wa Hn1.out hlim Hc1.out.1 Hc1.out.2 (Hbs1a.out.more HsA.out) (by omega) (by omega) HF1.out)
  go_wp2_with fail
  refine Calls.mono Hof.out ?_
  rintro e wb ⟨rfl, hbb⟩
  have Hbb := Lib.hid (show Below w.heap.size w wb from Hba.out.trans (hbb.mono Hba.out.size))
  clear hbb Hof
  go_wp2_with (first | ((with_reducible refine wpList_at 66 (by rfl) ?_); refine wpList_eql_ifC (by rfl) 24 _ _ _ rfl D1 D1 rfl rfl true Hdq.out gtD ?_))
  go_ret
  exact ⟨rfl, Hbb.out⟩

end Go.Proofs.Ytkepfigoeaheaaa

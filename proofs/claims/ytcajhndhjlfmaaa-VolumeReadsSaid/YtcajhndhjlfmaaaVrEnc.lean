/-
  Volumes as bytes: the code's Encode.
-/
import Derived.Test.YtcajhndhjlfmaaaVrMath
import Derived.Test.YtcajhndhjlfmaaaVrRFl
import Derived.Test.YtcajhndhjlfmaaaVolAll
import Derived.Test.YtcajhndhjlfmaaaModBytes
import Derived.Test.YtcajhndhjlfmaaaGen
namespace Go.Proofs.Ytcajhndhjlfmaaa
open Go.RowKit
set_option linter.unusedVariables false
set_option linter.unusedSimpArgs false

set_option maxRecDepth 100000
theorem wpList_atE {P : Program} {ops : Array Oper} {rest : List Oper} {o : Oper} {a : Act} {w : World} {Q : Exit → Act → World → Prop} (n : Nat) (hd : o.dst = some n) (h : wpList P ops Q (o :: rest) a w) : wpList P ops Q (o :: rest) a w := h
theorem owns_down {w : World} {B B' : Nat} {T : TypeId} {v : Value} {l : List UInt8} (h : Owns w B T v l) (hB : B' ≤ B) : Owns w B' T v l := by
  refine ⟨h.1, ?_⟩
  rcases h.2 with h0 | ⟨g, cap, cur, e, e1, e2, e3⟩
  · exact .inl h0
  · exact .inr ⟨g, cap, cur, e, Nat.le_trans hB e1, e2, e3⟩

theorem vlZeroE (w : World) : (zeroValue 83).run Try.prog w = .ok (.agg #[.string ⟨#[]⟩, .int .i64 0, .bool false, .slice none 0 0]) w := by kernel_rfl
theorem clZeroE (w : World) : (zeroValue 85).run Try.prog w = .ok (.agg clZ.toArray) w := by kernel_rfl
theorem wpList_allocZE {P : Program} {ops : Array Oper} {rest : List Oper} {o : Oper} {a : Act} {w : World} {Q : Exit → Act → World → Prop} (hg : o.guard = none) (t : TypeId) (ho : o.op = .alloc t) (Z : Array Value) (hz : (zeroValue t).run P w = .ok (.agg Z) w)
    (h : wpList P ops Q rest (a.put o.dst (.pointer (some ⟨w.heap.size, 0, none⟩))) (w.alloc (.cells Z t))) : wpList P ops Q (o :: rest) a w := by
  refine wpList_plain hg fun K hK => ?_
  unfold Oper.wp execOp
  simp only [ho, Instr.alloc, Sem.run_bind, hz, Result.andThen_ok]
  exact hK _ _ h
set_option maxHeartbeats 1000000 in
theorem mark_any (x : Vx) (hq : x.v.quota ≤ 1048576) (VL : List Value) (hVL : VL = volC x) (w : World) : Calls Try.prog 45 #[.agg VL.toArray] w fun e w' => e = .returned (.int .u64 ((markV x.v : Nat) : Int)) ∧ Below w.heap.size w w' := by
  obtain ⟨q, hqq⟩ : ∃ z, x.v.quota = z := ⟨_, rfl⟩
  obtain ⟨fr, hfr⟩ : ∃ z, x.v.frozen = z := ⟨_, rfl⟩
  obtain ⟨W1, hW1⟩ : ∃ z, z = w.alloc (.cells VL.toArray 83) := ⟨_, rfl⟩
  have hb1 : Below w.heap.size w W1 := by rw [hW1]; exact (Below.refl _ _).alloc (Nat.le_refl _) _
  have hA1 : Arr W1 w.heap.size 83 VL := by rw [hW1]; exact Arr.new w _ _
  have c1 : W1.cell? ⟨w.heap.size, 1, none⟩ = some (.int .i64 (q : Nat)) := by rw [hA1.cell, hVL, ← hqq]; rfl
  have c2 : W1.cell? ⟨w.heap.size, 2, none⟩ = some (.bool fr) := by rw [hA1.cell, hVL, ← hfr]; rfl
  have Hm := Lib.hid (show markV x.v = 2 * q + (if fr = true then 1 else 0) by unfold markV; rw [hqq, hfr])
  rw [hqq] at hq
  have HW1 := Lib.hid hW1
  have Hb1 := Lib.hid hb1
  clear hqq hfr hW1 hb1 hA1 hVL
  go_enter Try.func45, Try.ntmps45
  go_upto_region 1 with fail
  rw [← HW1.out]
  clear HW1
  cases fr with
  | true =>
    go_wp2_with fail
    go_ret
    exact ⟨by rw [Hm.out]; simp, Hb1.out⟩
  | false =>
    go_wp2_with fail
    go_ret
    exact ⟨by rw [Hm.out]; simp, Hb1.out⟩

theorem grew_ne {w w' : World} {v v' : Value} {g : Nat} (h : Grew w w' v v') (hne : v.ownBlock ≠ some g) (hl : g < w.heap.size) : v'.ownBlock ≠ some g := fun e => by
  rcases h.2 with e1 | ⟨k, e1, hk⟩
  · rw [e1] at e; exact hne e
  · rw [e1] at e; injection e with e; omega
theorem arr_grew {w w' : World} {v v' : Value} {g : Nat} {T : TypeId} {cs : List Value} (h : Arr w g T cs) (hg : Grew w w' v v') (hne : v.ownBlock ≠ some g) : Arr w' g T cs := (hg.1.block g h.lt (fun e => hne e.symm)).trans h
theorem byteCells_getE {d : List UInt8} {j : Nat} (hj : j < d.length) : (Lib.byteCells d)[j]? = some (.int .u8 (d[j].toNat : Nat)) := by
  unfold Lib.byteCells
  rw [List.getElem?_map, List.getElem?_eq_getElem hj]
  rfl

set_option maxHeartbeats 8000000 in
theorem encode_any (s : Nat) (w : World) (F : Nat → Prop) (L : List Vol) (h : SetL w F s L) (hL : L.length ≤ 100000) (hokc : ∀ v ∈ L, VolOk v) (E : List UInt8) (hE : encV L = E) (hEl : E.length ≤ 100000) :
    Calls Try.prog 11 #[.pointer (some ⟨s, 0, none⟩)] w fun e w' => ∃ v, e = .returned v ∧ Owns w' w.heap.size 5 v E ∧ Below w.heap.size w w' := by
  obtain ⟨i0, hi, hz0, hz1, hz2⟩ := info_parts byteInfo
  obtain ⟨VZ, hVZ⟩ : ∃ CZ, CZ = [Value.string ⟨#[]⟩, .int .i64 0, .bool false, .slice none 0 0] := ⟨_, rfl⟩
  have HVZ := Lib.hid (fun w : World => show (zeroValue 83).run Try.prog w = .ok (.agg VZ.toArray) w by rw [hVZ]; exact vlZeroE w)
  have HVZl := Lib.hid (show VZ.length = 4 by rw [hVZ]; rfl)
  obtain ⟨KZ, hKZ⟩ : ∃ CZ, CZ = clZ := ⟨_, rfl⟩
  have HKZ := Lib.hid (fun w : World => show (zeroValue 85).run Try.prog w = .ok (.agg KZ.toArray) w by rw [hKZ]; exact clZeroE w)
  have HKl := Lib.hid (show KZ.length = 33 by rw [hKZ]; rfl)
  have Hall := Lib.hid (all_any s w F L h hL)
  have HE := Lib.hid hE
  have Hokc := Lib.hid hokc
  clear hVZ hKZ h hE hokc
  go_enter Try.func11, Try.ntmps11
  go_wp2_with fail
  refine Calls.mono Hall.out ?_
  rintro e w1 ⟨Aa, ca, xs, rfl, hx1, hx2, hVa, hxm, hb1⟩
  obtain ⟨nx, hnx⟩ : ∃ z, xs.length = z := ⟨_, rfl⟩
  have hnL : L.length = nx := by rw [← hxm, List.length_map, hnx]
  rw [hnx] at hx1 ⊢
  rw [hnL] at hL
  obtain ⟨B, hB⟩ : ∃ z, z = w1.heap.size := ⟨_, rfl⟩
  have Hn0 := Lib.hid (number_any B nx (by omega) (.slice none 0 0) [] w1 (Owns.nil _ _ _) (by omega) (by simp))
  have hca : ca ≤ 9223372036854775807 := by unfold maxLen at hx2; omega
  have HVa := Lib.hid hVa
  have Hxm := Lib.hid hxm
  have Hnx := Lib.hid hnx
  have HnL := Lib.hid hnL
  have HB := Lib.hid hB
  have Hb1 := Lib.hid hb1
  clear hVa hxm hnx hnL hB hb1 Hall hx2
  go_wp2_with fail
  refine Calls.mono Hn0.out ?_
  rintro e w2 ⟨v2, rfl, hO2, hg2⟩
  have hb2 : Below B w1 w2 := hg2.below (by have := HB.out; omega) fun k hk => by cases hk
  have HO2 := Lib.hid hO2
  clear hg2 hO2 Hn0
  go_wp2_with fail
  go_loopw [4, 17] (fun v i wr => ∃ (k : Nat) (pre : List UInt8), k ≤ nx ∧ i = .int .i64 (k : Nat) ∧ Owns wr B 5 v pre ∧ Hid (pre ++ (L.drop k).flatMap encVl = E) ∧ Below B w1 wr) (fun _ i _ => nx - (Go.RowKit.intOf i).toNat)
  case atStart => exact ⟨0, _, Nat.zero_le _, rfl, HO2.out, Lib.hid (by rw [← HE.out]; unfold encV; rw [HnL.out, List.drop_zero]; rfl), hb2⟩
  case round =>
    clear hb2
    obtain ⟨k, pre, hk, rfl, hO, Hpre, hbr⟩ := hrel
    have hBr : B ≤ wr.heap.size := Nat.le_trans (by have := HB.out; omega) hbr.size
    by_cases hlt : k < nx
    · have hd1 : decide ((k : Int) < (nx : Int)) = true := by simp; omega
      obtain ⟨x, hx⟩ : ∃ x, xs[k]? = some x := ⟨xs[k]'(by rw [Hnx.out]; exact hlt), List.getElem?_eq_getElem _⟩
      obtain ⟨ob, off, hAa, hG, hoblt, hrow⟩ := HVa.out.1 (by rw [Hnx.out]; omega)
      subst hAa
      have hxo := HVa.out.2 x (List.mem_of_getElem? hx)
      have hxL : L[k]? = some x.v := by rw [← Hxm.out, List.getElem?_map, hx]; rfl
      have hdrop : L.drop k = x.v :: L.drop (k + 1) := by
        obtain ⟨hl, he⟩ := List.getElem?_eq_some_iff.1 hxL
        rw [List.drop_eq_getElem_cons hl, he]
      obtain ⟨REST, hREST⟩ : ∃ z, z = (L.drop (k + 1)).flatMap encVl := ⟨_, rfl⟩
      have hpre := Hpre.out
      rw [hdrop, List.flatMap_cons, ← hREST] at hpre
      obtain ⟨VL, hVL⟩ : ∃ VL, VL = volC x := ⟨_, rfl⟩
      have hrg : wr.rangeAt ob (off + k * 4) VL := fun j v hj => by
        rw [hVL] at hj
        rw [← hrow k x hx j v hj]
        exact World.cell?_of_block (hbr.block ob (by have := HB.out; omega))
      have HVi := Lib.hid (show (Try.prog.info? 83).map (·.size) = some VL.length by rw [hVL]; exact vlSize)
      have HVj := Lib.hid (show (Try.prog.info? 83).map (·.size) = some VL.toArray.size ∧ VZ.toArray.size = VL.toArray.size by rw [hVL, List.size_toArray, List.size_toArray, HVZl.out]; exact ⟨vlSize, rfl⟩)
      have HV1 := Lib.hid (show VL.toArray.all (·.oneCell') = true by rw [hVL]; exact all_oneCell_toArray (volC_one x))
      obtain ⟨wa, hwa⟩ : ∃ W, W = (wr.alloc (.cells VZ.toArray 83)).setRow wr.heap.size VL.toArray := ⟨_, rfl⟩
      obtain ⟨hXa, hba⟩ := alloc_row wr 83 VZ.toArray VL
      rw [← hwa] at hXa hba
      obtain ⟨gv, hgv⟩ : ∃ z, z = wr.heap.size := ⟨_, rfl⟩
      rw [← hgv] at hXa
      have hOa : Owns wa B 5 u4 pre := hO.below hba fun k hk => (hO.lt k hk).2
      have hne : u4.ownBlock ≠ some gv := fun e => by have := (hO.lt gv e).2; omega
      have hbaw : Below B w1 wa := hbr.trans (hba.mono hBr)
      have Hwa := Lib.hid hwa
      have HVL := Lib.hid hVL
      have Hpr := Lib.hid hpre
      have HREST := Lib.hid hREST
      have Hxo := Lib.hid hxo
      have Hgv := Lib.hid hgv
      have Hxk := Lib.hid hxL
      clear hwa hVL hpre hREST hxo hrow hx hxL hdrop hgv hO hba hbr Hpre
      go_upto_region 6 with (first | ((with_reducible refine wpList_atE 20 (by rfl) ?_); refine wpList_load_mid rfl _ _ rfl ob (off + k * 4) rfl VL _ hrg Try.underlying83 rfl HVi.out ?_) | ((with_reducible refine wpList_atE 6 (by rfl) ?_); refine wpList_allocZE rfl 83 rfl VZ.toArray (HVZ.out _) ?_) | (refine wpList_store_row rfl _ _ _ rfl wr.heap.size VL.toArray rfl rfl 83 VZ.toArray (heap_alloc_new wr _) HVj.out.1 HVj.out.2 HV1.out ?_; rw [← Hwa.out]))
      rw [← Hgv.out]
      clear hrg
      obtain ⟨a, ha⟩ : ∃ z, z = x.v.name := ⟨_, rfl⟩
      obtain ⟨bs, hbs⟩ : ∃ z, z = a.data.toList := ⟨_, rfl⟩
      have hal : bs.length = a.size := by rw [hbs]; rfl
      have hvk : vkey x.v = bs := by rw [hbs, ha]; rfl
      obtain ⟨mk, hmk⟩ : ∃ z, markV x.v = z := ⟨_, rfl⟩
      have hmk2 : mk < 4000000 := by rw [← hmk]; unfold markV; have := Hxo.out.q; split <;> omega
      have Hpr2 := Lib.hid (show pre ++ (((Lib.uvarint bs.length ++ bs) ++ (Lib.uvarint mk ++ (Lib.uvarint x.v.cells.length ++ x.v.cells.flatMap encCl))) ++ REST) = E by
        rw [← Hpr.out]; unfold encVl encCs; rw [hvk, hmk])
      have Hln := Lib.hid (show pre.length + (bs.length + 1) ≤ 100000 by
        have h := congrArg List.length Hpr2.out
        simp only [List.length_append] at h
        have := Lib.uvarint_pos bs.length
        omega)
      obtain ⟨cp, hcp⟩ : ∃ z, z = grownCap wa a.size 0 5 := ⟨_, rfl⟩
      have hcge : a.size ≤ cp := by rw [hcp]; exact grownCap_ge wa a.size 0 5
      obtain ⟨wc, hwc⟩ : ∃ z, z = Lib.bytesWorld wa 5 a := ⟨_, rfl⟩
      have hcv : (convert 9 22 (.string a)).run Try.prog wa = .ok (.slice (some ⟨wa.heap.size, 0, none⟩) bs.length cp) wc := by
        rw [hal, hcp, hwc]
        exact Lib.run_convert_string_bytes wa _ _ 5 a Try.underlying9 Try.underlying22 Try.underlying5
      have hbc : Below wa.heap.size wa wc := by
        rw [hwc]
        exact ⟨rfl, rfl, rfl, by rw [Lib.bytesWorld_size]; omega, fun i hi => Lib.bytesWorld_at_old wa _ a i hi⟩
      have hbb : Bs wc wc.heap.size (some ⟨wa.heap.size, 0, none⟩) bs := fun hp => ⟨wa.heap.size, 0, rfl, by rw [hwc, Lib.bytesWorld_size]; omega, fun j hj => by
        rw [hwc, Nat.zero_add, hbs]
        exact Lib.bytesWorld_cell wa _ a j (by rw [← hal]; exact hj)⟩
      have hOc : Owns wc B 5 u4 pre := hOa.below hbc fun k hk => (hOa.lt k hk).2
      have hBa : B ≤ wa.heap.size := Nat.le_trans hBr (by have := hXa.lt; have := Hgv.out; omega)
      have Hn := Lib.hid (bytes_anyO B u4 pre bs (some ⟨wa.heap.size, 0, none⟩) cp wc hOc (Nat.le_trans hBa hbc.size) hbb (fun b off e e2 => by injection e with e; injection e with e; have := (hOa.lt b e2).2; omega) (by omega) (by have := Hln.out; omega))
      have HOc := Lib.hid hOc
      have hXc := hXa.up hbc
      have hbcw : Below B w1 wc := hbaw.trans (hbc.mono hBa)
      have c0 : wa.cell? ⟨gv, 0, none⟩ = some (.string a) := by rw [hXa.cell, HVL.out, ha]; rfl
      have Hhid := Lib.hid (show bs = a.data.toList ∧ markV x.v = mk from ⟨hbs, hmk⟩)
      clear hcp hwc hbc hbb hOc hOa hal hvk hbs ha hmk hXa hcge hbaw
      go_wp2_with fail
      refine Calls.mono Hn.out ?_
      rintro e w3 ⟨v3, rfl, hO3, hg3⟩
      have hX3 := arr_grew hXc hg3 hne
      have hne3 := grew_ne hg3 hne hXc.lt
      have hb3 : Below B w1 w3 := hbcw.trans (hg3.below (Nat.le_trans (by have := HB.out; omega) hbcw.size) fun k hk => (HOc.out.lt k hk).1)
      have hB3 : B ≤ w3.heap.size := Nat.le_trans (by have := HB.out; omega) hb3.size
      obtain ⟨p3, hp3⟩ : ∃ z, z = pre ++ (Lib.uvarint bs.length ++ bs) := ⟨_, rfl⟩
      rw [← hp3] at hO3
      obtain ⟨lc, hlc⟩ : ∃ z, x.v.cells.length = z := ⟨_, rfl⟩
      have Hpr3 := Lib.hid (show p3 ++ (Lib.uvarint mk ++ (Lib.uvarint lc ++ (x.v.cells.flatMap encCl ++ REST))) = E by
        rw [← Hpr2.out, hp3, hlc]; simp only [List.append_assoc])
      have hll : p3.length + 1 ≤ 100000 := by
        have h := congrArg List.length Hpr3.out
        simp only [List.length_append] at h
        have := Lib.uvarint_pos mk
        omega
      have hlcm : lc ≤ 1048576 := by rw [← hlc]; exact Hxo.out.len
      have Hlc := Lib.hid hlc
      have HO3 := Lib.hid hO3
      have Hmark := Lib.hid (mark_any x Hxo.out.q VL HVL.out w3)
      rw [Hhid.out.2] at Hmark
      clear hXc hg3 hne hbcw hp3 HOc Hn c0 hlc hO3 Hpr Hpr2 Hln
      go_wp2_with (first | ((with_reducible refine wpList_atE 27 (by rfl) ?_); refine wpList_load_row rfl _ _ rfl gv rfl 83 VL.toArray (0, 0) _ hX3 Try.underlying83 rfl HVj.out.1 ?_))
      refine Calls.mono Hmark.out ?_
      rintro e w4 ⟨rfl, hb34⟩
      have hX4 := hX3.up hb34
      have hO4 : Owns w4 B 5 v3 p3 := HO3.out.below hb34 fun k hk => (HO3.out.lt k hk).2
      have hB4 : B ≤ w4.heap.size := Nat.le_trans hB3 hb34.size
      have hb4 : Below B w1 w4 := hb3.trans (hb34.mono hB3)
      have HO4 := Lib.hid hO4
      have Hn4 := Lib.hid (number_any B mk (by omega) v3 p3 w4 hO4 hB4 (by omega))
      clear hX3 hb3 hb34 hO4 Hmark HO3
      go_wp2_with fail
      refine Calls.mono Hn4.out ?_
      rintro e w5 ⟨v5, rfl, hO5, hg5⟩
      have hX5 := arr_grew hX4 hg5 hne3
      have hne5 := grew_ne hg5 hne3 hX4.lt
      have hb5 : Below B w1 w5 := hb4.trans (hg5.below hB4 fun k hk => (HO4.out.lt k hk).1)
      have hB5 : B ≤ w5.heap.size := Nat.le_trans hB4 hg5.1.size
      obtain ⟨Ac, hAc⟩ : ∃ z, x.adr = z := ⟨_, rfl⟩
      obtain ⟨cc, hcc⟩ : ∃ z, x.cap = z := ⟨_, rfl⟩
      have hclc : lc ≤ cc ∧ cc ≤ 9223372036854775807 := by
        have h1 := Hxo.out.le
        have h2 := Hxo.out.lim
        rw [hcc] at h1 h2
        have h3 := Hlc.out
        unfold maxLen at h2
        omega
      have c3 : w5.cell? ⟨gv, 3, none⟩ = some (.slice Ac lc cc) := by rw [hX5.cell, HVL.out, ← hAc, ← hcc, ← Hlc.out]; rfl
      have hl5 : (p3 ++ Lib.uvarint mk).length + 1 ≤ 100000 := by
        have h := congrArg List.length Hpr3.out
        simp only [List.length_append] at h ⊢
        have := Lib.uvarint_pos lc
        omega
      have HO5 := Lib.hid hO5
      have HAc := Lib.hid hAc
      have Hn5 := Lib.hid (number_any B lc (by omega) v5 (p3 ++ Lib.uvarint mk) w5 hO5 hB5 (by omega))
      clear hX4 hg5 hb4 Hn4 HO4 hO5 hAc hcc hll hne3
      go_wp2_with fail
      refine Calls.mono Hn5.out ?_
      rintro e w6 ⟨v6, rfl, hO6, hg6⟩
      have hX6 := arr_grew hX5 hg6 hne5
      have hb6 : Below B w1 w6 := hb5.trans (hg6.below hB5 fun k hk => (HO5.out.lt k hk).1)
      have c3' : w6.cell? ⟨gv, 3, none⟩ = some (.slice Ac lc cc) := (World.cell?_of_block (hX6.trans hX5.symm)).trans c3
      have Hpr6 := Lib.hid (show ((p3 ++ Lib.uvarint mk) ++ Lib.uvarint lc) ++ (x.v.cells.flatMap encCl ++ REST) = E by rw [← Hpr3.out]; simp only [List.append_assoc])
      have HO6 := Lib.hid hO6
      clear hX5 hg6 hb5 Hn5 HO5 hO6 c3 hne5 hl5 hX6
      go_wp2_with fail
      clear c3'
      go_loopw [4, 39] (fun v i wr => ∃ (j : Nat) (pr : List UInt8), j ≤ lc ∧ i = .int .i64 (j : Nat) ∧ Owns wr B 5 v pr ∧ Hid (pr ++ ((x.v.cells.drop j).flatMap encCl ++ REST) = E) ∧ Below B w1 wr) (fun _ i _ => lc - (Go.RowKit.intOf i).toNat)
      case atStart => exact ⟨0, _, Nat.zero_le _, rfl, HO6.out, Lib.hid (by rw [List.drop_zero]; exact Hpr6.out), hb6⟩
      case round =>
        clear hb6
        obtain ⟨j, pr, hj, rfl, hO, Hpj, hbr⟩ := hrel
        have hBr2 : B ≤ wr.heap.size := Nat.le_trans (by have := HB.out; omega) hbr.size
        by_cases hjl : j < lc
        · have hd2 : decide ((j : Int) < (lc : Int)) = true := by simp; omega
          obtain ⟨d, hdj⟩ : ∃ z, x.v.cells[j]? = some z := ⟨_, List.getElem?_eq_getElem (by rw [Hlc.out]; exact hjl)⟩
          obtain ⟨cb, coff, hax, hcb, hx32, hrx⟩ := Hxo.out.cell hdj
          rw [HAc.out] at hax
          have hdrop : x.v.cells.drop j = d :: x.v.cells.drop (j + 1) := by
            obtain ⟨hl, he⟩ := List.getElem?_eq_some_iff.1 hdj
            rw [List.drop_eq_getElem_cons hl, he]
          obtain ⟨nn, hnn⟩ : ∃ z, d.1 = z := ⟨_, rfl⟩
          obtain ⟨f, hf⟩ : ∃ z, d.2 = z := ⟨_, rfl⟩
          have hnn20 : nn < 1048576 := by
            have h1 := (Hokc.out x.v (List.mem_of_getElem? Hxk.out)).c d (List.mem_of_getElem? hdj)
            rw [hnn] at h1; exact h1.1
          have hpj := Hpj.out
          rw [hdrop, List.flatMap_cons] at hpj
          have Hp2 := Lib.hid (show ((pr ++ Lib.uvarint nn) ++ f) ++ ((x.v.cells.drop (j + 1)).flatMap encCl ++ REST) = E by
            rw [← hpj]; unfold encCl; rw [hnn, hf]; simp only [List.append_assoc])
          have hlj : pr.length + (Lib.uvarint nn).length + f.length ≤ 100000 := by
            have h := congrArg List.length Hp2.out
            simp only [List.length_append] at h
            omega
          obtain ⟨XL, hXL⟩ : ∃ z, z = cellC d := ⟨_, rfl⟩
          have hXl : XL.length = 33 := by rw [hXL, cellC_length hx32]
          have hrX : wr.rangeAt cb (coff + j * 33) XL := fun t u ht => by
            rw [hXL] at ht
            exact (World.cell?_of_block (hbr.block cb (by have := HB.out; omega))).trans (hrx t u ht)
          have HXi := Lib.hid (show (Try.prog.info? 85).map (·.size) = some XL.length by rw [hXl]; exact clSize)
          have HXj := Lib.hid (show (Try.prog.info? 85).map (·.size) = some XL.toArray.size ∧ KZ.toArray.size = XL.toArray.size by rw [List.size_toArray, List.size_toArray, hXl, HKl.out]; exact ⟨clSize, rfl⟩)
          have HX1 := Lib.hid (show XL.toArray.all (·.oneCell') = true by rw [hXL]; exact all_oneCell_toArray (cellC_one _))
          obtain ⟨wa, hwa⟩ : ∃ W, W = (wr.alloc (.cells KZ.toArray 85)).setRow wr.heap.size XL.toArray := ⟨_, rfl⟩
          obtain ⟨hXa, hba⟩ := alloc_row wr 85 KZ.toArray XL
          rw [← hwa] at hXa hba
          obtain ⟨gc, hgc⟩ : ∃ z, z = wr.heap.size := ⟨_, rfl⟩
          rw [← hgc] at hXa
          have hOa : Owns wa B 5 u4 pr := hO.below hba fun k hk => (hO.lt k hk).2
          have hnec : u4.ownBlock ≠ some gc := fun e => by have := (hO.lt gc e).2; omega
          have hbaw : Below B w1 wa := hbr.trans (hba.mono hBr2)
          have hBa2 : B ≤ wa.heap.size := Nat.le_trans hBr2 hba.size
          have x0 : wa.cell? ⟨gc, 0, none⟩ = some (.int .i64 (nn : Nat)) := by rw [hXa.cell, hXL, ← hnn]; rfl
          have Hf := Lib.hid (show f.length = 32 ∧ ∀ (w' : World), Arr w' gc 85 XL → Bs w' w'.heap.size (some ⟨gc, 1, none⟩) f from ⟨by rw [← hf]; exact hx32, fun w' h => fun _ => ⟨gc, 1, rfl, h.lt, fun t ht => by
            rw [h.cell, hXL]
            show (Value.int IntKind.i64 (d.1 : Nat) :: Lib.byteCells d.2)[1 + t]? = _
            rw [Nat.add_comm 1 t, List.getElem?_cons_succ, hf]
            have hh := byteCells_getE ht
            rw [hh]
            simp [List.getD, ht]⟩⟩)
          have HOa := Lib.hid hOa
          have Hna := Lib.hid (number_any B nn (by omega) u4 pr wa hOa hBa2 (by have := Lib.uvarint_pos nn; omega))
          have Hwa := Lib.hid hwa
          have Hgc := Lib.hid hgc
          subst hax
          clear hwa hXL hXl hrx hdj hdrop hpj hnn hf hx32 hO hba hbr hgc hOa Hpj
          go_upto_region 12 with (first | ((with_reducible refine wpList_atE 42 (by rfl) ?_); refine wpList_load_mid rfl _ _ rfl cb (coff + j * 33) rfl XL _ hrX Try.underlying85 rfl HXi.out ?_) | ((with_reducible refine wpList_atE 8 (by rfl) ?_); refine wpList_allocZE rfl 85 rfl KZ.toArray (HKZ.out _) ?_) | (refine wpList_store_row rfl _ _ _ rfl wr.heap.size XL.toArray rfl rfl 85 KZ.toArray (heap_alloc_new wr _) HXj.out.1 HXj.out.2 HX1.out ?_; rw [← Hwa.out]))
          rw [← Hgc.out]
          clear hrX
          go_wp2_with fail
          refine Calls.mono Hna.out ?_
          rintro e w7 ⟨v7, rfl, hO7, hg7⟩
          have hX7 := arr_grew hXa hg7 hnec
          have hb7 : Below B w1 w7 := hbaw.trans (hg7.below hBa2 fun k hk => (HOa.out.lt k hk).1)
          have hB7 : B ≤ w7.heap.size := Nat.le_trans hBa2 hg7.1.size
          have Hbs7 := Lib.hid (Hf.out.2 w7 hX7)
          clear hXa hg7 hbaw x0 hnec hX7 Hna HOa
          go_wp2_with (refine wpList_append_bs rfl _ _ 22 rfl B 5 i0 (.int .u8 0) Try.underlying22 hi hz0 hz1 hz2 rfl v7 (pr ++ Lib.uvarint nn) rfl hO7 w7.heap.size (some ⟨gc, 1, none⟩) 32 32 f rfl Hf.out.1 Hbs7.out (by rw [List.length_append]; omega) hB7 ?_; intro v9 w9 hO9 hg9)
          have hb9 : Below B w1 w9 := hb7.trans (hg9.below hB7 fun k hk => (hO7.lt k hk).1)
          clear hg9 hO7 hb7
          go_wp2_with fail
          go_roundw
          case rel => exact ⟨j + 1, _, by omega, by go_num, hO9, Hp2, hb9⟩
          case measure => (simp [Go.RowKit.intOf]; try omega)
        · obtain rfl : j = lc := by omega
          have hd2 : decide ((j : Int) < (j : Int)) = false := by simp
          have Hnx2 := Lib.hid (show pr ++ (L.drop (k + 1)).flatMap encVl = E by
            have h := Hpj.out
            rw [List.drop_of_length_le (by rw [Hlc.out]; exact Nat.le_refl _)] at h
            rw [← HREST.out]
            simpa using h)
          go_wp2_with fail
          go_roundw
          case rel => exact ⟨k + 1, pr, by omega, by go_num, hO, Hnx2, hbr⟩
          case measure => (simp [Go.RowKit.intOf]; try omega)
    · obtain rfl : k = nx := by omega
      have hd1 : decide ((k : Int) < (k : Int)) = false := by simp
      have Hfin := Lib.hid (show pre = E by have h := Hpre.out; rw [List.drop_of_length_le (by rw [HnL.out]; exact Nat.le_refl _)] at h; simpa using h)
      go_wp2_with fail
      go_ret
      refine ⟨_, rfl, ?_, Hb1.out.trans (hbr.mono (by rw [HB.out]; exact Hb1.out.size))⟩
      rw [← Hfin.out]
      exact owns_down hO (by rw [HB.out]; exact Hb1.out.size)

end Go.Proofs.Ytcajhndhjlfmaaa

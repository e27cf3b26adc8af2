/-
  The index as bytes: the code's Encode.
-/
import Derived.Test.YtfelacpaaialfaaDoorIxItems
import Derived.Test.YtfelacpaaialfaaDoorNum
import Derived.Test.YtfelacpaaialfaaDoorGen
namespace Go.Proofs.YtfelacpaaialfaaDoor
open Go.RowKit
set_option linter.unusedVariables false
set_option linter.unusedSimpArgs false

theorem itZeroE (w : World) : (zeroValue 61).run Tryd.prog w = .ok (.agg itZ.toArray) w := by kernel_rfl
theorem wpList_allocZI {P : Program} {ops : Array Oper} {rest : List Oper} {o : Oper} {a : Act} {w : World} {Q : Exit → Act → World → Prop} (hg : o.guard = none) (t : TypeId) (ho : o.op = .alloc t) (Z : Array Value) (hz : (zeroValue t).run P w = .ok (.agg Z) w)
    (h : wpList P ops Q rest (a.put o.dst (.pointer (some ⟨w.heap.size, 0, none⟩))) (w.alloc (.cells Z t))) : wpList P ops Q (o :: rest) a w := by
  refine wpList_plain hg fun K hK => ?_
  unfold Oper.wp execOp
  simp only [ho, Instr.alloc, Sem.run_bind, hz, Result.andThen_ok]
  exact hK _ _ h
theorem byteCells_getI {d : List UInt8} {j : Nat} (hj : j < d.length) : (Lib.byteCells d)[j]? = some (.int .u8 (d[j].toNat : Nat)) := by
  unfold Lib.byteCells
  rw [List.getElem?_map, List.getElem?_eq_getElem hj]
  rfl
/-- A row of bytes doesn't lie where a row of another type does. -/
theorem owns_off {w : World} {B g : Nat} {T U : TypeId} {v : Value} {l : List UInt8} {cs : List Value} (h : Owns w B T v l) (hA : Arr w g U cs) (hne : T ≠ U) : v.ownBlock ≠ some g := by
  rcases h.2 with ⟨rfl, _⟩ | ⟨g1, cap, cur, rfl, _, hg1, _⟩
  · intro e; cases e
  · intro e
    simp only [Value.ownBlock, Option.some.injEq] at e
    subst e
    have := hg1.symm.trans hA
    simp only [Option.some.injEq, Obj.cells.injEq] at this
    exact hne this.2.1
theorem owns_offR {w : World} {B B' : Nat} {T U : TypeId} {sz n : Nat} {v u : Value} {l : List UInt8} {xs : List Value} (h : Owns w B T v l) (hR : w.ownsRow B' U sz u n xs) (hne : T ≠ U) : ∀ g, u.ownBlock = some g → v.ownBlock ≠ some g := by
  intro g hg
  rcases hR.2 with ⟨rfl, _⟩ | ⟨g1, cap, cur, rfl, _, hg1, _⟩
  · cases hg
  · simp only [Value.ownBlock, Option.some.injEq] at hg
    subst hg
    exact owns_off (cs := cur.toList) h (by unfold Arr; simpa using hg1) hne
theorem arr_grownI {w w' : World} {v : Value} {g : Nat} {T : TypeId} {cs : List Value} (h : Arr w g T cs) (hg : w.grownBy w' v.ownBlock) (hne : v.ownBlock ≠ some g) : Arr w' g T cs := (hg.block g h.lt (fun e => hne e.symm)).trans h
theorem irw_grown {w w' : World} {v u : Value} {B : Nat} {xs : List Ix} (h : IRw w B u xs) (hg : w.grownBy w' v.ownBlock) (hne : ∀ g, u.ownBlock = some g → v.ownBlock ≠ some g) : IRw w' B u xs :=
  h.keep (fun g e => hg.block g (h.lt g e).2 (fun e2 => hne g e e2.symm)) hg.tape
/-- One item of a row. -/
theorem IRw.at_ {w : World} {B : Nat} {A : Option Addr} {n c : Nat} {xs : List Ix} (h : IRw w B (.slice A n c) xs) {k : Nat} {x : Ix} (hx : xs[k]? = some x) : ∃ g, A = some ⟨g, 0, none⟩ ∧ g < w.heap.size ∧ w.rangeAt g (k * 35) (itC x) := by
  have hk := (List.getElem?_eq_some_iff.1 hx).1
  rcases h.2.2 with ⟨e, hn⟩ | ⟨g, cap, cur, e, h1, hg, h2, h3, h4, h5⟩
  · omega
  · injection e with e1 e2 e3
    subst e1
    refine ⟨g, rfl, (Array.getElem?_eq_some_iff.1 hg).1, fun j v hj => ?_⟩
    have hd := flat_at (k := 35) (f := itC) (fun x hx => itC_length (h.1 x hx)) hx j v hj
    have h5' : List.take (xs.length * 35) cur.toList = xs.flatMap itC := h5
    rw [← h5'] at hd
    have hlt : k * 35 + j < xs.length * 35 := by
      have := (List.getElem?_eq_some_iff.1 hd).1
      rw [List.length_take] at this
      omega
    rw [List.getElem?_take_of_lt hlt] at hd
    rw [cell_of_row w g _ cur 61 (0, 0) hg]
    simpa using hd
theorem irw_form {w : World} {B n : Nat} {v : Value} {xs : List Ix} (h : IRw w B v xs) (hn : xs.length = n) : ∃ A c, v = .slice A n c ∧ n ≤ c ∧ c ≤ 9223372036854775807 := by
  obtain ⟨A, c, e, h1, h2, _⟩ := h.slice
  subst hn
  exact ⟨A, c, e, h1, by unfold maxLen at h2; omega⟩
theorem wrap_bin (b : Nat) (hb : b ≤ 2147483648) : IntKind.u64.wrap (IntKind.u64.wrap ((b : Int) - 1) + 1) = (b : Nat) := by
  simp [IntKind.wrap, IntKind.bits, IntKind.signed]
  omega

set_option maxHeartbeats 8000000 in
set_option maxRecDepth 100000 in
theorem iencode_any (s mb : Nat) (L : List Ix) (w : World) (h : IxQ w s mb L) (hOk : OkI L) (hn : L.length ≤ 100000) (E : List UInt8) (hE : encI L = E) (hEl : E.length ≤ 10000000000) :
    Calls Tryd.prog 10 #[.pointer (some ⟨s, 0, none⟩)] w fun e w' => ∃ v, e = .returned v ∧ Owns w' w.heap.size 5 v E ∧ Below w.heap.size w w' := by
  obtain ⟨i0, hi, hz0, hz1, hz2⟩ := info_parts byteInfo
  have hlen := World.ownsMap.len h.hm Tryd.underlying53 3
  rw [ixD_sizeI] at hlen
  obtain ⟨n, hnn⟩ : ∃ n, L.length = n := ⟨_, rfl⟩
  have hn' := hn
  rw [hnn] at hlen hn'
  have hc0 := h.hs.cell 0
  simp only [List.getElem?_cons_zero] at hc0
  obtain ⟨B, hB⟩ : ∃ z, z = w.heap.size := ⟨_, rfl⟩
  have Hn0 := Lib.hid (number_any B n (by omega) (.slice none 0 0) [] w (Owns.nil _ _ _) (by omega) (by simp))
  have Hq := Lib.hid h
  have HOk := Lib.hid hOk
  have Hnn := Lib.hid hnn
  have Hln := Lib.hid hn
  have HB := Lib.hid hB
  have HE := Lib.hid hE
  obtain ⟨IZ, hIZ⟩ : ∃ CZ, CZ = itZ := ⟨_, rfl⟩
  have HIZ := Lib.hid (fun w : World => show (zeroValue 61).run Tryd.prog w = .ok (.agg IZ.toArray) w by rw [hIZ]; exact itZeroE w)
  have HIl := Lib.hid (show IZ.length = 35 by rw [hIZ]; rfl)
  rw [← hB]
  clear h hOk hnn hn hB hE hIZ
  go_enter Tryd.func10, Tryd.ntmps10
  go_wp2_with fail
  refine Calls.mono Hn0.out ?_
  rintro e w1 ⟨v1, rfl, hO1, hg1⟩
  have hb1 : Below B w w1 := hg1.below (by have := HB.out; omega) fun k hk => by cases hk
  have hb1w : Below w.heap.size w w1 := by rw [← HB.out]; exact hb1
  have hQ1 := Hq.out.up hb1w
  have Hit := Lib.hid (items_any s mb L w1 hQ1 HOk.out Hln.out)
  have HO1 := Lib.hid hO1
  have Hb1 := Lib.hid hb1
  clear hg1 hQ1 hlen hc0 Hn0 hb1w hO1 hb1
  go_wp2_with fail
  refine Calls.mono Hit.out ?_
  rintro e w2 ⟨vi, rfl, hI2, hb2⟩
  obtain ⟨A, c, rfl, hac, hcm⟩ := irw_form hI2 Hnn.out
  have hO2 : Owns w2 B 5 v1 ([] ++ Lib.uvarint n) := HO1.out.below hb2 fun k hk => (HO1.out.lt k hk).2
  have hBw1 : B ≤ w1.heap.size := by have := HB.out; have := Hb1.out.size; omega
  have hb2w : Below B w w2 := Hb1.out.trans (hb2.mono hBw1)
  obtain ⟨B1, hB1⟩ : ∃ z, z = w1.heap.size := ⟨_, rfl⟩
  rw [← hB1] at hI2
  clear Hit HO1 hb2 hB1 hBw1
  go_wp2_with fail
  go_loopw [3, 16] (fun v i wr => ∃ (k : Nat) (pre : List UInt8), k ≤ n ∧ i = .int .i64 (k : Nat) ∧ Owns wr B 5 v pre ∧ IRw wr B1 (.slice A n c) L ∧ Hid (pre ++ (L.drop k).flatMap encIx = E) ∧ Below B w wr) (fun _ i _ => n - (Go.RowKit.intOf i).toNat)
  case atStart => exact ⟨0, _, Nat.zero_le _, rfl, hO2, hI2, Lib.hid (by rw [← HE.out]; unfold encI; rw [Hnn.out, List.drop_zero]; rfl), hb2w⟩
  case round =>
    clear hO2 hI2 hb2w
    obtain ⟨k, pre, hk, rfl, hO, hI, Hpre, hbr⟩ := hrel
    have hBr : B ≤ wr.heap.size := Nat.le_trans (by have := HB.out; omega) hbr.size
    by_cases hlt : k < n
    · have hd1 : decide ((k : Int) < (n : Int)) = true := by simp; omega
      obtain ⟨x, hx⟩ : ∃ x, L[k]? = some x := ⟨L[k]'(by rw [Hnn.out]; exact hlt), List.getElem?_eq_getElem _⟩
      obtain ⟨ob, rfl, hob, hrow⟩ := hI.at_ hx
      obtain ⟨⟨hx32, hxb, hxs, hxu⟩, _⟩ := HOk.out.1 x (List.mem_of_getElem? hx)
      have hdrop : L.drop k = x :: L.drop (k + 1) := by
        obtain ⟨hl, he⟩ := List.getElem?_eq_some_iff.1 hx
        rw [List.drop_eq_getElem_cons hl, he]
      obtain ⟨REST, hREST⟩ : ∃ z, z = (L.drop (k + 1)).flatMap encIx := ⟨_, rfl⟩
      have hpre := Hpre.out
      rw [hdrop, List.flatMap_cons, ← hREST] at hpre
      obtain ⟨VL, hVL⟩ : ∃ VL, VL = itC x := ⟨_, rfl⟩
      rw [← hVL] at hrow
      obtain ⟨xd, hxd⟩ : ∃ z, x.d = z := ⟨_, rfl⟩
      obtain ⟨xb, hxbe⟩ : ∃ z, x.b = z := ⟨_, rfl⟩
      obtain ⟨xs, hxse⟩ : ∃ z, x.s = z := ⟨_, rfl⟩
      obtain ⟨xu, hxue⟩ : ∃ z, x.u = z := ⟨_, rfl⟩
      have hVe : VL = Lib.byteCells xd ++ stC xb xs xu := by rw [hVL, ← hxd, ← hxbe, ← hxse, ← hxue]; rfl
      rw [hxd] at hx32
      rw [hxbe] at hxb
      rw [hxse] at hxs
      rw [hxue] at hxu
      obtain ⟨bi, hbi⟩ : ∃ z : Int, z = (xb : Int) - 1 := ⟨_, rfl⟩
      have Hwb := Lib.hid (show IntKind.u64.wrap (IntKind.u64.wrap bi + 1) = (xb : Nat) by rw [hbi]; exact wrap_bin xb hxb)
      have Hpr := Lib.hid (show (((pre ++ xd) ++ Lib.uvarint xb) ++ Lib.uvarint xs) ++ Lib.uvarint xu ++ REST = E by
        rw [← hpre]; unfold encIx; rw [hxd, hxbe, hxse, hxue]; simp only [List.append_assoc])
      have Hlens := Lib.hid (show pre.length + 32 + (Lib.uvarint xb).length + (Lib.uvarint xs).length + (Lib.uvarint xu).length ≤ 10000000000 by
        have h := congrArg List.length Hpr.out
        simp only [List.length_append] at h
        omega)
      have hbl : (Lib.byteCells xd).length = 32 := by rw [Lib.byteCells_length]; exact hx32
      have Hcell := Lib.hid (fun (w : World) (g : Nat) (h : Arr w g 61 VL) => show w.cell? ⟨g, 32, none⟩ = some (.int .i64 bi) ∧ w.cell? ⟨g, 33, none⟩ = some (.int .i64 (xs : Nat)) ∧ w.cell? ⟨g, 34, none⟩ = some (.int .i64 (xu : Nat)) ∧ Bs w w.heap.size (some ⟨g, 0, none⟩) xd by
        refine ⟨?_, ?_, ?_, fun _ => ⟨g, 0, rfl, h.lt, fun t ht => ?_⟩⟩
        · rw [h.cell, hVe, List.getElem?_append_right (by omega), hbl, hbi]; rfl
        · rw [h.cell, hVe, List.getElem?_append_right (by omega), hbl]; rfl
        · rw [h.cell, hVe, List.getElem?_append_right (by omega), hbl]; rfl
        · rw [h.cell, hVe, Nat.zero_add, List.getElem?_append_left (by omega), byteCells_getI ht]
          simp [List.getD, ht])
      have hVl : VL.length = 35 := by rw [hVe, List.length_append, hbl]; rfl
      have HVi := Lib.hid (show (Tryd.prog.info? 61).map (·.size) = some VL.length by rw [hVl]; exact itInfo)
      have HVj := Lib.hid (show (Tryd.prog.info? 61).map (·.size) = some VL.toArray.size ∧ IZ.toArray.size = VL.toArray.size by rw [List.size_toArray, List.size_toArray, hVl, HIl.out]; exact ⟨itInfo, rfl⟩)
      have HV1 := Lib.hid (show VL.toArray.all (·.oneCell') = true by rw [hVL]; exact all_oneCell_toArray (itC_one _))
      obtain ⟨wa, hwa⟩ : ∃ W, W = (wr.alloc (.cells IZ.toArray 61)).setRow wr.heap.size VL.toArray := ⟨_, rfl⟩
      obtain ⟨hXa, hba⟩ := alloc_row wr 61 IZ.toArray VL
      rw [← hwa] at hXa hba
      obtain ⟨gv, hgv⟩ : ∃ z, z = wr.heap.size := ⟨_, rfl⟩
      rw [← hgv] at hXa
      have hOa : Owns wa B 5 _ pre := hO.below hba fun k hk => (hO.lt k hk).2
      have hIa := hI.up hba
      have hbaw : Below B w wa := hbr.trans (hba.mono hBr)
      have hBa : B ≤ wa.heap.size := Nat.le_trans hBr hba.size
      have Hwa := Lib.hid hwa
      have Hgv := Lib.hid hgv
      have HREST := Lib.hid hREST
      have Hx32 := Lib.hid hx32
      clear hwa hVL hpre hREST hx hdrop hgv hO hI hba hbr Hpre hVe hbi hxd hxbe hxse hxue hVl hbl hx32
      go_upto_region 5 with (first | ((with_reducible refine wpList_atT 19 (by rfl) ?_); refine wpList_load_mid rfl _ _ rfl ob (k * 35) rfl VL _ hrow Tryd.underlying61 rfl HVi.out ?_) | ((with_reducible refine wpList_atT 5 (by rfl) ?_); refine wpList_allocZI rfl 61 rfl IZ.toArray (HIZ.out _) ?_) | (refine wpList_store_row rfl _ _ _ rfl wr.heap.size VL.toArray rfl rfl 61 IZ.toArray (heap_alloc_new wr _) HVj.out.1 HVj.out.2 HV1.out ?_; rw [← Hwa.out]))
      rw [← Hgv.out]
      clear hrow
      have hbsa := (Hcell.out wa gv hXa).2.2.2
      have Hbsa := Lib.hid hbsa
      have Hoff := Lib.hid (owns_off hOa hXa (by decide))
      have HoffR := Lib.hid (owns_offR hOa hIa.2 (by decide))
      clear hbsa
      go_upto_region 6 with (refine wpList_append_bs rfl _ _ 22 rfl B 5 i0 (.int .u8 0) Tryd.underlying22 hi hz0 hz1 hz2 rfl _ pre rfl hOa wa.heap.size (some ⟨gv, 0, none⟩) 32 32 xd rfl Hx32.out Hbsa.out (by have := Hlens.out; omega) hBa ?_; intro v9 w9 hO9 hg9)
      replace hg9 : Grew wa w9 u3 v9 := hg9
      have hX9 := arr_grownI hXa hg9.1 Hoff.out
      have hI9 := irw_grown hIa hg9.1 HoffR.out
      have hb9 : Below B w w9 := hbaw.trans (hg9.below hBa fun k hk => (hOa.lt k hk).1)
      have hB9 : B ≤ w9.heap.size := Nat.le_trans hBa hg9.1.size
      have c32 : w9.cell? ⟨gv, 32, none⟩ = some (.int .i64 bi) := (Hcell.out w9 gv hX9).1
      have Hn9 := Lib.hid (number_any B xb (by omega) v9 (pre ++ xd) w9 hO9 hB9 (by have := Hlens.out; have := Hx32.out; rw [List.length_append]; have := Lib.uvarint_pos xb; omega))
      have Hoff9 := Lib.hid (owns_off hO9 hX9 (by decide))
      have HoffR9 := Lib.hid (owns_offR hO9 hI9.2 (by decide))
      have HO9 := Lib.hid hO9
      have HX9 := Lib.hid hX9
      have HI9 := Lib.hid hI9
      clear hX9 hI9
      clear hXa hIa hOa hg9 hbaw hBa Hoff HoffR Hbsa hO9
      go_wp2_with fail
      rw [Hwb.out]
      refine Calls.mono Hn9.out ?_
      rintro e w10 ⟨v10, rfl, hO10, hg10⟩
      have hX10 := arr_grownI HX9.out hg10.1 Hoff9.out
      have hI10 := irw_grown HI9.out hg10.1 HoffR9.out
      have hb10 : Below B w w10 := hb9.trans (hg10.below hB9 fun k hk => (HO9.out.lt k hk).1)
      have hB10 : B ≤ w10.heap.size := Nat.le_trans hB9 hg10.1.size
      have c33 : w10.cell? ⟨gv, 33, none⟩ = some (.int .i64 (xs : Nat)) := (Hcell.out w10 gv hX10).2.1
      have Hn10 := Lib.hid (number_any B xs (by omega) v10 ((pre ++ xd) ++ Lib.uvarint xb) w10 hO10 hB10 (by have := Hlens.out; have := Hx32.out; rw [List.length_append, List.length_append]; have := Lib.uvarint_pos xs; omega))
      have Hoff10 := Lib.hid (owns_off hO10 hX10 (by decide))
      have HoffR10 := Lib.hid (owns_offR hO10 hI10.2 (by decide))
      have HO10 := Lib.hid hO10
      have HX10 := Lib.hid hX10
      have HI10 := Lib.hid hI10
      clear hX10 hI10
      clear HX9 HI9 hg10 hb9 hB9 Hoff9 HoffR9 HO9 Hn9 c32 hO10
      go_wp2_with fail
      refine Calls.mono Hn10.out ?_
      rintro e w11 ⟨v11, rfl, hO11, hg11⟩
      have hX11 := arr_grownI HX10.out hg11.1 Hoff10.out
      have hI11 := irw_grown HI10.out hg11.1 HoffR10.out
      have hb11 : Below B w w11 := hb10.trans (hg11.below hB10 fun k hk => (HO10.out.lt k hk).1)
      have hB11 : B ≤ w11.heap.size := Nat.le_trans hB10 hg11.1.size
      have c34 : w11.cell? ⟨gv, 34, none⟩ = some (.int .i64 (xu : Nat)) := (Hcell.out w11 gv hX11).2.2.1
      have Hn11 := Lib.hid (number_any B xu (by omega) v11 (((pre ++ xd) ++ Lib.uvarint xb) ++ Lib.uvarint xs) w11 hO11 hB11 (by have := Hlens.out; have := Hx32.out; rw [List.length_append, List.length_append, List.length_append]; have := Lib.uvarint_pos xu; omega))
      have HoffR11 := Lib.hid (owns_offR hO11 hI11.2 (by decide))
      have HO11 := Lib.hid hO11
      have HX11 := Lib.hid hX11
      have HI11 := Lib.hid hI11
      clear hX11 hI11
      clear HX10 HI10 hg11 hb10 hB10 Hoff10 HoffR10 HO10 Hn10 c33 hO11
      go_wp2_with fail
      refine Calls.mono Hn11.out ?_
      rintro e w12 ⟨v12, rfl, hO12, hg12⟩
      have hI12 := irw_grown HI11.out hg12.1 HoffR11.out
      have hb12 : Below B w w12 := hb11.trans (hg12.below hB11 fun k hk => (HO11.out.lt k hk).1)
      have Hnx := Lib.hid (show ((((pre ++ xd) ++ Lib.uvarint xb) ++ Lib.uvarint xs) ++ Lib.uvarint xu) ++ (L.drop (k + 1)).flatMap encIx = E by rw [← HREST.out]; exact Hpr.out)
      clear HX11 HI11 hg12 hb11 hB11 HoffR11 HO11 Hn11 c34
      go_wp2_with fail
      go_roundw
      case rel => exact ⟨k + 1, _, by omega, by go_num, hO12, hI12, Hnx, hb12⟩
      case measure => (simp [Go.RowKit.intOf]; try omega)
    · obtain rfl : k = n := by omega
      have hd1 : decide ((k : Int) < (k : Int)) = false := by simp
      have Hfin := Lib.hid (show pre = E by have h := Hpre.out; rw [List.drop_of_length_le (by rw [Hnn.out]; exact Nat.le_refl _)] at h; simpa using h)
      go_wp2_with fail
      go_ret
      refine ⟨_, rfl, ?_, hbr⟩
      rw [← Hfin.out]
      exact hO

end Go.Proofs.YtfelacpaaialfaaDoor

/-
  The law ModelTrims.
-/
import Derived.Test.YtmjnnjlkdnakmaaModTrimsMath
namespace Go.Proofs.Ytmjnnjlkdnakmaa
open Go.RowKit
set_option linter.unusedVariables false
set_option linter.unusedSimpArgs false

/-- A whole array is read, under a guard that holds. -/
theorem wpList_load_row_if {P : Program} {ops : Array Oper} {rest : List Oper} {o : Oper} {a : Act} {w : World} {Q : Exit → Act → World → Prop} (hw : Region.wanted o (yielded ops a.tmps) = true) (ty : TypeId) (x : Operand) (ho : o.op = .load ty x) (g : Nat) (hx : a.eval x = .pointer (some ⟨g, 0, none⟩))
    (t : TypeId) (cs : Array Value) (d : TypeDesc) (hg : w.heap[g]? = some (.cells cs t (0, 0))) (hu : P.underlying ty = some d) (hd : (match d with | .struct _ | .array _ _ => true | _ => false) = true) (hi : (P.info? ty).map (·.size) = some cs.size)
    (h : wpList P ops Q rest (a.put o.dst (.agg cs)) w) : wpList P ops Q (o :: rest) a w :=
  wpList_step fun K hK => by
    rw [if_pos hw]
    unfold Oper.wp execOp
    simp only [ho, hx, Sem.run_bind, run_loadAt_row w g t ty cs d hg hu hd hi, Result.andThen_ok]
    exact hK _ _ h

theorem newF_not {F : Nat → Prop} {w w' : World} {g : Nat} (h : ¬ F g) (hl : g < w.heap.size) : ¬ newF F w w' g := by
  rintro (h1 | h1)
  · exact h h1
  · omega
theorem OpsAt.more {w : World} {B B' : Nat} {A : Option Addr} {xs : List Op15} (h : OpsAt w B A xs) (hB : B ≤ B') : OpsAt w B' A xs :=
  ⟨h.1, fun hp => by obtain ⟨b, off, e, hlt, hc⟩ := h.2 hp; exact ⟨b, off, e, by omega, hc⟩⟩
theorem opAll1 : (Try.prog.info? 31).map (fun i => (i.zero, i.size, i.bytes)) = some (some (.agg opZ.toArray), 53, 104) := by kernel_rfl
theorem fill_row53 (l : List Value) (hl : l.length = 53) (cells : Array Value) (hc : cells.size = 53) : Instr.fill (fun i => some (i * 53, 53)) cells [(0, .agg l.toArray)] = some l.toArray := by
  have h := fill_midV (fun i => some (i * 53, 53)) cells 0 0 l (by rw [hl]) (by omega)
  rw [h]
  congr 2
  rw [List.take_zero, List.nil_append, hl, List.drop_of_length_le (by simp [hc]), List.append_nil]
/-- '[]Op{x}', guarded or not. -/
theorem wpList_build_op1 {ops : Array Oper} {rest : List Oper} {o : Oper} {a : Act} {w : World} {Q : Exit → Act → World → Prop} (hw : Region.wanted o (yielded ops a.tmps) = true) (x : Operand) (ho : o.op = .buildSlice 22 1 #[(0, x)]) (VL : List Value) (hV : VL.length = 53) (hx : a.eval x = .agg VL.toArray)
    (h : wpList Try.prog ops Q rest (a.put o.dst (.slice (some ⟨w.heap.size, 0, none⟩) 1 1)) (w.alloc (.cells VL.toArray 31))) : wpList Try.prog ops Q (o :: rest) a w :=
  wpList_step fun K hK => by
    rw [if_pos hw]
    obtain ⟨i0, hi, hz0, hz1, hz2⟩ := info_partsV opAll1
    refine wp_buildSlice 22 31 1 #[(0, x)] ho VL.toArray i0 _ Try.underlying22 hi hz0 (by rw [hz1]; decide) (by rw [hz1]; decide) ?_ (hK _ _ h)
    rw [hz1]
    simp only [List.map_toArray, List.map_cons, List.map_nil, hx]
    exact fill_row53 VL hV _ (by simp)

set_option maxHeartbeats 32000000 in
set_option maxRecDepth 100000 in
theorem mtrims_walk (A : Option Addr) (n c : Nat) (xs : List Op15) (hn : xs.length = n) (hc : n ≤ c) (hm : c ≤ maxLen) (o : Op15) (w : World) (hxs : OpsAt w w.heap.size A xs) (ho : OpOk o) :
    Calls Try.prog 7 #[.slice A n c, .agg (opC o).toArray] w fun e w' => e = .returned (.bool true) ∧ Below w.heap.size w w' := by
  unfold maxLen at hm
  obtain ⟨X0, hX0⟩ : ∃ z, z = opC o := ⟨_, rfl⟩
  obtain ⟨X4, hX4⟩ : ∃ z, z = opC (opK o 4) := ⟨_, rfl⟩
  obtain ⟨X5, hX5⟩ : ∃ z, z = opC (opK o 5) := ⟨_, rfl⟩
  obtain ⟨X3, hX3⟩ : ∃ z, z = opC (opK o 3) := ⟨_, rfl⟩
  have hs4 : X0.set 0 (.int .i64 4) = X4 := by rw [hX0, hX4]; exact opK_set o 4
  have hs5 : X4.set 0 (.int .i64 5) = X5 := by rw [hX4, hX5]; rfl
  have hs3 : X4.set 0 (.int .i64 3) = X3 := by rw [hX4, hX3]; rfl
  have hlen : ∀ k, (opC (opK o k)).length = 53 := fun k => opC_length ho.b48
  have Hi0 := Lib.hid (show (Try.prog.info? 31).map (·.size) = some X0.toArray.size ∧ X0.length = 53 by rw [List.size_toArray, hX0, opC_length ho.b48]; exact ⟨opSize, rfl⟩)
  have Hi4 := Lib.hid (show (Try.prog.info? 31).map (·.size) = some X4.toArray.size ∧ X4.length = 53 by rw [List.size_toArray, hX4, hlen]; exact ⟨opSize, rfl⟩)
  have Hi5 := Lib.hid (show (Try.prog.info? 31).map (·.size) = some X5.toArray.size ∧ X5.length = 53 by rw [List.size_toArray, hX5, hlen]; exact ⟨opSize, rfl⟩)
  have Hi3 := Lib.hid (show (Try.prog.info? 31).map (·.size) = some X3.toArray.size ∧ X3.length = 53 by rw [List.size_toArray, hX3, hlen]; exact ⟨opSize, rfl⟩)
  have H41 := Lib.hid (show X4.toArray.all (·.oneCell') = true by rw [hX4]; exact all_one (opC_one _))
  obtain ⟨AZ, hAZ⟩ : ∃ z, z = ansZ := ⟨_, rfl⟩
  obtain ⟨OZ, hOZ⟩ : ∃ z, z = opZ := ⟨_, rfl⟩
  have HZA := Lib.hid (fun w : World => show (zeroValue 35).run Try.prog w = .ok (.agg AZ.toArray) w by rw [hAZ]; exact ansZero w)
  have HAi := Lib.hid (fun (AL : List Value) (h : AL.length = 51) => show (Try.prog.info? 35).map (·.size) = some AL.toArray.size ∧ AZ.toArray.size = AL.toArray.size by rw [List.size_toArray, List.size_toArray, h, hAZ]; exact ⟨ansSize, rfl⟩)
  have HZO := Lib.hid (fun w : World => show (zeroValue 31).run Try.prog w = .ok (.agg OZ.toArray) w by rw [hOZ]; exact opZero w)
  have HOZ := Lib.hid (show OZ.toArray.size = 53 by rw [hOZ]; rfl)
  obtain ⟨W1, hW1⟩ : ∃ z, z = w.alloc (.cells X0.toArray 31) := ⟨_, rfl⟩
  have hb1 : Below w.heap.size w W1 := by rw [hW1]; exact (Below.refl _ _).alloc (Nat.le_refl _) _
  obtain ⟨g, hg⟩ : ∃ z, z = w.heap.size := ⟨_, rfl⟩
  have hR1 : Arr W1 g 31 X0 := by rw [hW1, hg]; exact Arr.new w _ X0
  have Hs4 := Lib.hid hs4
  have Hs5 := Lib.hid hs5
  have Hs3 := Lib.hid hs3
  have HX0 := Lib.hid hX0
  have HX4 := Lib.hid hX4
  have HX5 := Lib.hid hX5
  have HX3 := Lib.hid hX3
  have Ho := Lib.hid ho
  have HW1 := Lib.hid hW1
  have Hg := Lib.hid hg
  have Hn := Lib.hid hn
  have Hxs := Lib.hid hxs
  rw [← hX0]
  clear hX0 hX4 hX5 hX3 hs4 hs5 hs3 hlen hAZ hOZ hW1 hg ho hn hxs
  go_enter Try.func7, Try.ntmps7
  go_upto_region 1 with fail
  rw [← HW1.out, ← Hg.out]
  clear HW1
  go_wp2_with fail
  refine Calls.mono (speaks15_any W1) ?_
  rintro e w2 ⟨rfl, hb2⟩
  have hR2 := hR1.up hb2
  have hbw2 := hb1.trans (hb2.mono hb1.size)
  clear hR1 hb1 hb2
  obtain ⟨gr, hgr⟩ : ∃ z, great15 xs = z := ⟨_, rfl⟩
  have Hgr := Lib.hid (great15_any xs A n c w2 Hn.out hc hm ((Hxs.out.below hbw2 (Nat.le_refl _)).more hbw2.size))
  rw [hgr] at Hgr
  go_wp2_with fail
  refine Calls.mono Hgr.out ?_
  rintro e w3 ⟨rfl, hb3⟩
  have hR3 := hR2.up hb3
  have hbw3 := hbw2.trans (hb3.mono hbw2.size)
  clear Hgr hR2 hbw2 hb3
  cases gr with
  | true =>
    go_wp2_with fail
    go_ret
    exact ⟨rfl, hbw3⟩
  | false =>
    have hg80 := (great15_no hgr).1
    rw [Hn.out] at hg80
    clear hgr
    obtain ⟨w4, hw4⟩ : ∃ z, z = w3.alloc (.cells X0.toArray 31) := ⟨_, rfl⟩
    have hb4 : Below w3.heap.size w3 w4 := by rw [hw4]; exact (Below.refl _ _).alloc (Nat.le_refl _) _
    have hV4 : Arr w4 w3.heap.size 31 X0 := by rw [hw4]; exact Arr.new w3 _ _
    have hR4 := hR3.up hb4
    have hbw4 := hbw3.trans (hb4.mono hbw3.size)
    have hop : OpsAt w4 w4.heap.size (some ⟨w3.heap.size, 0, none⟩) [o] := by
      refine ⟨fun z hz => ?_, fun _ => ⟨w3.heap.size, 0, rfl, by rw [hw4]; simp, fun i z hz j v hj => ?_⟩⟩
      · rw [List.mem_singleton] at hz; rw [hz]; exact Ho.out
      · rw [Nat.zero_add, hV4.cell]
        rcases i with _ | i
        · simp only [List.getElem?_cons_zero, Option.some.injEq] at hz
          subst hz
          rw [Nat.zero_mul, Nat.zero_add, HX0.out]
          exact hj
        · simp at hz
    obtain ⟨gr, hgr⟩ : ∃ z, great15 [o] = z := ⟨_, rfl⟩
    have Hgr := Lib.hid (great15_any [o] (some ⟨w3.heap.size, 0, none⟩) 1 1 w4 rfl (by omega) (by omega) hop)
    rw [hgr] at Hgr
    have Hw4 := Lib.hid hw4
    clear hw4 hb4 hV4 hop hbw3 hgr
    go_wp2_with (first | ((with_reducible refine wpList_at 17 (by rfl) ?_); refine wpList_load_row_if (by rfl) 31 _ rfl g rfl 31 X0.toArray _ hR3 Try.underlying31 rfl Hi0.out.1 ?_) | (refine wpList_build_op1 (by rfl) _ rfl X0 Hi0.out.2 rfl ?_; rw [← Hw4.out]))
    refine Calls.mono Hgr.out ?_
    rintro e w5 ⟨rfl, hb5⟩
    have hR5 := hR4.up hb5
    have hbw5 := hbw4.trans (hb5.mono hbw4.size)
    clear Hgr Hw4 hR3 hR4 hbw4 hb5
    cases gr with
    | true =>
      go_wp2_with fail
      go_ret
      exact ⟨rfl, hbw5⟩
    | false =>
      go_wp2_with fail
      refine Calls.mono (mnew_any w5) ?_
      rintro e w6 ⟨s, rfl, hs6, hM6, hb6⟩
      obtain ⟨B1, hB1⟩ : ∃ z, z = w5.heap.size := ⟨_, rfl⟩
      have hR6 := hR5.up hb6
      have hgB : g < B1 := by rw [hB1]; exact hR5.lt
      have hwB : w.heap.size ≤ B1 := by rw [hB1]; exact hbw5.size
      have hF6 : ∀ b, newF (fun _ => False) w5 w6 b → B1 ≤ b := fun b h => h.elim (fun h => h.elim) fun h => by rw [hB1]; exact h.1
      obtain ⟨F6, hFe⟩ : ∃ z, z = newF (fun _ => False) w5 w6 := ⟨_, rfl⟩
      rw [← hFe] at hF6 hM6
      rw [← hB1] at hb6
      have HR5 := Lib.hid hR5
      have Hxs5 := Lib.hid (Hxs.out.below hbw5 (Nat.le_refl _))
      have Hbw5 := Lib.hid hbw5
      have HB1 := Lib.hid hB1
      clear hFe hR5 hR6 hbw5 hB1
      go_wp2_with fail
      go_loopw [24] (fun i wr => ∃ (k : Nat) (F : Nat → Prop) (L : List Vol), k ≤ n ∧ i = .int .i64 k ∧ MdL wr F s L ∧ Hid (L.length ≤ k) ∧ Hid (∀ b, F b → B1 ≤ b) ∧ Below B1 w5 wr) (fun i _ => n - (Go.RowKit.intOf i).toNat)
      case atStart => exact ⟨0, F6, [], Nat.zero_le _, rfl, hM6, Nat.le_refl _, Lib.hid hF6, hb6⟩
      case round =>
        clear hM6 hF6 hb6
        obtain ⟨k, F, L, hk, rfl, hM, HL, HF, hbr⟩ := hrel
        by_cases hlt : k < n
        · have hd1 : decide ((k : Int) < (n : Int)) = true := by simp; omega
          obtain ⟨x, hx⟩ : ∃ x, xs[k]? = some x := ⟨xs[k]'(by rw [Hn.out]; exact hlt), List.getElem?_eq_getElem _⟩
          obtain ⟨b, off, rfl, hblk, hrow⟩ := Hxs5.out.2 (by rw [Hn.out]; omega)
          have hxo := Hxs5.out.1 x (List.mem_of_getElem? hx)
          obtain ⟨VL, hVL⟩ : ∃ VL, VL = opC x := ⟨_, rfl⟩
          have hVl : VL.length = 53 := by rw [hVL, opC_length hxo.b48]
          have hrg : wr.rangeAt b (off + k * 53) VL := fun j v hj => by
            rw [hVL] at hj
            rw [← hrow k x hx j v hj]
            exact World.cell?_of_block (hbr.block b (by have := hwB; omega))
          have HVi := Lib.hid (show (Try.prog.info? 31).map (·.size) = some VL.length by rw [hVl]; exact opSize)
          have HVj := Lib.hid (show (Try.prog.info? 31).map (·.size) = some VL.toArray.size by rw [List.size_toArray, hVl]; exact opSize)
          have HV1 := Lib.hid (show VL.toArray.all (·.oneCell') = true by rw [hVL]; exact all_oneCell_toArray (opC_one x))
          have HVz := Lib.hid (show OZ.toArray.size = VL.toArray.size by rw [HOZ.out, List.size_toArray, hVl])
          obtain ⟨wa, hwa⟩ : ∃ W, W = (wr.alloc (.cells OZ.toArray 31)).setRow wr.heap.size VL.toArray := ⟨_, rfl⟩
          obtain ⟨hVa, hbra⟩ := alloc_row wr 31 OZ.toArray VL
          rw [← hwa] at hVa hbra
          have Hwa := Lib.hid hwa
          have HVL := Lib.hid hVL
          have Hx := Lib.hid hx
          have Hxo := Lib.hid hxo
          clear hwa hx hrow hVL hVl hxo
          have hMa := hM.below hbra
          have hba : Below B1 w5 wa := hbr.trans (hbra.mono (by have := hbr.size; rw [HB1.out]; exact this))
          have hBa : B1 ≤ wa.heap.size := by have := hba.size; rw [HB1.out]; exact this
          have HVa := Lib.hid hVa
          clear hM hbra hbr hVa
          go_upto_region 9 with (first | (refine wpList_load_mid rfl _ _ rfl b (off + k * 53) rfl VL _ hrg Try.underlying31 rfl HVi.out ?_) | (refine wpList_allocZC rfl 31 rfl OZ.toArray (HZO.out _) ?_) | (refine wpList_store_row rfl _ _ _ rfl wr.heap.size VL.toArray rfl rfl 31 OZ.toArray (heap_alloc_new wr _) HVj.out HVz.out HV1.out ?_; rw [← Hwa.out]))
          clear hrg
          go_wp2_with (first | ((with_reducible refine wpList_at 29 (by rfl) ?_); refine wpList_load_row rfl 31 _ rfl wr.heap.size rfl 31 VL.toArray (0, 0) _ HVa.out Try.underlying31 rfl HVj.out ?_))
          refine Calls.mono (do_any s x Hxo.out VL HVL.out wa F L hMa (by have := HL.out; omega)) ?_
          rintro e w8 hd
          obtain ⟨A8, rfl, _, hM8, hO8⟩ := do_open hMa hd
          have hb8 : Below B1 w5 w8 := hba.trans (hO8.below hBa HF.out)
          have hF8 : ∀ b, newF F wa w8 b → B1 ≤ b := fun b h => h.elim (HF.out b) fun h => Nat.le_trans hBa h.1
          have hl8 : (doL L x).1.length ≤ k + 1 := by have := doL_length L x; have := HL.out; omega
          obtain ⟨F8, hFe⟩ : ∃ z, z = newF F wa w8 := ⟨_, rfl⟩
          obtain ⟨L8, hLe⟩ : ∃ z, z = (doL L x).1 := ⟨_, rfl⟩
          rw [← hFe] at hM8 hF8
          rw [← hLe] at hM8 hl8
          have HF8 := Lib.hid hF8
          have HL8 := Lib.hid hl8
          clear hFe hLe hF8 hl8 hd hO8 hMa hba
          go_wp2_with fail
          go_roundw
          case rel => exact ⟨k + 1, F8, L8, by omega, by go_num, hM8, HL8, HF8, hb8⟩
          case measure => (simp [Go.RowKit.intOf]; try omega)
        · have hd1 : decide ((k : Int) < (n : Int)) = false := by simp; omega
          have hR := HR5.out.below hbr hgB
          have hbwr : Below w.heap.size w wr := Hbw5.out.trans (hbr.mono hwB)
          have hng : ¬ F g := fun e => by have := HF.out g e; omega
          have hFw : ∀ b, F b → w.heap.size ≤ b := fun b e => Nat.le_trans hwB (HF.out b e)
          have hL80 : L.length ≤ 80 := by have := HL.out; omega
          obtain ⟨kd, hkd⟩ : ∃ z, X0[0]? = some (.int .i64 z) := ⟨_, by rw [HX0.out]; rfl⟩
          have hc0 : wr.cell? ⟨g, 0, none⟩ = some (.int .i64 kd) := by rw [hR.cell]; exact hkd
          have hfz0 : wr.frozen? ⟨g, 0, none⟩ = false := by unfold World.frozen?; rw [show wr.heap[g]? = _ from hR]; rfl
          obtain ⟨w8, hw8⟩ : ∃ z, z = wr.setCell ⟨g, 0, none⟩ (.int .i64 4) := ⟨_, rfl⟩
          have hR8 : Arr w8 g 31 X4 := by have := hR.set 0 (.int .i64 4); rw [Hs4.out] at this; rw [hw8]; exact this
          have hO8 : Only (fun k => k = g) wr w8 := by rw [hw8]; exact (Only.refl (fun k => k = g) wr).setCell (p := ⟨g, 0, none⟩) (.inl rfl) _
          have hM8 := hM.only hO8 (fun b hF e => hng (by rw [← e]; exact hF))
          have hbw : Below w.heap.size w w8 := hbwr.trans (hO8.below hbwr.size (by rintro k rfl; exact Nat.le_of_eq Hg.out.symm))
          have cg := Lib.hid hR8
          have Hw8 := Lib.hid hw8
          clear hR hbwr hM hkd hR8 hO8 hw8 hbr
          go_upto_region 12 with fail
          rw [← Hw8.out]
          clear hc0 hfz0 Hw8
          have ng := hng
          obtain ⟨L1, a4, h4⟩ : ∃ L1 a4, doL L (opK o 4) = (L1, a4) := ⟨_, _, rfl⟩
          have hp1 := Lib.hid (fun h => trims_pure hM8 o h4 h)
          have hl1 : L1.length ≤ 81 := by have := doL_length L (opK o 4); rw [h4] at this; dsimp only at this; omega
          go_wp2_with (first | ((with_reducible refine wpList_at 34 (by rfl) ?_); refine wpList_load_row rfl 31 _ rfl g rfl 31 X4.toArray (0, 0) _ cg.out Try.underlying31 rfl Hi4.out.1 ?_))
          refine Calls.mono (do_any s (opK o 4) (opK_ok Ho.out (by omega)) X4 HX4.out w8 F L hM8 (by omega)) ?_
          rintro e w9 hd
          obtain ⟨A7, rfl, hf7, hMx, hOx⟩ := do_open hM8 hd
          rw [h4] at hf7 hMx
          dsimp only at hf7 hMx
          have hbx : Below w.heap.size w w9 := hbw.trans (hOx.below hbw.size hFw)
          have hFx : ∀ b, newF F w8 w9 b → w.heap.size ≤ b := fun b h => h.elim (hFw b) fun h => by have := hbw.size; omega
          have hlcg := cg.out.lt
          have hXcg := Lib.hid (only_arr cg.out hOx ng)
          have hYcg := newF_not ng hlcg (w' := w9)
          have hlx := hMx.lt
          obtain ⟨F7, hFe⟩ : ∃ z, z = newF F w8 w9 := ⟨_, rfl⟩
          rw [← hFe] at hFx hMx hlx hYcg
          clear hFe hd hOx hFw hbw hM8
          clear cg ng hlcg
          have cg := hXcg
          have ng := hYcg
          clear hXcg hYcg
          have hFw := hFx
          have hbw := hbx
          have hf7 := Lib.hid hf7
          have hM7 := hMx
          clear hMx hbx hFx hlx
          have hfl := ans_f0 hf7.out
          obtain ⟨k4, hk4⟩ : ∃ z, z = a4.k := ⟨_, rfl⟩
          rw [← hk4] at hfl
          by_cases hz : k4 = 0
          · have hkn : (k4 != 0) = false := by simpa using hz
            obtain ⟨hq5, hq3⟩ := hp1.out (by rw [← hk4]; exact hz)
            have HOi := Lib.hid (show OZ.toArray.size = X4.toArray.size by rw [HOZ.out, List.size_toArray, Hi4.out.2])
            obtain ⟨r, hr⟩ : ∃ z, z = w9.heap.size := ⟨_, rfl⟩
            have Hr := Lib.hid hr
            have hlx := hM7.lt
            have nr : ¬ F7 r := fun e => by have := hlx _ e; omega
            have hgr : g ≠ r := by have := cg.out.lt; omega
            have hc7 := Lib.hid hM7
            clear hr hlx hM7
            go_upto_region 15 with (first | ((with_reducible refine wpList_at 38 (by rfl) ?_); refine wpList_load_row rfl 31 _ rfl g rfl 31 X4.toArray (0, 0) _ cg.out Try.underlying31 rfl Hi4.out.1 ?_) | (refine wpList_allocZC rfl 31 rfl OZ.toArray (HZO.out _) ?_) | (change wpList _ _ _ _ _ (w9.alloc (.cells OZ.toArray 31)); refine wpList_store_row rfl _ _ _ rfl w9.heap.size X4.toArray rfl rfl 31 OZ.toArray (heap_alloc_new w9 _) (And.intro Hi4.out.1 HOi.out).1 (And.intro Hi4.out.1 HOi.out).2 H41.out ?_; obtain ⟨w10, hw10⟩ : ∃ x, x = (w9.alloc (.cells OZ.toArray 31)).setRow w9.heap.size X4.toArray := ⟨_, rfl⟩; rw [← hw10]; obtain ⟨hP10, hb10⟩ := alloc_row w9 31 OZ.toArray X4; rw [← hw10] at hP10 hb10; clear hw10))
            rw [← Hr.out] at hP10 ⊢
            clear hfl
            have hg10 := cg.out.up hb10
            have hM10 := hc7.out.below hb10
            have hbz := hbw.trans (hb10.mono hbw.size)
            have hc0 : w10.cell? ⟨r, 0, none⟩ = some (.int .i64 4) := by rw [hP10.cell, HX4.out]; rfl
            have hfz0 : w10.frozen? ⟨r, 0, none⟩ = false := by unfold World.frozen?; rw [show w10.heap[r]? = _ from hP10]; rfl
            obtain ⟨w11, hw11⟩ : ∃ z, z = w10.setCell ⟨r, 0, none⟩ (.int .i64 5) := ⟨_, rfl⟩
            have hR11 : Arr w11 r 31 X5 := by have := hP10.set 0 (.int .i64 5); rw [Hs5.out] at this; rw [hw11]; exact this
            have hO11 : Only (fun k => k = r) w10 w11 := by rw [hw11]; exact (Only.refl (fun k => k = r) w10).setCell (p := ⟨r, 0, none⟩) (.inl rfl) _
            have hM11 := hM10.only hO11 (fun b hF e => nr (by rw [← e]; exact hF))
            have hrw : w.heap.size ≤ r := by rw [Hr.out]; exact hbw.size
            have hb11 : Below w.heap.size w w11 := hbz.trans (hO11.below hbz.size (by rintro k rfl; exact hrw))
            have cgx := Lib.hid ((hO11.block g hg10.lt hgr).trans hg10)
            have cr := Lib.hid hR11
            have Hw11 := Lib.hid hw11
            clear hP10 hb10 hg10 hM10 hbz hbw hc7 cg hR11 hO11 hw11
            have cg : Hid (Arr w11 g 31 X4) := cgx
            have hbw := hb11
            clear cgx hb11
            go_upto_region 16 with fail
            rw [← Hw11.out]
            clear hc0 hfz0 Hw11
            go_wp2_with (first | ((with_reducible refine wpList_at 41 (by rfl) ?_); refine wpList_load_row rfl 31 _ rfl r rfl 31 X5.toArray (0, 0) _ cr.out Try.underlying31 rfl Hi5.out.1 ?_))
            refine Calls.mono (do_any s (opK o 5) (opK_ok Ho.out (by omega)) X5 HX5.out w11 F7 L1 hM11 (by omega)) ?_
            rintro e w12 hd
            obtain ⟨A8, rfl, hf8, hMx, hOx⟩ := do_open hM11 hd
            rw [hq5] at hf8 hMx
            dsimp only at hf8 hMx
            have hbx : Below w.heap.size w w12 := hbw.trans (hOx.below hbw.size hFw)
            have hFx : ∀ b, newF F7 w11 w12 b → w.heap.size ≤ b := fun b h => h.elim (hFw b) fun h => by have := hbw.size; omega
            have hlcg := cg.out.lt
            have hXcg := Lib.hid (only_arr cg.out hOx ng)
            have hYcg := newF_not ng hlcg (w' := w12)
            have hlcr := cr.out.lt
            have hXcr := Lib.hid (only_arr cr.out hOx nr)
            have hYcr := newF_not nr hlcr (w' := w12)
            have hlx := hMx.lt
            obtain ⟨F8, hFe⟩ : ∃ z, z = newF F7 w11 w12 := ⟨_, rfl⟩
            rw [← hFe] at hFx hMx hlx hYcg hYcr
            clear hFe hd hOx hFw hbw hM11
            clear cg ng hlcg
            have cg := hXcg
            have ng := hYcg
            clear hXcg hYcg
            clear cr nr hlcr
            have cr := hXcr
            have nr := hYcr
            clear hXcr hYcr
            have hFw := hFx
            have hbw := hbx
            have hf8 := Lib.hid hf8
            obtain ⟨ga8, hga⟩ : ∃ z, z = w12.heap.size := ⟨_, rfl⟩
            have Hga := Lib.hid hga
            have na8 : ¬ F8 ga8 := fun e => by have := hlx _ e; omega
            have hAi := Lib.hid (HAi.out A8 hf8.out.len)
            have hOne := Lib.hid hf8.out.one
            clear hga hlx
            go_upto_region 17 with (first | (refine wpList_allocZC rfl 35 rfl AZ.toArray (HZA.out _) ?_) | (change wpList _ _ _ _ _ (w12.alloc (.cells AZ.toArray 35)); refine wpList_store_row rfl _ _ _ rfl w12.heap.size A8.toArray rfl rfl 35 AZ.toArray (heap_alloc_new w12 _) hAi.out.1 hAi.out.2 hOne.out ?_; obtain ⟨w13, hw13⟩ : ∃ x, x = (w12.alloc (.cells AZ.toArray 35)).setRow w12.heap.size A8.toArray := ⟨_, rfl⟩; rw [← hw13]; obtain ⟨hPx, hby⟩ := alloc_row w12 35 AZ.toArray A8; rw [← hw13] at hPx hby; clear hw13))
            rw [← Hga.out] at hPx ⊢
            have ca8 := Lib.hid hPx
            have hXcg := Lib.hid (cg.out.up hby)
            clear cg
            have cg := hXcg
            clear hXcg
            have hXcr := Lib.hid (cr.out.up hby)
            clear cr
            have cr := hXcr
            clear hXcr
            have hM8 := hMx.below hby
            have hbz := hbw.trans (hby.mono hbw.size)
            clear hbw
            have hbw := hbz
            clear hAi hOne hPx hby hbx hMx hFx hbz Hga
            have ha0 : w13.cell? ⟨ga8, 0, none⟩ = some (.int .i64 0) := by rw [ca8.out.cell, hf8.out.c0]
            have ha1 : w13.cell? ⟨ga8, 1, none⟩ = some (.bool false) := by rw [ca8.out.cell, hf8.out.c1]
            obtain ⟨ZB, hZB⟩ : ∃ z, z = Lib.byteCells zB := ⟨_, rfl⟩
            have ha2 : w13.rangeAt ga8 2 ZB := fun j v hj => by rw [hZB] at hj; rw [ca8.out.cell]; exact hf8.out.c2 j v hj
            have HZn := Lib.hid (show (Try.prog.info? 29).map (·.size) = some ZB.length by rw [hZB]; exact blkSize)
            have Hzq := Lib.hid (fun w : World => show (Op.equalIn 10000 29 (.agg ZB.toArray) (.agg (Lib.byteCells zB).toArray)).run Try.prog w = .ok true w by have := eqv_at Try.underlying29 zB zB rfl rfl ZB (Lib.byteCells zB) hZB rfl w; simpa using this)
            have hq0 : ((0 : Int) != 0) = false := by simp
            clear hZB
            go_upto_region 19 with (first | ((with_reducible refine wpList_at 52 (by rfl) ?_); refine wpList_load_mid_ifC (by rfl) 29 _ rfl ga8 2 rfl ZB _ ha2 Try.underlying29 rfl HZn.out ?_) | ((with_reducible refine wpList_at 54 (by rfl) ?_); refine wpList_neq_ifC (by rfl) 29 _ _ _ rfl ZB (Lib.byteCells zB) rfl (by rfl) true Hzq.out gtB ?_))
            clear ha0 ha1 ha2 hq0
            have hg13 := cg.out
            have hc0 : w13.cell? ⟨g, 0, none⟩ = some (.int .i64 4) := by rw [hg13.cell, HX4.out]; rfl
            have hfz0 : w13.frozen? ⟨g, 0, none⟩ = false := by unfold World.frozen?; rw [show w13.heap[g]? = _ from hg13]; rfl
            obtain ⟨w14, hw14⟩ : ∃ z, z = w13.setCell ⟨g, 0, none⟩ (.int .i64 3) := ⟨_, rfl⟩
            have hR14 : Arr w14 g 31 X3 := by have := hg13.set 0 (.int .i64 3); rw [Hs3.out] at this; rw [hw14]; exact this
            have hO14 : Only (fun k => k = g) w13 w14 := by rw [hw14]; exact (Only.refl (fun k => k = g) w13).setCell (p := ⟨g, 0, none⟩) (.inl rfl) _
            have hM14 := hM8.only hO14 (fun b hF e => ng (by rw [← e]; exact hF))
            have hb14 : Below w.heap.size w w14 := hbw.trans (hO14.below hbw.size (by rintro k rfl; exact Nat.le_of_eq Hg.out.symm))
            have crx := Lib.hid ((hO14.block r cr.out.lt (fun e => hgr e.symm)).trans cr.out)
            have Hw14 := Lib.hid hw14
            clear hg13 hbw cg cr hO14 hw14 ca8 na8 hf8 hM8
            have cg := Lib.hid hR14
            have cr : Hid (Arr w14 r 31 X5) := crx
            have hbw := hb14
            clear crx hb14 hR14
            go_upto_region 20 with fail
            rw [← Hw14.out]
            clear hc0 hfz0 Hw14
            rcases hq3 with h3 | ⟨L2, h3, h5⟩
            · go_wp2_with (first | ((with_reducible refine wpList_at 58 (by rfl) ?_); refine wpList_load_row rfl 31 _ rfl g rfl 31 X3.toArray (0, 0) _ cg.out Try.underlying31 rfl Hi3.out.1 ?_))
              refine Calls.mono (do_any s (opK o 3) (opK_ok Ho.out (by omega)) X3 HX3.out w14 F8 L1 hM14 (by omega)) ?_
              rintro e w15 hd
              obtain ⟨A9, rfl, hf9, hMx, hOx⟩ := do_open hM14 hd
              rw [h3] at hf9 hMx
              dsimp only at hf9 hMx
              have hbx : Below w.heap.size w w15 := hbw.trans (hOx.below hbw.size hFw)
              have hFx : ∀ b, newF F8 w14 w15 b → w.heap.size ≤ b := fun b h => h.elim (hFw b) fun h => by have := hbw.size; omega
              have hlcg := cg.out.lt
              have hXcg := Lib.hid (only_arr cg.out hOx ng)
              have hYcg := newF_not ng hlcg (w' := w15)
              have hlcr := cr.out.lt
              have hXcr := Lib.hid (only_arr cr.out hOx nr)
              have hYcr := newF_not nr hlcr (w' := w15)
              have hlx := hMx.lt
              obtain ⟨F9, hFe⟩ : ∃ z, z = newF F8 w14 w15 := ⟨_, rfl⟩
              rw [← hFe] at hFx hMx hlx hYcg hYcr
              clear hFe hd hOx hFw hbw hM14
              clear cg ng hlcg
              have cg := hXcg
              have ng := hYcg
              clear hXcg hYcg
              clear cr nr hlcr
              have cr := hXcr
              have nr := hYcr
              clear hXcr hYcr
              have hFw := hFx
              have hbw := hbx
              have hf9 := Lib.hid hf9
              obtain ⟨ga9, hga⟩ : ∃ z, z = w15.heap.size := ⟨_, rfl⟩
              have Hga := Lib.hid hga
              have na9 : ¬ F9 ga9 := fun e => by have := hlx _ e; omega
              have hAi := Lib.hid (HAi.out A9 hf9.out.len)
              have hOne := Lib.hid hf9.out.one
              clear hga hlx
              go_upto_region 21 with (first | (refine wpList_allocZC rfl 35 rfl AZ.toArray (HZA.out _) ?_) | (change wpList _ _ _ _ _ (w15.alloc (.cells AZ.toArray 35)); refine wpList_store_row rfl _ _ _ rfl w15.heap.size A9.toArray rfl rfl 35 AZ.toArray (heap_alloc_new w15 _) hAi.out.1 hAi.out.2 hOne.out ?_; obtain ⟨w16, hw16⟩ : ∃ x, x = (w15.alloc (.cells AZ.toArray 35)).setRow w15.heap.size A9.toArray := ⟨_, rfl⟩; rw [← hw16]; obtain ⟨hPx, hby⟩ := alloc_row w15 35 AZ.toArray A9; rw [← hw16] at hPx hby; clear hw16))
              rw [← Hga.out] at hPx ⊢
              have ca9 := Lib.hid hPx
              have hXcg := Lib.hid (cg.out.up hby)
              clear cg
              have cg := hXcg
              clear hXcg
              have hXcr := Lib.hid (cr.out.up hby)
              clear cr
              have cr := hXcr
              clear hXcr
              have hM9 := hMx.below hby
              have hbz := hbw.trans (hby.mono hbw.size)
              clear hbw
              have hbw := hbz
              clear hAi hOne hPx hby hbx hMx hFx hbz Hga
              go_wp2_with (first | ((with_reducible refine wpList_at 61 (by rfl) ?_); refine wpList_load_row rfl 31 _ rfl r rfl 31 X5.toArray (0, 0) _ cr.out Try.underlying31 rfl Hi5.out.1 ?_))
              refine Calls.mono (do_any s (opK o 5) (opK_ok Ho.out (by omega)) X5 HX5.out w16 F9 L1 hM9 (by omega)) ?_
              rintro e w17 hd
              obtain ⟨A10, rfl, hf10, hMx, hOx⟩ := do_open hM9 hd
              rw [hq5] at hf10 hMx
              dsimp only at hf10 hMx
              have hbx : Below w.heap.size w w17 := hbw.trans (hOx.below hbw.size hFw)
              have hFx : ∀ b, newF F9 w16 w17 b → w.heap.size ≤ b := fun b h => h.elim (hFw b) fun h => by have := hbw.size; omega
              have hlcg := cg.out.lt
              have hXcg := Lib.hid (only_arr cg.out hOx ng)
              have hYcg := newF_not ng hlcg (w' := w17)
              have hlcr := cr.out.lt
              have hXcr := Lib.hid (only_arr cr.out hOx nr)
              have hYcr := newF_not nr hlcr (w' := w17)
              have hlca9 := ca9.out.lt
              have hXca9 := Lib.hid (only_arr ca9.out hOx na9)
              have hYca9 := newF_not na9 hlca9 (w' := w17)
              have hlx := hMx.lt
              obtain ⟨F10, hFe⟩ : ∃ z, z = newF F9 w16 w17 := ⟨_, rfl⟩
              rw [← hFe] at hFx hMx hlx hYcg hYcr hYca9
              clear hFe hd hOx hFw hbw hM9
              clear cg ng hlcg
              have cg := hXcg
              have ng := hYcg
              clear hXcg hYcg
              clear cr nr hlcr
              have cr := hXcr
              have nr := hYcr
              clear hXcr hYcr
              clear ca9 na9 hlca9
              have ca9 := hXca9
              have na9 := hYca9
              clear hXca9 hYca9
              have hFw := hFx
              have hbw := hbx
              have hf10 := Lib.hid hf10
              obtain ⟨ga10, hga⟩ : ∃ z, z = w17.heap.size := ⟨_, rfl⟩
              have Hga := Lib.hid hga
              have na10 : ¬ F10 ga10 := fun e => by have := hlx _ e; omega
              have hAi := Lib.hid (HAi.out A10 hf10.out.len)
              have hOne := Lib.hid hf10.out.one
              clear hga hlx
              go_upto_region 22 with (first | (refine wpList_allocZC rfl 35 rfl AZ.toArray (HZA.out _) ?_) | (change wpList _ _ _ _ _ (w17.alloc (.cells AZ.toArray 35)); refine wpList_store_row rfl _ _ _ rfl w17.heap.size A10.toArray rfl rfl 35 AZ.toArray (heap_alloc_new w17 _) hAi.out.1 hAi.out.2 hOne.out ?_; obtain ⟨w18, hw18⟩ : ∃ x, x = (w17.alloc (.cells AZ.toArray 35)).setRow w17.heap.size A10.toArray := ⟨_, rfl⟩; rw [← hw18]; obtain ⟨hPx, hby⟩ := alloc_row w17 35 AZ.toArray A10; rw [← hw18] at hPx hby; clear hw18))
              rw [← Hga.out] at hPx ⊢
              have ca10 := Lib.hid hPx
              have hXcg := Lib.hid (cg.out.up hby)
              clear cg
              have cg := hXcg
              clear hXcg
              have hXcr := Lib.hid (cr.out.up hby)
              clear cr
              have cr := hXcr
              clear hXcr
              have hXca9 := Lib.hid (ca9.out.up hby)
              clear ca9
              have ca9 := hXca9
              clear hXca9
              have hM10 := hMx.below hby
              have hbz := hbw.trans (hby.mono hbw.size)
              clear hbw
              have hbw := hbz
              clear hAi hOne hPx hby hbx hMx hFx hbz Hga
              have ha0 : w18.cell? ⟨ga9, 0, none⟩ = some (.int .i64 8) := by rw [ca9.out.cell, hf9.out.c0]; rfl
              have ha1 : w18.cell? ⟨ga10, 1, none⟩ = some (.bool false) := by rw [ca10.out.cell, hf10.out.c1]
              have hd8 : decide ((8 : Int) = 8) = true := by simp
              go_wp2_with fail
              go_ret
              exact ⟨rfl, hbw⟩
            · have hl2 : L2.length ≤ 82 := by have := doL_length L1 (opK o 3); rw [h3] at this; dsimp only at this; omega
              go_wp2_with (first | ((with_reducible refine wpList_at 58 (by rfl) ?_); refine wpList_load_row rfl 31 _ rfl g rfl 31 X3.toArray (0, 0) _ cg.out Try.underlying31 rfl Hi3.out.1 ?_))
              refine Calls.mono (do_any s (opK o 3) (opK_ok Ho.out (by omega)) X3 HX3.out w14 F8 L1 hM14 (by omega)) ?_
              rintro e w15 hd
              obtain ⟨A9, rfl, hf9, hMx, hOx⟩ := do_open hM14 hd
              rw [h3] at hf9 hMx
              dsimp only at hf9 hMx
              have hbx : Below w.heap.size w w15 := hbw.trans (hOx.below hbw.size hFw)
              have hFx : ∀ b, newF F8 w14 w15 b → w.heap.size ≤ b := fun b h => h.elim (hFw b) fun h => by have := hbw.size; omega
              have hlcg := cg.out.lt
              have hXcg := Lib.hid (only_arr cg.out hOx ng)
              have hYcg := newF_not ng hlcg (w' := w15)
              have hlcr := cr.out.lt
              have hXcr := Lib.hid (only_arr cr.out hOx nr)
              have hYcr := newF_not nr hlcr (w' := w15)
              have hlx := hMx.lt
              obtain ⟨F9, hFe⟩ : ∃ z, z = newF F8 w14 w15 := ⟨_, rfl⟩
              rw [← hFe] at hFx hMx hlx hYcg hYcr
              clear hFe hd hOx hFw hbw hM14
              clear cg ng hlcg
              have cg := hXcg
              have ng := hYcg
              clear hXcg hYcg
              clear cr nr hlcr
              have cr := hXcr
              have nr := hYcr
              clear hXcr hYcr
              have hFw := hFx
              have hbw := hbx
              have hf9 := Lib.hid hf9
              obtain ⟨ga9, hga⟩ : ∃ z, z = w15.heap.size := ⟨_, rfl⟩
              have Hga := Lib.hid hga
              have na9 : ¬ F9 ga9 := fun e => by have := hlx _ e; omega
              have hAi := Lib.hid (HAi.out A9 hf9.out.len)
              have hOne := Lib.hid hf9.out.one
              clear hga hlx
              go_upto_region 21 with (first | (refine wpList_allocZC rfl 35 rfl AZ.toArray (HZA.out _) ?_) | (change wpList _ _ _ _ _ (w15.alloc (.cells AZ.toArray 35)); refine wpList_store_row rfl _ _ _ rfl w15.heap.size A9.toArray rfl rfl 35 AZ.toArray (heap_alloc_new w15 _) hAi.out.1 hAi.out.2 hOne.out ?_; obtain ⟨w16, hw16⟩ : ∃ x, x = (w15.alloc (.cells AZ.toArray 35)).setRow w15.heap.size A9.toArray := ⟨_, rfl⟩; rw [← hw16]; obtain ⟨hPx, hby⟩ := alloc_row w15 35 AZ.toArray A9; rw [← hw16] at hPx hby; clear hw16))
              rw [← Hga.out] at hPx ⊢
              have ca9 := Lib.hid hPx
              have hXcg := Lib.hid (cg.out.up hby)
              clear cg
              have cg := hXcg
              clear hXcg
              have hXcr := Lib.hid (cr.out.up hby)
              clear cr
              have cr := hXcr
              clear hXcr
              have hM9 := hMx.below hby
              have hbz := hbw.trans (hby.mono hbw.size)
              clear hbw
              have hbw := hbz
              clear hAi hOne hPx hby hbx hMx hFx hbz Hga
              go_wp2_with (first | ((with_reducible refine wpList_at 61 (by rfl) ?_); refine wpList_load_row rfl 31 _ rfl r rfl 31 X5.toArray (0, 0) _ cr.out Try.underlying31 rfl Hi5.out.1 ?_))
              refine Calls.mono (do_any s (opK o 5) (opK_ok Ho.out (by omega)) X5 HX5.out w16 F9 L2 hM9 (by omega)) ?_
              rintro e w17 hd
              obtain ⟨A10, rfl, hf10, hMx, hOx⟩ := do_open hM9 hd
              rw [h5] at hf10 hMx
              dsimp only at hf10 hMx
              have hbx : Below w.heap.size w w17 := hbw.trans (hOx.below hbw.size hFw)
              have hFx : ∀ b, newF F9 w16 w17 b → w.heap.size ≤ b := fun b h => h.elim (hFw b) fun h => by have := hbw.size; omega
              have hlcg := cg.out.lt
              have hXcg := Lib.hid (only_arr cg.out hOx ng)
              have hYcg := newF_not ng hlcg (w' := w17)
              have hlcr := cr.out.lt
              have hXcr := Lib.hid (only_arr cr.out hOx nr)
              have hYcr := newF_not nr hlcr (w' := w17)
              have hlca9 := ca9.out.lt
              have hXca9 := Lib.hid (only_arr ca9.out hOx na9)
              have hYca9 := newF_not na9 hlca9 (w' := w17)
              have hlx := hMx.lt
              obtain ⟨F10, hFe⟩ : ∃ z, z = newF F9 w16 w17 := ⟨_, rfl⟩
              rw [← hFe] at hFx hMx hlx hYcg hYcr hYca9
              clear hFe hd hOx hFw hbw hM9
              clear cg ng hlcg
              have cg := hXcg
              have ng := hYcg
              clear hXcg hYcg
              clear cr nr hlcr
              have cr := hXcr
              have nr := hYcr
              clear hXcr hYcr
              clear ca9 na9 hlca9
              have ca9 := hXca9
              have na9 := hYca9
              clear hXca9 hYca9
              have hFw := hFx
              have hbw := hbx
              have hf10 := Lib.hid hf10
              obtain ⟨ga10, hga⟩ : ∃ z, z = w17.heap.size := ⟨_, rfl⟩
              have Hga := Lib.hid hga
              have na10 : ¬ F10 ga10 := fun e => by have := hlx _ e; omega
              have hAi := Lib.hid (HAi.out A10 hf10.out.len)
              have hOne := Lib.hid hf10.out.one
              clear hga hlx
              go_upto_region 22 with (first | (refine wpList_allocZC rfl 35 rfl AZ.toArray (HZA.out _) ?_) | (change wpList _ _ _ _ _ (w17.alloc (.cells AZ.toArray 35)); refine wpList_store_row rfl _ _ _ rfl w17.heap.size A10.toArray rfl rfl 35 AZ.toArray (heap_alloc_new w17 _) hAi.out.1 hAi.out.2 hOne.out ?_; obtain ⟨w18, hw18⟩ : ∃ x, x = (w17.alloc (.cells AZ.toArray 35)).setRow w17.heap.size A10.toArray := ⟨_, rfl⟩; rw [← hw18]; obtain ⟨hPx, hby⟩ := alloc_row w17 35 AZ.toArray A10; rw [← hw18] at hPx hby; clear hw18))
              rw [← Hga.out] at hPx ⊢
              have ca10 := Lib.hid hPx
              have hXcg := Lib.hid (cg.out.up hby)
              clear cg
              have cg := hXcg
              clear hXcg
              have hXcr := Lib.hid (cr.out.up hby)
              clear cr
              have cr := hXcr
              clear hXcr
              have hXca9 := Lib.hid (ca9.out.up hby)
              clear ca9
              have ca9 := hXca9
              clear hXca9
              have hM10 := hMx.below hby
              have hbz := hbw.trans (hby.mono hbw.size)
              clear hbw
              have hbw := hbz
              clear hAi hOne hPx hby hbx hMx hFx hbz Hga
              have ha0 : w18.cell? ⟨ga9, 0, none⟩ = some (.int .i64 0) := by rw [ca9.out.cell, hf9.out.c0]; rfl
              have ha1 : w18.cell? ⟨ga10, 1, none⟩ = some (.bool true) := by rw [ca10.out.cell, hf10.out.c1]
              obtain ⟨BX, hBX⟩ : ∃ z, z = Lib.byteCells o.blk := ⟨_, rfl⟩
              have ha2 : w18.rangeAt ga10 2 BX := fun j v hj => by rw [hBX] at hj; rw [ca10.out.cell]; exact hf10.out.c2 j v hj
              have ha3 : w18.rangeAt g 5 BX := fun j v hj => by rw [hBX] at hj; rw [cg.out.cell, HX3.out]; exact opC_blkT (o := opK o 3) j v hj
              have HBn := Lib.hid (show (Try.prog.info? 29).map (·.size) = some BX.length by rw [hBX, Lib.byteCells_length, Ho.out.b48]; exact blkSize)
              have Hbq := Lib.hid (fun w : World => show (Op.equalIn 10000 29 (.agg BX.toArray) (.agg BX.toArray)).run Try.prog w = .ok true w by have := eqv_at Try.underlying29 o.blk o.blk Ho.out.b48 Ho.out.b48 BX BX hBX hBX w; simpa using this)
              have hd8 : decide ((0 : Int) = 8) = false := by simp
              have hd0 : decide ((0 : Int) = 0) = true := by simp
              clear hBX
              go_wp2_with (first | ((with_reducible refine wpList_at 81 (by rfl) ?_); refine wpList_load_mid_ifC (by rfl) 29 _ rfl ga10 2 rfl BX _ ha2 Try.underlying29 rfl HBn.out ?_) | ((with_reducible refine wpList_at 83 (by rfl) ?_); refine wpList_load_mid_ifC (by rfl) 29 _ rfl g 5 rfl BX _ ha3 Try.underlying29 rfl HBn.out ?_) | ((with_reducible refine wpList_at 84 (by rfl) ?_); refine wpList_eql_ifC (by rfl) 29 _ _ _ rfl BX BX rfl rfl true Hbq.out gtB ?_))
              go_ret
              exact ⟨rfl, hbw⟩
          · have hkn : (k4 != 0) = true := by simpa using hz
            go_wp2_with fail
            go_ret
            exact ⟨rfl, hbw⟩

end Go.Proofs.Ytmjnnjlkdnakmaa

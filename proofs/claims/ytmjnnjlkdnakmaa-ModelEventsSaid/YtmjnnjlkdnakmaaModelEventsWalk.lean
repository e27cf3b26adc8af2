/-
  The law ModelEvents.
-/
import Derived.Test.YtmjnnjlkdnakmaaModEvMath
import Derived.Test.YtmjnnjlkdnakmaaModSpeaks
import Derived.Test.YtmjnnjlkdnakmaaModArg
import Derived.Test.YtmjnnjlkdnakmaaSame
namespace Go.Proofs.Ytmjnnjlkdnakmaa
open Go.RowKit
set_option linter.unusedVariables false
set_option linter.unusedSimpArgs false

theorem opAll : (Try.prog.info? 31).map (fun i => (i.zero, i.size, i.bytes)) = some (some (.agg opZ.toArray), 53, 104) := by kernel_rfl
theorem fill_two (A B : List Value) (hA : A.length = 53) (hB : B.length = 53) (cells : Array Value) (hc : cells.size = 106) : Instr.fill (fun i => some (i * 53, 53)) cells [(0, .agg A.toArray), (1, .agg B.toArray)] = some (A ++ B).toArray := by
  have h1 := fill_midV (fun i => some (i * 53, 53)) cells 0 0 A (by rw [hA]) (by omega)
  rw [fill_consV _ _ _ _ _ h1]
  obtain ⟨X, hX⟩ : ∃ X, cells.toList.drop (0 + A.length) = X := ⟨_, rfl⟩
  have hXl : X.length = 53 := by rw [← hX, List.length_drop, Array.length_toList]; omega
  rw [hX, List.take_zero, List.nil_append]
  have h2 := fill_midV (fun i => some (i * 53, 53)) (A ++ X).toArray 1 53 B (by rw [hB]) (by rw [List.size_toArray, List.length_append]; omega)
  rw [h2]
  congr 2
  have e1 : (A ++ X).toArray.toList.take 53 = A := by
    show (A ++ X).take 53 = A
    rw [← hA, List.take_left]
  have e2 : (A ++ X).toArray.toList.drop (53 + B.length) = [] := List.drop_eq_nil_of_le (by show (A ++ X).length ≤ _; rw [List.length_append]; omega)
  rw [e1, e2, List.append_nil]

/-- '[]api.Sector{a, b}'. -/
theorem wpList_build_two15 {ops : Array Oper} {rest : List Oper} {o : Oper} {a : Act} {w : World} {Q : Exit → Act → World → Prop} (hg : o.guard = none) (x y : Operand) (ho : o.op = .buildSlice 22 2 #[(0, x), (1, y)]) (A B : List Value) (hA : A.length = 53) (hB : B.length = 53) (hx : a.eval x = .agg A.toArray) (hy : a.eval y = .agg B.toArray)
    (h : wpList Try.prog ops Q rest (a.put o.dst (.slice (some ⟨w.heap.size, 0, none⟩) 2 2)) (w.alloc (.cells (A ++ B).toArray 31))) : wpList Try.prog ops Q (o :: rest) a w :=
  wpList_plain hg fun _ hK => by
    obtain ⟨i0, hi, hz0, hz1, hz2⟩ := info_partsV opAll
    refine wp_buildSlice 22 31 2 #[(0, x), (1, y)] ho (A ++ B).toArray i0 _ Try.underlying22 hi hz0 (by rw [hz1]; decide) (by rw [hz1]; decide) ?_ (hK _ _ h)
    rw [hz1]
    simp only [List.map_toArray, List.map_cons, List.map_nil, hx, hy]
    exact fill_two A B hA hB _ (by simp)
theorem ba_toList (b : ByteArray) : b.toList = b.data.toList := by
  have h : ∀ (n i : Nat) (r : List UInt8), b.size - i = n → ByteArray.toList.loop b i r = r.reverse ++ b.data.toList.drop i := by
    intro n
    induction n with
    | zero =>
      intro i r hi
      have hz : b.data.toList.length = b.size := Array.length_toList
      rw [ByteArray.toList.loop, if_neg (by omega), List.drop_of_length_le (by omega), List.append_nil]
    | succ n ih =>
      intro i r hi
      have hz : b.data.toList.length = b.size := Array.length_toList
      rw [ByteArray.toList.loop, if_pos (by omega), ih (i + 1) _ (by omega), List.reverse_cons, List.append_assoc, List.drop_eq_getElem_cons (i := i) (by omega)]
      congr 1
      show [b.get! i] ++ _ = _
      rw [List.singleton_append]
      congr 1
      have hi' : i < b.data.size := by have : b.data.size = b.size := rfl; omega
      show b.data[i]! = _
      rw [getElem!_pos b.data i hi']
      simp
  have := h _ 0 [] rfl
  simpa [ByteArray.toList] using this

theorem ba_eq {a b : ByteArray} (h : a = b) : (a.toList == b.toList) = true := by rw [h]; simp

theorem ba_ne {a b : ByteArray} (h : a ≠ b) : (a.toList == b.toList) = false := by
  rw [beq_eq_false_iff_ne]
  intro e
  rw [ba_toList, ba_toList] at e
  exact h (ba_ext e)

theorem opC_blk {o : Op15} (j : Nat) (v : Value) (hj : (Lib.byteCells o.blk)[j]? = some v) : (opC o)[5 + j]? = some v := by
  unfold opC
  rw [List.getElem?_append_right (by simp)]
  simpa using hj
set_option maxHeartbeats 16000000 in
set_option maxRecDepth 100000 in
theorem mevents_walk (x y : Op15) (w : World) (hx : OpOk x) (hy : OpOk y) :
    Calls Try.prog 6 #[.agg (opC x).toArray, .agg (opC y).toArray] w fun e w' => e = .returned (.bool true) ∧ Below w.heap.size w w' := by
  obtain ⟨XL, hXL⟩ : ∃ z, z = opC x := ⟨_, rfl⟩
  obtain ⟨YL, hYL⟩ : ∃ z, z = opC y := ⟨_, rfl⟩
  rw [← hXL, ← hYL]
  obtain ⟨W1, hW1⟩ : ∃ z, z = (w.alloc (.cells XL.toArray 31)).alloc (.cells YL.toArray 31) := ⟨_, rfl⟩
  have hbA : Below w.heap.size w (w.alloc (.cells XL.toArray 31)) := (Below.refl _ _).alloc (Nat.le_refl _) _
  have hb1 : Below w.heap.size w W1 := by rw [hW1]; exact hbA.alloc hbA.size _
  obtain ⟨g, hg⟩ : ∃ z, z = w.heap.size := ⟨_, rfl⟩
  have hX1 : Arr W1 g 31 XL := by rw [hW1, hg]; exact (Arr.new w _ XL).up ((Below.refl _ _).alloc (Nat.le_refl _) _)
  have hY1 : Arr W1 (g + 1) 31 YL := by rw [hW1, hg]; have := Arr.new (w.alloc (.cells XL.toArray 31)) 31 YL; simpa using this
  have HXi := Lib.hid (show (Try.prog.info? 31).map (·.size) = some XL.toArray.size by rw [List.size_toArray, hXL, opC_length hx.b48]; exact opSize)
  have HYi := Lib.hid (show (Try.prog.info? 31).map (·.size) = some YL.toArray.size by rw [List.size_toArray, hYL, opC_length hy.b48]; exact opSize)
  have HXl := Lib.hid (show XL.length = 53 by rw [hXL, opC_length hx.b48])
  have HYl := Lib.hid (show YL.length = 53 by rw [hYL, opC_length hy.b48])
  have HXL := Lib.hid hXL
  have HYL := Lib.hid hYL
  have HX := Lib.hid hx
  have HY := Lib.hid hy
  have HW1 := Lib.hid hW1
  have Hg := Lib.hid hg
  clear hXL hYL hW1 hbA hg hx hy
  go_enter Try.func6, Try.ntmps6
  go_upto_region 1 with fail
  rw [← HW1.out, ← Hg.out]
  clear HW1
  go_wp2_with fail
  refine Calls.mono (speaks15_any W1) ?_
  rintro e w2 ⟨rfl, hb2⟩
  have hX2 := hX1.up hb2
  have hY2 := hY1.up hb2
  have hbw2 := hb1.trans (hb2.mono hb1.size)
  clear hX1 hY1 hb1 hb2
  obtain ⟨w3, hw3⟩ : ∃ z, z = w2.alloc (.cells (XL ++ YL).toArray 31) := ⟨_, rfl⟩
  have hb3 : Below w2.heap.size w2 w3 := by rw [hw3]; exact (Below.refl _ _).alloc (Nat.le_refl _) _
  have hR3 : Arr w3 w2.heap.size 31 (XL ++ YL) := by rw [hw3]; exact Arr.new w2 _ _
  have hop : OpsAt w3 w3.heap.size (some ⟨w2.heap.size, 0, none⟩) [x, y] := by
    refine ⟨fun z hz => ?_, fun _ => ⟨w2.heap.size, 0, rfl, by rw [hw3]; simp, fun i z hz j v hj => ?_⟩⟩
    · simp only [List.mem_cons, List.mem_nil_iff, or_false] at hz
      rcases hz with rfl | rfl
      · exact HX.out
      · exact HY.out
    · rw [Nat.zero_add, hR3.cell]
      have hjl := (List.getElem?_eq_some_iff.1 hj).1
      rcases i with _ | _ | i
      · simp only [List.getElem?_cons_zero, Option.some.injEq] at hz
        subst hz
        rw [opC_length HX.out.b48] at hjl
        rw [Nat.zero_mul, Nat.zero_add, List.getElem?_append_left (by rw [HXl.out]; exact hjl), HXL.out]
        exact hj
      · simp only [List.getElem?_cons_succ, List.getElem?_cons_zero, Option.some.injEq] at hz
        subst hz
        rw [List.getElem?_append_right (by rw [HXl.out]; omega), HXl.out, HYL.out, show (0 + 1) * 53 + j - 53 = j by omega]
        exact hj
      · simp at hz
  have hX3 := hX2.up hb3
  have hY3 := hY2.up hb3
  have hbw3 := hbw2.trans (hb3.mono hbw2.size)
  have Hw3 := Lib.hid hw3
  have Hgr := Lib.hid (great15_any [x, y] (some ⟨w2.heap.size, 0, none⟩) 2 2 w3 rfl (by omega) (by omega) hop)
  obtain ⟨gr, hgr⟩ : ∃ z, great15 [x, y] = z := ⟨_, rfl⟩
  rw [hgr] at Hgr
  clear hb3 hR3 hop hw3
  go_wp2_with (first | (refine wpList_load_row rfl _ _ rfl g rfl 31 XL.toArray (0, 0) _ hX2 Try.underlying31 rfl HXi.out ?_) | (refine wpList_load_row rfl _ _ rfl (g + 1) rfl 31 YL.toArray (0, 0) _ hY2 Try.underlying31 rfl HYi.out ?_) | (refine wpList_build_two15 rfl _ _ rfl XL YL HXl.out HYl.out rfl rfl ?_; rw [← Hw3.out]))
  refine Calls.mono Hgr.out ?_
  rintro e w4 ⟨rfl, hb4⟩
  have hbw4 := hbw3.trans (hb4.mono hbw3.size)
  have hX4 := hX3.up hb4
  have hY4 := hY3.up hb4
  clear Hgr Hw3 hX2 hY2 hX3 hY3 hbw2 hbw3 hb4
  cases gr with
  | true =>
    go_wp2_with fail
    go_ret
    exact ⟨rfl, hbw4⟩
  | false =>
    obtain ⟨_, hgx⟩ := great15_no hgr
    have hgx1 := hgx x (by simp)
    have hgy1 := hgx y (by simp)
    clear hgr hgx
    go_upto_region 5 with fail
    have HXn := Lib.hid (show (Try.prog.info? 31).map (·.size) = some XL.length by rw [HXl.out]; exact opSize)
    have HYn := Lib.hid (show (Try.prog.info? 31).map (·.size) = some YL.length by rw [HYl.out]; exact opSize)
    refine wp_region_held_drew (S := fun w' => Arr w' g 31 XL ∧ Arr w' (g + 1) 31 YL) (by kernel_rfl) ⟨hX4, hY4⟩ (fun hHeld => ?_)
    refine anyH_take (i := 0) (some 14) rfl rfl (by kernel_rfl) (by kernel_rfl) (by kernel_rfl) (fun _ _ _ h => h) (yieldsIf_load_mid (by rfl) 31 (.tmp 2) rfl g 0 rfl XL _ (fun w' h => (h.1).range) Try.underlying31 rfl HXn.out) (by assumption) ?_
    simp only [Act.put, List.setIfInBounds_toArray, List.set_cons_zero, List.set_cons_succ]
    refine anyH_take (i := 2) (some 16) rfl rfl (by kernel_rfl) (by kernel_rfl) (by kernel_rfl) (fun _ _ _ h => h) (yieldsIf_load_mid (by rfl) 31 (.tmp 3) rfl (g + 1) 0 rfl YL _ (fun w' h => (h.2).range) Try.underlying31 rfl HYn.out) (by assumption) ?_
    simp only [Act.put, List.setIfInBounds_toArray, List.set_cons_zero, List.set_cons_succ]
    refine wpAnyH_ready (rs := [1]) (by kernel_rfl) (by simp) ?_
    refine AllReadyH.cons rfl (fun K hK => ?_) AllReadyH.nil
    go_simp
    go_at_call 21
    refine Calls.mono (event_any x HX.out hgx1.1 hgx1.2 XL HXL.out _) ?_
    rintro e w5 ⟨v1, rfl, hO1, hb5⟩
    have hb5 : Below w4.heap.size w4 w5 := (Below.dN (Below.refl _ w4) 1).trans hb5
    have hO1 : Owns w5 w4.heap.size 5 v1 (evF x) := hO1
    obtain ⟨A1, c1, rfl, hle1, hcm1, hbs1⟩ := hO1.slice
    have hX5 := hX4.up hb5
    have hY5 := hY4.up hb5
    go_simp
    refine hK.out _ _ ⟨hX5, hY5⟩ (fun hHeldx => ?_)
    clear hK K
    try simp only [Act.put, List.setIfInBounds_toArray, List.set_cons_zero, List.set_cons_succ]
    refine wpAnyH_ready (rs := [3]) (by kernel_rfl) (by simp) ?_
    refine AllReadyH.cons rfl (fun K hK => ?_) AllReadyH.nil
    go_simp
    go_at_call 21
    refine Calls.mono (event_any y HY.out hgy1.1 hgy1.2 YL HYL.out _) ?_
    rintro e w6 ⟨v2, rfl, hO2, hb6⟩
    obtain ⟨A2, c2, rfl, hle2, hcm2, hbs2⟩ := hO2.slice
    have hX6 := hX5.up hb6
    have hY6 := hY5.up hb6
    go_simp
    refine hK.out _ _ ⟨hX6, hY6⟩ (fun hHeldy => ?_)
    clear hK K
    try simp only [Act.put, List.setIfInBounds_toArray, List.set_cons_zero, List.set_cons_succ]
    refine anyH_take (i := 4) (v := .slice A1 (evF x).length c1) (some 5) rfl rfl (by kernel_rfl) (by kernel_rfl) (by kernel_rfl) (fun _ _ _ h => h) (Or.inl ⟨by rfl, fun w' hw => by rfl⟩) (by assumption) ?_
    simp only [Act.put, List.setIfInBounds_toArray, List.set_cons_zero, List.set_cons_succ]
    refine anyH_take (i := 5) (v := .slice A2 (evF y).length c2) (some 6) rfl rfl (by kernel_rfl) (by kernel_rfl) (by kernel_rfl) (fun _ _ _ h => h) (Or.inl ⟨by rfl, fun w' hw => by rfl⟩) (by assumption) ?_
    simp only [Act.put, List.setIfInBounds_toArray, List.set_cons_zero, List.set_cons_succ]
    refine wpAnyH_done (by kernel_rfl) ?_ _
    have hbw6 : Below w.heap.size w w6 := (hbw4.trans (hb5.mono hbw4.size)).trans (hb6.mono (by have := hbw4.size; have := hb5.size; omega))
    have Hbs1 := Lib.hid (hbs1.below hb6 (Nat.le_refl _))
    have Hbs2 := Lib.hid hbs2
    obtain ⟨hx0, hx1, hx2, hx3, hx4⟩ := c12_cells hX6 HXL.out
    obtain ⟨hy0, hy1, hy2, hy3, hy4⟩ := c12_cells hY6 HYL.out
    obtain ⟨kx, hkx⟩ : ∃ z, z = x.kind := ⟨_, rfl⟩
    obtain ⟨ky, hky⟩ : ∃ z, z = y.kind := ⟨_, rfl⟩
    obtain ⟨nx, hnx⟩ : ∃ z, z = x.num := ⟨_, rfl⟩
    obtain ⟨ny, hny⟩ : ∃ z, z = y.num := ⟨_, rfl⟩
    obtain ⟨qx, hqx⟩ : ∃ z, z = x.quota := ⟨_, rfl⟩
    obtain ⟨qy, hqy⟩ : ∃ z, z = y.quota := ⟨_, rfl⟩
    obtain ⟨sx, hsx⟩ : ∃ z, z = x.name := ⟨_, rfl⟩
    obtain ⟨sy, hsy⟩ : ∃ z, z = y.name := ⟨_, rfl⟩
    obtain ⟨ox, hox⟩ : ∃ z, z = x.other := ⟨_, rfl⟩
    obtain ⟨oy, hoy⟩ : ∃ z, z = y.other := ⟨_, rfl⟩
    obtain ⟨ex, hex⟩ : ∃ z, z = evF x := ⟨_, rfl⟩
    obtain ⟨ey, hey⟩ : ∃ z, z = evF y := ⟨_, rfl⟩
    have Hsm := Lib.hid (show decide (ex = ey) = decide (kx = ky ∧ nx = ny ∧ qx = qy ∧ sx = sy ∧ ox = oy ∧ (kx ≠ 3 ∨ x.blk = y.blk)) by rw [hex, hey, hkx, hky, hnx, hny, hqx, hqy, hsx, hsy, hox, hoy]; exact ev_inj HX.out HY.out)
    have hl1 := ev_le HX.out.b48 hgx1.1 hgx1.2
    have hl2 := ev_le HY.out.b48 hgy1.1 hgy1.2
    have hp1 := ev_pos x
    rw [← hex] at hl1 hp1 Hbs1 hle1 ⊢
    rw [← hey] at hl2 Hbs2 hle2 ⊢
    obtain ⟨n1, hn1⟩ : ∃ z, ex.length = z := ⟨_, rfl⟩
    obtain ⟨n2, hn2⟩ : ∃ z, ey.length = z := ⟨_, rfl⟩
    rw [hn1] at hl1 hp1 hle1 ⊢
    rw [hn2] at hl2 hle2 ⊢
    rw [← hkx] at hx0
    rw [← hky] at hy0
    rw [← hnx] at hx3
    rw [← hny] at hy3
    rw [← hqx] at hx4
    rw [← hqy] at hy4
    rw [← hsx] at hx1
    rw [← hsy] at hy1
    rw [← hox] at hx2
    rw [← hoy] at hy2
    obtain ⟨BX, hBX⟩ : ∃ z, z = Lib.byteCells x.blk := ⟨_, rfl⟩
    obtain ⟨BY, hBY⟩ : ∃ z, z = Lib.byteCells y.blk := ⟨_, rfl⟩
    have hrx : w6.rangeAt g 5 BX := fun j v hj => by rw [hBX] at hj; rw [hX6.cell, HXL.out]; exact opC_blk j v hj
    have hry : w6.rangeAt (g + 1) 5 BY := fun j v hj => by rw [hBY] at hj; rw [hY6.cell, HYL.out]; exact opC_blk j v hj
    have HBXn := Lib.hid (show (Try.prog.info? 29).map (·.size) = some BX.length by rw [hBX, Lib.byteCells_length, HX.out.b48]; exact blkSize)
    have HBYn := Lib.hid (show (Try.prog.info? 29).map (·.size) = some BY.length by rw [hBY, Lib.byteCells_length, HY.out.b48]; exact blkSize)
    have Hq := Lib.hid (fun w : World => eqv_at Try.underlying29 x.blk y.blk HX.out.b48 HY.out.b48 BX BY hBX hBY w)
    obtain ⟨q, hq⟩ : ∃ z, z = decide (x.blk = y.blk) := ⟨_, rfl⟩
    rw [← hq] at Hq
    have Hqb := Lib.hid hq
    have Hn1 := Lib.hid hn1
    have Hn2 := Lib.hid hn2
    have h5 : decide ((n1 : Int) ≥ 5) = true := by simp; omega
    have h5' : decide ((5 : Int) ≤ (n1 : Int)) = true := by simp; omega
    clear hb5 hO1 hb6 hO2 hX4 hY4 hX5 hY5 hX6 hY6 hbs1 hbs2 hkx hky hnx hny hqx hqy hsx hsy hox hoy hex hey hBX hBY hq hn1 hn2 hHeld hHeldx hHeldy hgx1 hgy1 hbw4 hp1
    by_cases h1 : kx = ky
    · have dh1 : decide (kx = ky) = true := by simpa using h1
      have eh1 : (kx == ky) = true := by simpa using h1
      by_cases h2 : nx = ny
      · have dh2 : decide (nx = ny) = true := by simpa using h2
        have eh2 : (nx == ny) = true := by simpa using h2
        by_cases h3 : qx = qy
        · have dh3 : decide (qx = qy) = true := by simpa using h3
          have eh3 : (qx == qy) = true := by simpa using h3
          by_cases h4 : sx = sy
          · have dh4 := ba_eq h4
            by_cases h5e : ox = oy
            · have dh5e := ba_eq h5e
              by_cases h9 : kx = 3
              · have hd9 : decide (kx = 3) = true := by simpa using h9
                have h9y : ky = 3 := by rw [← h1]; exact h9
                have hd9' : (kx != 3) = false := by simpa using h9
                cases q with
                | true =>
                  have hq2 : (x.blk = y.blk) = True := by have := Hqb.out; simpa using this.symm
                  have Hans := Lib.hid (show decide (ex = ey) = true by rw [Hsm.out]; simp [h1, h2, h3, h4, h5e, h9, h9y, hq2])
                  go_wp2_with (first | ((with_reducible refine wpList_at 57 (by rfl) ?_); refine wpList_load_mid_ifC (by rfl) 29 _ rfl g 5 rfl BX _ hrx Try.underlying29 rfl HBXn.out ?_) | ((with_reducible refine wpList_at 59 (by rfl) ?_); refine wpList_load_mid_ifC (by rfl) 29 _ rfl (g + 1) 5 rfl BY _ hry Try.underlying29 rfl HBYn.out ?_) | ((with_reducible refine wpList_at 60 (by rfl) ?_); refine wpList_eql_ifC (by rfl) 29 _ _ _ rfl BX BY rfl rfl _ Hq.out gtB ?_))
                  refine Calls.mono (same_n _ _ A1 A2 c1 c2 n1 n2 ex ey w6 true Hbs1.out Hbs2.out Hn1.out Hn2.out (by unfold maxLen; omega) (by unfold maxLen; omega) Hans.out) ?_
                  rintro e w7 ⟨rfl, k, rfl⟩
                  go_wp2_with fail
                  go_ret
                  exact ⟨rfl, Below.dN hbw6 k⟩
                | false =>
                  have hq2 : (x.blk = y.blk) = False := by have := Hqb.out; simpa using this.symm
                  have Hans := Lib.hid (show decide (ex = ey) = false by rw [Hsm.out]; simp [h1, h2, h3, h4, h5e, h9, h9y, hq2])
                  go_wp2_with (first | ((with_reducible refine wpList_at 57 (by rfl) ?_); refine wpList_load_mid_ifC (by rfl) 29 _ rfl g 5 rfl BX _ hrx Try.underlying29 rfl HBXn.out ?_) | ((with_reducible refine wpList_at 59 (by rfl) ?_); refine wpList_load_mid_ifC (by rfl) 29 _ rfl (g + 1) 5 rfl BY _ hry Try.underlying29 rfl HBYn.out ?_) | ((with_reducible refine wpList_at 60 (by rfl) ?_); refine wpList_eql_ifC (by rfl) 29 _ _ _ rfl BX BY rfl rfl _ Hq.out gtB ?_))
                  refine Calls.mono (same_n _ _ A1 A2 c1 c2 n1 n2 ex ey w6 false Hbs1.out Hbs2.out Hn1.out Hn2.out (by unfold maxLen; omega) (by unfold maxLen; omega) Hans.out) ?_
                  rintro e w7 ⟨rfl, k, rfl⟩
                  go_wp2_with fail
                  go_ret
                  exact ⟨rfl, Below.dN hbw6 k⟩
              · have hd9 : decide (kx = 3) = false := by simpa using h9
                have h9y : ¬ ky = 3 := by rw [← h1]; exact h9
                have hd9' : (kx != 3) = true := by simpa using h9
                have Hans := Lib.hid (show decide (ex = ey) = true by rw [Hsm.out]; simp [h1, h2, h3, h4, h5e, h9, h9y])
                go_wp2_with (first | ((with_reducible refine wpList_at 57 (by rfl) ?_); refine wpList_load_mid_ifC (by rfl) 29 _ rfl g 5 rfl BX _ hrx Try.underlying29 rfl HBXn.out ?_) | ((with_reducible refine wpList_at 59 (by rfl) ?_); refine wpList_load_mid_ifC (by rfl) 29 _ rfl (g + 1) 5 rfl BY _ hry Try.underlying29 rfl HBYn.out ?_) | ((with_reducible refine wpList_at 60 (by rfl) ?_); refine wpList_eql_ifC (by rfl) 29 _ _ _ rfl BX BY rfl rfl _ Hq.out gtB ?_))
                refine Calls.mono (same_n _ _ A1 A2 c1 c2 n1 n2 ex ey w6 true Hbs1.out Hbs2.out Hn1.out Hn2.out (by unfold maxLen; omega) (by unfold maxLen; omega) Hans.out) ?_
                rintro e w7 ⟨rfl, k, rfl⟩
                go_wp2_with fail
                go_ret
                exact ⟨rfl, Below.dN hbw6 k⟩
            · have dh5e := ba_ne h5e
              have Hans := Lib.hid (show decide (ex = ey) = false by rw [Hsm.out]; simp [h1, h2, h3, h4, h5e])
              go_wp2_with (first | ((with_reducible refine wpList_at 57 (by rfl) ?_); refine wpList_load_mid_ifC (by rfl) 29 _ rfl g 5 rfl BX _ hrx Try.underlying29 rfl HBXn.out ?_) | ((with_reducible refine wpList_at 59 (by rfl) ?_); refine wpList_load_mid_ifC (by rfl) 29 _ rfl (g + 1) 5 rfl BY _ hry Try.underlying29 rfl HBYn.out ?_) | ((with_reducible refine wpList_at 60 (by rfl) ?_); refine wpList_eql_ifC (by rfl) 29 _ _ _ rfl BX BY rfl rfl _ Hq.out gtB ?_))
              refine Calls.mono (same_n _ _ A1 A2 c1 c2 n1 n2 ex ey w6 false Hbs1.out Hbs2.out Hn1.out Hn2.out (by unfold maxLen; omega) (by unfold maxLen; omega) Hans.out) ?_
              rintro e w7 ⟨rfl, k, rfl⟩
              go_wp2_with fail
              go_ret
              exact ⟨rfl, Below.dN hbw6 k⟩
          · have dh4 := ba_ne h4
            have Hans := Lib.hid (show decide (ex = ey) = false by rw [Hsm.out]; simp [h1, h2, h3, h4])
            go_wp2_with (first | ((with_reducible refine wpList_at 57 (by rfl) ?_); refine wpList_load_mid_ifC (by rfl) 29 _ rfl g 5 rfl BX _ hrx Try.underlying29 rfl HBXn.out ?_) | ((with_reducible refine wpList_at 59 (by rfl) ?_); refine wpList_load_mid_ifC (by rfl) 29 _ rfl (g + 1) 5 rfl BY _ hry Try.underlying29 rfl HBYn.out ?_) | ((with_reducible refine wpList_at 60 (by rfl) ?_); refine wpList_eql_ifC (by rfl) 29 _ _ _ rfl BX BY rfl rfl _ Hq.out gtB ?_))
            refine Calls.mono (same_n _ _ A1 A2 c1 c2 n1 n2 ex ey w6 false Hbs1.out Hbs2.out Hn1.out Hn2.out (by unfold maxLen; omega) (by unfold maxLen; omega) Hans.out) ?_
            rintro e w7 ⟨rfl, k, rfl⟩
            go_wp2_with fail
            go_ret
            exact ⟨rfl, Below.dN hbw6 k⟩
        · have dh3 : decide (qx = qy) = false := by simpa using h3
          have eh3 : (qx == qy) = false := by simpa using h3
          have Hans := Lib.hid (show decide (ex = ey) = false by rw [Hsm.out]; simp [h1, h2, h3])
          go_wp2_with (first | ((with_reducible refine wpList_at 57 (by rfl) ?_); refine wpList_load_mid_ifC (by rfl) 29 _ rfl g 5 rfl BX _ hrx Try.underlying29 rfl HBXn.out ?_) | ((with_reducible refine wpList_at 59 (by rfl) ?_); refine wpList_load_mid_ifC (by rfl) 29 _ rfl (g + 1) 5 rfl BY _ hry Try.underlying29 rfl HBYn.out ?_) | ((with_reducible refine wpList_at 60 (by rfl) ?_); refine wpList_eql_ifC (by rfl) 29 _ _ _ rfl BX BY rfl rfl _ Hq.out gtB ?_))
          refine Calls.mono (same_n _ _ A1 A2 c1 c2 n1 n2 ex ey w6 false Hbs1.out Hbs2.out Hn1.out Hn2.out (by unfold maxLen; omega) (by unfold maxLen; omega) Hans.out) ?_
          rintro e w7 ⟨rfl, k, rfl⟩
          go_wp2_with fail
          go_ret
          exact ⟨rfl, Below.dN hbw6 k⟩
      · have dh2 : decide (nx = ny) = false := by simpa using h2
        have eh2 : (nx == ny) = false := by simpa using h2
        have Hans := Lib.hid (show decide (ex = ey) = false by rw [Hsm.out]; simp [h1, h2])
        go_wp2_with (first | ((with_reducible refine wpList_at 57 (by rfl) ?_); refine wpList_load_mid_ifC (by rfl) 29 _ rfl g 5 rfl BX _ hrx Try.underlying29 rfl HBXn.out ?_) | ((with_reducible refine wpList_at 59 (by rfl) ?_); refine wpList_load_mid_ifC (by rfl) 29 _ rfl (g + 1) 5 rfl BY _ hry Try.underlying29 rfl HBYn.out ?_) | ((with_reducible refine wpList_at 60 (by rfl) ?_); refine wpList_eql_ifC (by rfl) 29 _ _ _ rfl BX BY rfl rfl _ Hq.out gtB ?_))
        refine Calls.mono (same_n _ _ A1 A2 c1 c2 n1 n2 ex ey w6 false Hbs1.out Hbs2.out Hn1.out Hn2.out (by unfold maxLen; omega) (by unfold maxLen; omega) Hans.out) ?_
        rintro e w7 ⟨rfl, k, rfl⟩
        go_wp2_with fail
        go_ret
        exact ⟨rfl, Below.dN hbw6 k⟩
    · have dh1 : decide (kx = ky) = false := by simpa using h1
      have eh1 : (kx == ky) = false := by simpa using h1
      have Hans := Lib.hid (show decide (ex = ey) = false by rw [Hsm.out]; simp [h1])
      go_wp2_with (first | ((with_reducible refine wpList_at 57 (by rfl) ?_); refine wpList_load_mid_ifC (by rfl) 29 _ rfl g 5 rfl BX _ hrx Try.underlying29 rfl HBXn.out ?_) | ((with_reducible refine wpList_at 59 (by rfl) ?_); refine wpList_load_mid_ifC (by rfl) 29 _ rfl (g + 1) 5 rfl BY _ hry Try.underlying29 rfl HBYn.out ?_) | ((with_reducible refine wpList_at 60 (by rfl) ?_); refine wpList_eql_ifC (by rfl) 29 _ _ _ rfl BX BY rfl rfl _ Hq.out gtB ?_))
      refine Calls.mono (same_n _ _ A1 A2 c1 c2 n1 n2 ex ey w6 false Hbs1.out Hbs2.out Hn1.out Hn2.out (by unfold maxLen; omega) (by unfold maxLen; omega) Hans.out) ?_
      rintro e w7 ⟨rfl, k, rfl⟩
      go_wp2_with fail
      go_ret
      exact ⟨rfl, Below.dN hbw6 k⟩

end Go.Proofs.Ytmjnnjlkdnakmaa

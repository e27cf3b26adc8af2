/-
  Whether a commit may be.
-/
import Derived.Test.YtkepfigoeaheaaaComBack
import Derived.Test.YtkepfigoeaheaaaComCx
namespace Go.Proofs.Ytkepfigoeaheaaa
open Go.RowKit
set_option linter.unusedVariables false
set_option linter.unusedSimpArgs false


theorem fill_ref3 (X Y Z : List Value) (hX : X.length = 34) (hY : Y.length = 34) (hZ : Z.length = 34) (cells : Array Value) (hc : cells.size = 102) : Instr.fill (fun i => some (i * 34, 34)) cells [(0, .agg X.toArray), (1, .agg Y.toArray), (2, .agg Z.toArray)] = some (X ++ (Y ++ Z)).toArray := by
  have hcl : cells.toList.length = 102 := by simp [hc]
  have h1 := fill_mid (fun i => some (i * 34, 34)) cells 0 0 X (by rw [hX]) (by rw [hX, hc]; omega)
  rw [fill_cons _ _ _ _ _ h1]
  have e1 : cells.toList.take 0 ++ (X ++ cells.toList.drop (0 + X.length)) = X ++ cells.toList.drop 34 := by rw [List.take_zero, List.nil_append, hX]
  rw [e1]
  have h2 := fill_mid (fun i => some (i * 34, 34)) (X ++ cells.toList.drop 34).toArray 1 34 Y (by rw [hY]) (by rw [hY, List.size_toArray, List.length_append, List.length_drop, hX, hcl]; omega)
  rw [fill_cons _ _ _ _ _ h2]
  have e2 : (X ++ cells.toList.drop 34).toArray.toList.take 34 ++ (Y ++ (X ++ cells.toList.drop 34).toArray.toList.drop (34 + Y.length)) = X ++ (Y ++ cells.toList.drop 68) := by
    simp only
    rw [List.take_append_of_le_length (by omega), List.take_of_length_le (by omega), hY, List.drop_append, List.drop_of_length_le (by omega), List.nil_append, hX, List.drop_drop]
  rw [e2]
  have h3 := fill_mid (fun i => some (i * 34, 34)) (X ++ (Y ++ cells.toList.drop 68)).toArray 2 68 Z (by rw [hZ]) (by rw [hZ, List.size_toArray, List.length_append, List.length_append, List.length_drop, hX, hY, hcl]; omega)
  have e3 : List.take 68 (X ++ (Y ++ cells.toList.drop 68)) = X ++ Y := by
    rw [← List.append_assoc, List.take_append_of_le_length (by rw [List.length_append]; omega), List.take_of_length_le (by rw [List.length_append]; omega)]
  have e4 : List.drop (68 + Z.length) (X ++ (Y ++ cells.toList.drop 68)) = [] := List.drop_of_length_le (by rw [List.length_append, List.length_append, List.length_drop, hX, hY, hZ, hcl]; omega)
  rw [h3]
  simp only
  rw [e3, e4, List.append_nil, List.append_assoc]
theorem refInfoS : (Try.prog.info? 26).map (fun i => (i.zero, i.size, i.bytes)) = some (some (.agg refZ.toArray), 34, 48) := by kernel_rfl
/-- '[]api.Ref{x, y, z}', where it is wanted. -/
theorem wpList_build_refs {ops : Array Oper} {rest : List Oper} {o : Oper} {a : Act} {w : World} {Q : Exit → Act → World → Prop} (hw : Region.wanted o (yielded ops a.tmps) = true) (x y z : Operand) (ho : o.op = .buildSlice 117 3 #[(0, x), (1, y), (2, z)]) (X Y Z : List Value) (hX : X.length = 34) (hY : Y.length = 34) (hZ : Z.length = 34) (hx : a.eval x = .agg X.toArray) (hy : a.eval y = .agg Y.toArray) (hz : a.eval z = .agg Z.toArray)
    (h : wpList Try.prog ops Q rest (a.put o.dst (.slice (some ⟨w.heap.size, 0, none⟩) 3 3)) (w.alloc (.cells (X ++ (Y ++ Z)).toArray 26))) : wpList Try.prog ops Q (o :: rest) a w := by
  refine wpList_step fun K hK => ?_
  rw [if_pos hw]
  obtain ⟨i0, hi, hz0, hz1, hz2⟩ := info_parts refInfoS
  refine wp_buildSlice 117 26 3 #[(0, x), (1, y), (2, z)] ho (X ++ (Y ++ Z)).toArray i0 _ Try.underlying117 hi hz0 (by rw [hz1]; decide) (by rw [hz1]; decide) ?_ (hK _ _ h)
  rw [hz1]
  simp only [List.map_toArray, List.map_cons, List.map_nil, hx, hy, hz]
  exact fill_ref3 X Y Z hX hY hZ _ (by simp)
theorem wpList_load_mid_ifC {P : Program} {ops : Array Oper} {rest : List Oper} {o : Oper} {a : Act} {w : World} {Q : Exit → Act → World → Prop} (hw : Region.wanted o (yielded ops a.tmps) = true) (ty : TypeId) (x : Operand) (ho : o.op = .load ty x)
    (b off : Nat) (hx : a.eval x = .pointer (some ⟨b, off, none⟩)) (cs : List Value) (d : TypeDesc) (hc : w.rangeAt b off cs)
    (hu : P.underlying ty = some d) (hd : d.isRow = true) (hi : (P.info? ty).map (·.size) = some cs.length)
    (h : wpList P ops Q rest (a.put o.dst (.agg cs.toArray)) w) : wpList P ops Q (o :: rest) a w :=
  wpList_step fun K hK => by
    rw [if_pos hw]
    exact wp_load_mid ty x ho b off hx cs d hc hu hd hi (hK _ _ h)

set_option maxHeartbeats 4000000 in
set_option maxRecDepth 100000 in
theorem rise_any (A : Option Addr) (n c : Nat) (bs : List BinF) (hn : bs.length = n) (hc : n ≤ c) (hm : c ≤ maxLen) (w : World) (h : RowOf bC 35 w w.heap.size A bs) (b : Bool) (hb : b = true ↔ RiseB bs) :
    Calls Try.prog 52 #[.slice A n c] w fun e w' => e = .returned (.bool b) ∧ Below w.heap.size w w' := by
  have hm' : c ≤ 9223372036854775807 := by unfold maxLen at hm; omega
  have Hn := Lib.hid hn
  have Hh := Lib.hid h
  have Hb := Lib.hid hb
  clear hn h hb
  go_enter Try.func52, Try.ntmps52
  go_wp2_with fail
  go_loopw [6] (fun i wr => ∃ k : Nat, k ≤ n ∧ i = .int .i64 k ∧ Below w.heap.size w wr ∧ Hid (∀ j, j + 1 < k → (bs.getD j zB).x < (bs.getD (j + 1) zB).x)) (fun i _ => n - (Go.RowKit.intOf i).toNat)
  case atStart => exact ⟨0, Nat.zero_le _, rfl, Below.refl _ _, fun j hj => by omega⟩
  case round =>
    obtain ⟨k, hk, rfl, hbr, Hk⟩ := hrel
    by_cases hlt : k < n
    · have hd1 : decide ((k : Int) < (n : Int)) = true := by simp; omega
      obtain ⟨bb, off, rfl, hblk, hrow⟩ := Hh.out (by rw [Hn.out]; omega)
      have hcell : ∀ i, i < n → wr.cell? ⟨bb, off + i * 35, none⟩ = some (.int .i64 (bs.getD i zB).x) := fun i hi => by
        have e : bs[i]? = some (bs.getD i zB) := by
          rw [List.getElem?_eq_getElem (by rw [Hn.out]; exact hi)]
          simp [List.getD, Hn.out, hi]
        have := hrow i _ e 0 (.int .i64 (bs.getD i zB).x) rfl
        rw [Nat.add_zero] at this
        exact (World.cell?_of_block (hbr.block bb hblk)).trans this
      have Hcell := Lib.hid hcell
      clear hrow hcell
      go_upto_region 4 with fail
      cases k with
      | zero =>
        refine wp_region_held_drew (S := fun _ => True) (by kernel_rfl) trivial (fun hHeld => ?_)
        refine anyH_take (i := 0) (v := .int .i64 (0 : Nat)) (some 9) rfl rfl (by kernel_rfl) (by kernel_rfl) (by kernel_rfl) (fun _ _ _ h => h) (Or.inl ⟨by rfl, fun w' hw => by rfl⟩) (by assumption) ?_
        simp only [Act.put, List.setIfInBounds_toArray, List.set_cons_zero, List.set_cons_succ]
        refine anyH_take (i := 1) (v := .bool false) (some 10) rfl rfl (by kernel_rfl) (by kernel_rfl) (by kernel_rfl) (fun _ _ _ h => h) (Or.inl ⟨by rfl, fun w' hw => by (go_simp)⟩) (by assumption) ?_
        simp only [Act.put, List.setIfInBounds_toArray, List.set_cons_zero, List.set_cons_succ]
        refine anyH_take (i := 2) (v := .bool false) (some 11) rfl rfl (by kernel_rfl) (by kernel_rfl) (by kernel_rfl) (fun _ _ _ h => h) (Or.inl ⟨by rfl, fun w' hw => by (go_simp)⟩) (by assumption) ?_
        simp only [Act.put, List.setIfInBounds_toArray, List.set_cons_zero, List.set_cons_succ]
        refine anyH_take (i := 3) (v := undef) (some 12) rfl rfl (by kernel_rfl) (by kernel_rfl) (by kernel_rfl) (fun _ _ _ h => h) (Or.inr ⟨by rfl, rfl⟩) (by assumption) ?_
        simp only [Act.put, List.setIfInBounds_toArray, List.set_cons_zero, List.set_cons_succ]
        refine anyH_take (i := 4) (v := undef) (some 13) rfl rfl (by kernel_rfl) (by kernel_rfl) (by kernel_rfl) (fun _ _ _ h => h) (Or.inr ⟨by rfl, rfl⟩) (by assumption) ?_
        simp only [Act.put, List.setIfInBounds_toArray, List.set_cons_zero, List.set_cons_succ]
        refine anyH_take (i := 5) (v := undef) (some 14) rfl rfl (by kernel_rfl) (by kernel_rfl) (by kernel_rfl) (fun _ _ _ h => h) (Or.inr ⟨by rfl, rfl⟩) (by assumption) ?_
        simp only [Act.put, List.setIfInBounds_toArray, List.set_cons_zero, List.set_cons_succ]
        refine anyH_take (i := 6) (v := undef) (some 15) rfl rfl (by kernel_rfl) (by kernel_rfl) (by kernel_rfl) (fun _ _ _ h => h) (Or.inr ⟨by rfl, rfl⟩) (by assumption) ?_
        simp only [Act.put, List.setIfInBounds_toArray, List.set_cons_zero, List.set_cons_succ]
        refine anyH_take (i := 7) (v := undef) (some 16) rfl rfl (by kernel_rfl) (by kernel_rfl) (by kernel_rfl) (fun _ _ _ h => h) (Or.inr ⟨by rfl, rfl⟩) (by assumption) ?_
        simp only [Act.put, List.setIfInBounds_toArray, List.set_cons_zero, List.set_cons_succ]
        refine anyH_take (i := 8) (v := undef) (some 17) rfl rfl (by kernel_rfl) (by kernel_rfl) (by kernel_rfl) (fun _ _ _ h => h) (Or.inr ⟨by rfl, rfl⟩) (by assumption) ?_
        simp only [Act.put, List.setIfInBounds_toArray, List.set_cons_zero, List.set_cons_succ]
        refine anyH_take (i := 9) (v := undef) (some 18) rfl rfl (by kernel_rfl) (by kernel_rfl) (by kernel_rfl) (fun _ _ _ h => h) (Or.inr ⟨by rfl, rfl⟩) (by assumption) ?_
        simp only [Act.put, List.setIfInBounds_toArray, List.set_cons_zero, List.set_cons_succ]
        refine anyH_take (i := 10) (v := undef) (some 19) rfl rfl (by kernel_rfl) (by kernel_rfl) (by kernel_rfl) (fun _ _ _ h => h) (Or.inr ⟨by rfl, rfl⟩) (by assumption) ?_
        simp only [Act.put, List.setIfInBounds_toArray, List.set_cons_zero, List.set_cons_succ]
        refine anyH_take (i := 11) (v := undef) (some 20) rfl rfl (by kernel_rfl) (by kernel_rfl) (by kernel_rfl) (fun _ _ _ h => h) (Or.inr ⟨by rfl, rfl⟩) (by assumption) ?_
        simp only [Act.put, List.setIfInBounds_toArray, List.set_cons_zero, List.set_cons_succ]
        refine anyH_take (i := 12) (v := undef) (some 21) rfl rfl (by kernel_rfl) (by kernel_rfl) (by kernel_rfl) (fun _ _ _ h => h) (Or.inr ⟨by rfl, rfl⟩) (by assumption) ?_
        simp only [Act.put, List.setIfInBounds_toArray, List.set_cons_zero, List.set_cons_succ]
        refine anyH_take (i := 13) (v := undef) (some 22) rfl rfl (by kernel_rfl) (by kernel_rfl) (by kernel_rfl) (fun _ _ _ h => h) (Or.inr ⟨by rfl, rfl⟩) (by assumption) ?_
        simp only [Act.put, List.setIfInBounds_toArray, List.set_cons_zero, List.set_cons_succ]
        refine anyH_take (i := 14) (v := undef) (some 23) rfl rfl (by kernel_rfl) (by kernel_rfl) (by kernel_rfl) (fun _ _ _ h => h) (Or.inr ⟨by rfl, rfl⟩) (by assumption) ?_
        simp only [Act.put, List.setIfInBounds_toArray, List.set_cons_zero, List.set_cons_succ]
        refine anyH_take (i := 15) (v := .bool false) (some 24) rfl rfl (by kernel_rfl) (by kernel_rfl) (by kernel_rfl) (fun _ _ _ h => h) (Or.inl ⟨by rfl, fun w' hw => by (go_simp)⟩) (by assumption) ?_
        simp only [Act.put, List.setIfInBounds_toArray, List.set_cons_zero, List.set_cons_succ]
        refine wpAnyH_done (by kernel_rfl) ?_ _
        have Hk2 : Hid (∀ j, j + 1 < 0 + 1 → (bs.getD j zB).x < (bs.getD (j + 1) zB).x) := fun j hj => by omega
        go_wp2_with fail
        go_roundw
        case rel => exact ⟨0 + 1, by omega, by go_num, Below.dN hbr 1, Hk2⟩
        case measure => simp [Go.RowKit.intOf]; omega
      | succ k =>
        obtain ⟨x1, hx1⟩ : ∃ z, (bs.getD k zB).x = z := ⟨_, rfl⟩
        obtain ⟨x2, hx2⟩ : ∃ z, (bs.getD (k + 1) zB).x = z := ⟨_, rfl⟩
        have hc1 := Hcell.out k (by omega)
        have hc2 := Hcell.out (k + 1) (by omega)
        rw [hx1] at hc1
        rw [hx2] at hc2
        obtain ⟨b0, hb0⟩ : ∃ z, decide (x2 ≤ x1) = z := ⟨_, rfl⟩
        have hb1 : decide (x1 ≥ x2) = b0 := hb0
        have Hq := Lib.hid (show decide (x2 ≤ x1) = b0 ∧ decide (x1 ≥ x2) = b0 from ⟨hb0, hb1⟩)
        have Hwrap := Lib.hid (show IntKind.i64.wrap (((k + 1 : Nat) : Int) - 1) = ((k : Nat) : Int) by rw [show ((k + 1 : Nat) : Int) - 1 = ((k : Nat) : Int) by omega]; exact IntWalk.i64_in _ (by omega))
        have Hwrap2 := Lib.hid (show IntKind.i64.wrap ((k : Nat) : Int) = ((k : Nat) : Int) from IntWalk.i64_in _ (by omega))
        have Hp1 := Lib.hid (show decide (((k + 1 : Nat) : Int) > 0) = true by rw [decide_eq_true_eq]; omega)
        have Hp2 := Lib.hid (show decide ((0 : Int) < ((k + 1 : Nat) : Int)) = true by rw [decide_eq_true_eq]; omega)
        clear hb0 hb1
        refine wp_region_held_drew (S := fun w' => w'.cell? ⟨bb, off + k * 35, none⟩ = some (.int .i64 x1) ∧ w'.cell? ⟨bb, off + (k + 1) * 35, none⟩ = some (.int .i64 x2)) (by kernel_rfl) ⟨hc1, hc2⟩ (fun hHeld => ?_)
        refine anyH_take (i := 0) (v := .int .i64 ((k + 1 : Nat) : Int)) (some 9) rfl rfl (by kernel_rfl) (by kernel_rfl) (by kernel_rfl) (fun _ _ _ h => h) (Or.inl ⟨by rfl, fun w' hw => by rfl⟩) (by assumption) ?_
        simp only [Act.put, List.setIfInBounds_toArray, List.set_cons_zero, List.set_cons_succ]
        refine anyH_take (i := 1) (v := .bool true) (some 10) rfl rfl (by kernel_rfl) (by kernel_rfl) (by kernel_rfl) (fun _ _ _ h => h) (Or.inl ⟨by rfl, fun w' hw => by (have hq1 := Hp1.out; have hq2 := Hp2.out; go_simp)⟩) (by assumption) ?_
        simp only [Act.put, List.setIfInBounds_toArray, List.set_cons_zero, List.set_cons_succ]
        refine anyH_take (i := 2) (v := .bool true) (some 11) rfl rfl (by kernel_rfl) (by kernel_rfl) (by kernel_rfl) (fun _ _ _ h => h) (Or.inl ⟨by rfl, fun w' hw => by (go_simp)⟩) (by assumption) ?_
        simp only [Act.put, List.setIfInBounds_toArray, List.set_cons_zero, List.set_cons_succ]
        refine anyH_take (i := 3) (v := .slice (some ⟨bb, off, none⟩) n c) (some 12) rfl rfl (by kernel_rfl) (by kernel_rfl) (by kernel_rfl) (fun _ _ _ h => h) (Or.inl ⟨by rfl, fun w' hw => by (go_simp)⟩) (by assumption) ?_
        simp only [Act.put, List.setIfInBounds_toArray, List.set_cons_zero, List.set_cons_succ]
        refine anyH_take (i := 4) (v := .int .i64 ((k + 1 : Nat) : Int)) (some 13) rfl rfl (by kernel_rfl) (by kernel_rfl) (by kernel_rfl) (fun _ _ _ h => h) (Or.inl ⟨by rfl, fun w' hw => by (go_simp)⟩) (by assumption) ?_
        simp only [Act.put, List.setIfInBounds_toArray, List.set_cons_zero, List.set_cons_succ]
        refine anyH_take (i := 5) (v := .int .i64 (k : Nat)) (some 14) rfl rfl (by kernel_rfl) (by kernel_rfl) (by kernel_rfl) (fun _ _ _ h => h) (Or.inl ⟨by rfl, fun w' hw => by (have hwp := Hwrap.out; have hwp2 := Hwrap2.out; go_simp)⟩) (by assumption) ?_
        simp only [Act.put, List.setIfInBounds_toArray, List.set_cons_zero, List.set_cons_succ]
        refine anyH_take (i := 6) (v := .pointer (some ⟨bb, off + k * 35, none⟩)) (some 15) rfl rfl (by kernel_rfl) (by kernel_rfl) (by kernel_rfl) (fun _ _ _ h => h) (Or.inl ⟨by rfl, fun w' hw => by (go_simp; try (intro h; omega))⟩) (by assumption) ?_
        simp only [Act.put, List.setIfInBounds_toArray, List.set_cons_zero, List.set_cons_succ]
        refine anyH_take (i := 7) (v := .pointer (some ⟨bb, off + k * 35, none⟩)) (some 16) rfl rfl (by kernel_rfl) (by kernel_rfl) (by kernel_rfl) (fun _ _ _ h => h) (Or.inl ⟨by rfl, fun w' hw => by (go_simp)⟩) (by assumption) ?_
        simp only [Act.put, List.setIfInBounds_toArray, List.set_cons_zero, List.set_cons_succ]
        refine anyH_take (i := 8) (v := .int .i64 x1) (some 17) rfl rfl (by kernel_rfl) (by kernel_rfl) (by kernel_rfl) (fun _ _ _ h => h) (Or.inl ⟨by rfl, fun w' hw => by (have hcc := hw.1; go_simp)⟩) (by assumption) ?_
        simp only [Act.put, List.setIfInBounds_toArray, List.set_cons_zero, List.set_cons_succ]
        refine anyH_take (i := 9) (v := .slice (some ⟨bb, off, none⟩) n c) (some 18) rfl rfl (by kernel_rfl) (by kernel_rfl) (by kernel_rfl) (fun _ _ _ h => h) (Or.inl ⟨by rfl, fun w' hw => by (go_simp)⟩) (by assumption) ?_
        simp only [Act.put, List.setIfInBounds_toArray, List.set_cons_zero, List.set_cons_succ]
        refine anyH_take (i := 10) (v := .int .i64 ((k + 1 : Nat) : Int)) (some 19) rfl rfl (by kernel_rfl) (by kernel_rfl) (by kernel_rfl) (fun _ _ _ h => h) (Or.inl ⟨by rfl, fun w' hw => by (go_simp)⟩) (by assumption) ?_
        simp only [Act.put, List.setIfInBounds_toArray, List.set_cons_zero, List.set_cons_succ]
        refine anyH_take (i := 11) (v := .pointer (some ⟨bb, off + (k + 1) * 35, none⟩)) (some 20) rfl rfl (by kernel_rfl) (by kernel_rfl) (by kernel_rfl) (fun _ _ _ h => h) (Or.inl ⟨by rfl, fun w' hw => by (go_simp; try (intro h; omega))⟩) (by assumption) ?_
        simp only [Act.put, List.setIfInBounds_toArray, List.set_cons_zero, List.set_cons_succ]
        refine anyH_take (i := 12) (v := .pointer (some ⟨bb, off + (k + 1) * 35, none⟩)) (some 21) rfl rfl (by kernel_rfl) (by kernel_rfl) (by kernel_rfl) (fun _ _ _ h => h) (Or.inl ⟨by rfl, fun w' hw => by (go_simp)⟩) (by assumption) ?_
        simp only [Act.put, List.setIfInBounds_toArray, List.set_cons_zero, List.set_cons_succ]
        refine anyH_take (i := 13) (v := .int .i64 x2) (some 22) rfl rfl (by kernel_rfl) (by kernel_rfl) (by kernel_rfl) (fun _ _ _ h => h) (Or.inl ⟨by rfl, fun w' hw => by (have hcc := hw.2; go_simp)⟩) (by assumption) ?_
        simp only [Act.put, List.setIfInBounds_toArray, List.set_cons_zero, List.set_cons_succ]
        refine anyH_take (i := 14) (v := .bool b0) (some 23) rfl rfl (by kernel_rfl) (by kernel_rfl) (by kernel_rfl) (fun _ _ _ h => h) (Or.inl ⟨by rfl, fun w' hw => by (have hq1 := Hq.out.1; have hq2 := Hq.out.2; go_simp)⟩) (by assumption) ?_
        simp only [Act.put, List.setIfInBounds_toArray, List.set_cons_zero, List.set_cons_succ]
        refine anyH_take (i := 15) (v := .bool b0) (some 24) rfl rfl (by kernel_rfl) (by kernel_rfl) (by kernel_rfl) (fun _ _ _ h => h) (Or.inl ⟨by rfl, fun w' hw => by (go_simp)⟩) (by assumption) ?_
        simp only [Act.put, List.setIfInBounds_toArray, List.set_cons_zero, List.set_cons_succ]
        refine wpAnyH_done (by kernel_rfl) ?_ _
        cases b0 with
        | true =>
          have Hno : Hid (b = false) := Lib.hid (by
            cases b with
            | false => rfl
            | true =>
              have h1 := Hb.out.1 rfl k (by rw [Hn.out]; omega)
              have h2 := of_decide_eq_true Hq.out.1
              rw [hx1, hx2] at h1
              omega)
          clear hx1 hx2 hc1 hc2
          go_wp2_with fail
          go_ret
          exact ⟨by rw [Hno.out]; rfl, Below.dN hbr 1⟩
        | false =>
          have Hk2 : Hid (∀ j, j + 1 < k + 1 + 1 → (bs.getD j zB).x < (bs.getD (j + 1) zB).x) := fun j hj => by
            by_cases e : j = k
            · subst e
              have h2 := of_decide_eq_false Hq.out.1
              rw [hx1, hx2]
              omega
            · exact Hk.out j (by omega)
          clear hx1 hx2 hc1 hc2
          go_wp2_with fail
          go_roundw
          case rel => exact ⟨k + 1 + 1, by omega, by go_num, Below.dN hbr 1, Hk2⟩
          case measure => simp [Go.RowKit.intOf]; omega
    · obtain rfl : k = n := by omega
      have hd1 : decide (k < k) = false := by simp
      have Hyes : Hid (b = true) := Lib.hid (Hb.out.2 fun i hi => Hk.out i (by rw [← Hn.out]; exact hi))
      go_wp2_with fail
      go_ret
      exact ⟨by rw [Hyes.out]; rfl, hbr⟩


theorem row_three {w : World} {g : Nat} {T : TypeId} {r1 r2 r3 : RefF} (h1 : RefW r1) (h2 : RefW r2) (h3 : RefW r3) (h : Arr w g T (rC r1 ++ (rC r2 ++ rC r3))) : RowOf rC 34 w w.heap.size (some ⟨g, 0, none⟩) [r1, r2, r3] := fun _ => by
  refine ⟨g, 0, rfl, h.lt, fun i x hi j v hj => ?_⟩
  rw [h.cell, Nat.zero_add]
  match i, hi with
  | 0, hi =>
    simp only [List.getElem?_cons_zero, Option.some.injEq] at hi
    subst hi
    rw [Nat.zero_mul, Nat.zero_add, List.getElem?_append_left (List.getElem?_eq_some_iff.1 hj).1]
    exact hj
  | 1, hi =>
    simp only [List.getElem?_cons_succ, List.getElem?_cons_zero, Option.some.injEq] at hi
    subst hi
    exact mid_at (by rw [rC_length h1]) j v hj
  | 2, hi =>
    simp only [List.getElem?_cons_succ, List.getElem?_cons_zero, Option.some.injEq] at hi
    subst hi
    have := mid_at (pre := rC r1 ++ rC r2) (l := rC r3) (post := []) (k := 68) (by rw [List.length_append, rC_length h1, rC_length h2]) j v hj
    simpa using this
  | i + 3, hi => simp at hi

set_option maxHeartbeats 4000000 in
set_option maxRecDepth 100000 in
theorem may_any (x : Cx) (VL : List Value) (hVL : VL = comC x) (w : World) (h : CxOk w w.heap.size x) (hlim : x.c.bins.length ≤ 1000000) (b : Bool) (hb : b = true ↔ MayC x.c) :
    Calls Try.prog 29 #[.agg VL.toArray] w fun e w' => e = .returned (.bool b) ∧ Below w.heap.size w w' := by
  obtain ⟨W1, hW1⟩ : ∃ z, z = w.alloc (.cells VL.toArray 30) := ⟨_, rfl⟩
  have hR1 : Arr W1 w.heap.size 30 VL := by rw [hW1]; exact Arr.new w _ _
  have hb0 : Below w.heap.size w W1 := by rw [hW1]; exact (Below.refl _ w).alloc (Nat.le_refl _) _
  have hsz : W1.heap.size = w.heap.size + 1 := by rw [hW1]; simp
  rw [hVL] at hR1
  obtain ⟨p0, p1, p2, p3, p4, p5, p6⟩ := Arr.com hR1 (rC_length h.r1) (rC_length h.r2) (rC_length h.r3) (by rw [Lib.byteCells_length, h.st])
  have HW1 := Lib.hid hW1
  have hok1 := h.below hb0 (Nat.le_refl _)
  obtain ⟨b1, hb1⟩ : ∃ b1 : Bool, b1 = true ↔ ∀ r ∈ [x.c.r1, x.c.r2, x.c.r3], OkR r := by classical exact ⟨decide _, decide_eq_true_iff⟩
  obtain ⟨b2, hb2⟩ : ∃ b2 : Bool, b2 = true ↔ ∀ r ∈ x.c.bins, OkB r := by classical exact ⟨decide _, decide_eq_true_iff⟩
  obtain ⟨b3, hb3⟩ : ∃ b3 : Bool, b3 = true ↔ RiseB x.c.bins := by classical exact ⟨decide _, decide_eq_true_iff⟩
  have Hb : Hid (b = (decide (0 < x.c.ep) && b1 && b2 && b3)) := Lib.hid (by
    rw [Bool.eq_iff_iff, hb]
    unfold MayC
    simp only [Bool.and_eq_true, decide_eq_true_eq, hb1, hb2, hb3, List.mem_cons, List.not_mem_nil, or_false, forall_eq_or_imp, forall_eq]
    constructor
    · rintro ⟨q1, q2, q3, q4, q5, q6⟩
      exact ⟨⟨⟨q1, q2, q3, q4⟩, q5⟩, q6⟩
    · rintro ⟨⟨⟨q1, q2, q3, q4⟩, q5⟩, q6⟩
      exact ⟨q1, q2, q3, q4, q5, q6⟩)
  have Hb1 := Lib.hid hb1
  have Hb2 := Lib.hid hb2
  have Hb3 := Lib.hid hb3
  obtain ⟨ep, hep⟩ : ∃ z, x.c.ep = z := ⟨_, rfl⟩
  obtain ⟨nb, hnb⟩ : ∃ z, x.c.bins.length = z := ⟨_, rfl⟩
  obtain ⟨Ab, hAb⟩ : ∃ z, x.Ab = z := ⟨_, rfl⟩
  obtain ⟨cb, hcb⟩ : ∃ z, x.cb = z := ⟨_, rfl⟩
  rw [hep] at p0 Hb
  rw [hAb, hnb, hcb] at p4
  have hepl : ep < 18446744073709551616 := by rw [← hep]; exact h.ep
  have Hlb := Lib.hid (show nb ≤ cb ∧ cb ≤ maxLen ∧ nb ≤ 1000000 by rw [← hnb, ← hcb]; exact ⟨h.lb, h.mb, hlim⟩)
  have Hbins := Lib.hid (show RowOf bC 35 w w.heap.size Ab x.c.bins by rw [← hAb]; exact h.bins)
  have Hbw := Lib.hid h.bw
  have Hnb := Lib.hid hnb
  obtain ⟨R1, hr1⟩ : ∃ z, z = rC x.c.r1 := ⟨_, rfl⟩
  obtain ⟨R2, hr2⟩ : ∃ z, z = rC x.c.r2 := ⟨_, rfl⟩
  obtain ⟨R3, hr3⟩ : ∃ z, z = rC x.c.r3 := ⟨_, rfl⟩
  rw [← hr1] at p1
  rw [← hr2] at p2
  rw [← hr3] at p3
  have l1 : R1.length = 34 := by rw [hr1]; exact rC_length h.r1
  have l2 : R2.length = 34 := by rw [hr2]; exact rC_length h.r2
  have l3 : R3.length = 34 := by rw [hr3]; exact rC_length h.r3
  have HI1 := Lib.hid (show (Try.prog.info? 26).map (·.size) = some R1.length by rw [l1]; exact refSize)
  have HI2 := Lib.hid (show (Try.prog.info? 26).map (·.size) = some R2.length by rw [l2]; exact refSize)
  have HI3 := Lib.hid (show (Try.prog.info? 26).map (·.size) = some R3.length by rw [l3]; exact refSize)
  obtain ⟨W2, hW2⟩ : ∃ z, z = W1.alloc (.cells (R1 ++ (R2 ++ R3)).toArray 26) := ⟨_, rfl⟩
  have hb2w : Below w.heap.size w W2 := by rw [hW2]; exact hb0.alloc hb0.size _
  have Hrow := Lib.hid (show RowOf rC 34 W2 W2.heap.size (some ⟨W1.heap.size, 0, none⟩) [x.c.r1, x.c.r2, x.c.r3] from row_three (T := 26) h.r1 h.r2 h.r3 (by rw [hW2, hr1, hr2, hr3]; exact Arr.new W1 _ _))
  have Hrw := Lib.hid (show ∀ r ∈ [x.c.r1, x.c.r2, x.c.r3], RefW r by
    intro r hr
    simp only [List.mem_cons, List.not_mem_nil, or_false] at hr
    rcases hr with rfl | rfl | rfl
    · exact h.r1
    · exact h.r2
    · exact h.r3)
  have HL := Lib.hid (show R1.length = 34 ∧ R2.length = 34 ∧ R3.length = 34 from ⟨l1, l2, l3⟩)
  have q4 : W2.cell? ⟨w.heap.size, 103, none⟩ = some (.slice Ab nb cb) := by rw [hW2, World.cell?_alloc_lt W1 _ ⟨w.heap.size, 103, none⟩ (show w.heap.size < W1.heap.size by omega)]; exact p4
  have HW2 := Lib.hid hW2
  have hsz2 : w.heap.size + 1 ≤ W2.heap.size := by rw [hW2]; simp; omega
  have hlt1 : w.heap.size < W1.heap.size := by omega
  clear hVL hW1 hR1 hok1 hb hb1 hb2 hb3 hep hnb hAb hcb h hlim hr1 hr2 hr3 l1 l2 l3 hW2 p5 p6 hsz
  go_enter Try.func29, Try.ntmps29
  go_upto_region 1 with fail
  change Code.wp _ _ _ _ (w.alloc (.cells VL.toArray 30))
  rw [← HW1.out]
  clear HW1
  by_cases h0 : ep = 0
  · subst h0
    have Hno : Hid (b = false) := Lib.hid (by rw [Hb.out]; simp)
    clear Hb
    go_wp2_with fail
    go_ret
    exact ⟨by rw [Hno.out]; rfl, hb0⟩
  have e0 : decide ((ep : Int) > 0) = true := by simp; omega
  have e1 : decide ((0 : Int) < (ep : Int)) = true := by simp; omega
  have e2 : decide (0 < ep) = true := by simp; omega
  rw [e2, Bool.true_and] at Hb
  have e3 : 0 < ep := by omega
  clear h0
  go_wp2_with (first
    | (refine wpList_load_mid_ifC (by rfl) _ _ rfl w.heap.size 1 rfl R1 _ p1 Try.underlying26 rfl HI1.out ?_)
    | (refine wpList_load_mid_ifC (by rfl) _ _ rfl w.heap.size 35 rfl R2 _ p2 Try.underlying26 rfl HI2.out ?_)
    | (refine wpList_load_mid_ifC (by rfl) _ _ rfl w.heap.size 69 rfl R3 _ p3 Try.underlying26 rfl HI3.out ?_)
    | (refine wpList_build_refs (by rfl) _ _ _ rfl R1 R2 R3 HL.out.1 HL.out.2.1 HL.out.2.2 rfl rfl rfl ?_; rw [← HW2.out]))
  clear p0 p1 p2 p3 p4 HW2
  refine Calls.mono (rback_any _ 3 3 _ rfl (Nat.le_refl _) (by unfold maxLen; omega) (by omega) W2 Hrow.out Hrw.out b1 Hb1.out) ?_
  rintro e w3 ⟨rfl, hb3⟩
  have q5 : w3.cell? ⟨w.heap.size, 103, none⟩ = some (.slice Ab nb cb) := (hb3.cell (p := ⟨w.heap.size, 103, none⟩) (show w.heap.size < W2.heap.size by omega)).trans q4
  have hb3w : Below w.heap.size w w3 := hb2w.trans (hb3.mono hb2w.size)
  have hsz3 := hb3.size
  clear q4 hb2w hb3
  cases b1 with
  | false =>
    have Hno : Hid (b = false) := Lib.hid (by rw [Hb.out]; simp)
    clear Hb
    go_wp2_with fail
    go_ret
    exact ⟨by rw [Hno.out]; rfl, hb3w⟩
  | true =>
    rw [Bool.true_and] at Hb
    go_wp2_with fail
    refine Calls.mono (nback_any Ab nb cb x.c.bins Hnb.out Hlb.out.1 Hlb.out.2.1 Hlb.out.2.2 w3 ((Hbins.out.below hb3w (Nat.le_refl _)).more hb3w.size) Hbw.out b2 Hb2.out) ?_
    rintro e w4 ⟨rfl, hb4⟩
    have q6 : w4.cell? ⟨w.heap.size, 103, none⟩ = some (.slice Ab nb cb) := (hb4.cell (p := ⟨w.heap.size, 103, none⟩) (show w.heap.size < w3.heap.size by omega)).trans q5
    have hb4w : Below w.heap.size w w4 := hb3w.trans (hb4.mono hb3w.size)
    clear q5 hb3w hb4
    cases b2 with
    | false =>
      have Hno : Hid (b = false) := Lib.hid (by rw [Hb.out]; simp)
      clear Hb
      go_wp2_with fail
      go_ret
      exact ⟨by rw [Hno.out]; rfl, hb4w⟩
    | true =>
      rw [Bool.true_and] at Hb
      go_wp2_with fail
      refine Calls.mono (rise_any Ab nb cb x.c.bins Hnb.out Hlb.out.1 Hlb.out.2.1 w4 ((Hbins.out.below hb4w (Nat.le_refl _)).more hb4w.size) b3 Hb3.out) ?_
      rintro e w5 ⟨rfl, hb5⟩
      have hb5w : Below w.heap.size w w5 := hb4w.trans (hb5.mono hb4w.size)
      clear q6 hb4w hb5
      go_wp2_with fail
      go_ret
      exact ⟨by rw [Hb.out]; rfl, hb5w⟩

end Go.Proofs.Ytkepfigoeaheaaa

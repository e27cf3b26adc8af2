/-
  The image of an operation on one of its blocks.
-/
import Derived.Test.YtcajhndhjlfmaaaModOps2
namespace Go.Proofs.Ytcajhndhjlfmaaa
open Go.RowKit
set_option linter.unusedVariables false
set_option linter.unusedSimpArgs false

theorem results_cell2M {P : Program} {fn : Func} {p u : Tmp} {ty : TypeId} (h : fn.results = #[.cell p ty, .tmp u]) (tmps : Array Value) (w : World) (g : Nat) (t : TypeId) (cs : Array Value) (fr : Nat × Nat) (d : TypeDesc)
    (hp : tmps.getD p undef = .pointer (some ⟨g, 0, none⟩)) (x : Value) (hx : tmps.getD u undef = x) (hg : w.heap[g]? = some (.cells cs t fr))
    (hu : P.underlying ty = some d) (hd : (match d with | .struct _ | .array _ _ => true | _ => false) = true) (hi : (P.info? ty).map (·.size) = some cs.size) :
    (results fn tmps).run P w = .ok (.tuple #[.agg cs, x]) w := by
  rw [results_cell_tmp h, hp, hx]
  simp only [asAddr, Sem.run_pure, Result.andThen_ok, run_loadVar_row w g t ty cs fr d hg hu hd hi]

theorem opSize : (Try.prog.info? 44).map (·.size) = some 53 := by kernel_rfl
theorem img_f0 (q : Int) (fr : Bool) (mo : Option Nat) (w : World) : (Instr.field 114 (.agg #[.int .i64 q, .bool fr, .map mo]) 0).run Try.prog w = .ok (.int .i64 q) w := by kernel_rfl
theorem img_f1 (q : Int) (fr : Bool) (mo : Option Nat) (w : World) : (Instr.field 114 (.agg #[.int .i64 q, .bool fr, .map mo]) 1).run Try.prog w = .ok (.bool fr) w := by kernel_rfl
theorem img_f2 (q : Int) (fr : Bool) (mo : Option Nat) (w : World) : (Instr.field 114 (.agg #[.int .i64 q, .bool fr, .map mo]) 2).run Try.prog w = .ok (.map mo) w := by kernel_rfl
theorem wp_store_row_toM {P : Program} {o : Oper} {a : Act} {w : World} {K : Act → World → Prop} {Q : Exit → Act → World → Prop} (hd : o.dst = none) (ty : TypeId) (x y : Operand) (ho : o.op = .store ty x y)
    (g : Nat) (cells : Array Value) (hx : a.eval x = .pointer (some ⟨g, 0, none⟩)) (hy : a.eval y = .agg cells)
    (t : TypeId) (old : Array Value) (hg : w.heap[g]? = some (.cells old t (0, 0))) (hi : (P.info? ty).map (·.size) = some cells.size)
    (hold : old.size = cells.size) (h1 : cells.all (·.oneCell') = true)
    (h : K a (w.setRow g cells)) : o.wp P a w K Q :=
  wp_store_row ty x y ho g cells hx hy t old hg hi hold h1 (by rw [hd]; exact h)
theorem opC_at {o : Op15} {OL : List Value} (h : OL = opC o) : OL[0]? = some (.int .i64 o.kind) ∧ OL[1]? = some (.string o.name) ∧ OL[2]? = some (.string o.other) ∧ OL[3]? = some (.int .i64 o.num) ∧ OL[4]? = some (.int .i64 o.quota) := by
  subst h
  exact ⟨rfl, rfl, rfl, rfl, rfl⟩
def ixZ : Ix := ⟨0, false, none⟩
def ofF (M : List Vm) (nm : ByteArray) (n : Int) (ch : Bool) : Ix × Int :=
  match findM M nm with
  | none => (ixZ, 5)
  | some m => if numB n = false then (ixZ, 2) else if (m.v.frozen && ch) = true then (ixZ, 10) else (ixOf (some m), 0)

set_option maxHeartbeats 4000000 in
set_option maxRecDepth 100000 in
theorem of_any (s mb : Nat) (o : Op15) (ho : OpOk o) (OL : List Value) (hOL : OL = opC o) (w : World) (F : Nat → Prop) (M : List Vm) (h : MdQ w F s mb M) (ch : Bool) (hch : changesB o.kind = ch) (X : Ix) (k : Int) (hX : ofF M o.name o.num ch = (X, k)) :
    Calls Try.prog 77 #[.pointer (some ⟨s, 0, none⟩), .agg OL.toArray] w fun e w' => e = .returned (.tuple #[imgV X, .int .i64 k]) ∧ Below w.heap.size w w' := by
  obtain ⟨hk0, hk1, _, hk3, _⟩ := opC_at hOL
  obtain ⟨W1, hW1⟩ : ∃ z, z = w.alloc (.cells OL.toArray 44) := ⟨_, rfl⟩
  have hb1 : Below w.heap.size w W1 := by rw [hW1]; exact (Below.refl _ _).alloc (Nat.le_refl _) _
  have hA1 : Arr W1 w.heap.size 44 OL := by rw [hW1]; exact Arr.new w _ _
  obtain ⟨W2, hW2⟩ : ∃ z, z = W1.alloc (.cells #[.int .i64 0, .bool false, .map none] 114) := ⟨_, rfl⟩
  have hs1 : W1.heap.size = w.heap.size + 1 := by rw [hW1]; simp
  have hb2 : Below w.heap.size w W2 := by rw [hW2]; exact hb1.alloc hb1.size _
  have hA2 : Arr W2 w.heap.size 44 OL := by rw [hW2]; exact hA1.up ((Below.refl _ W1).alloc (Nat.le_refl _) _)
  have hZ2 : Arr W2 (w.heap.size + 1) 114 [.int .i64 0, .bool false, .map none] := by rw [hW2, ← hs1]; exact Arr.new W1 _ [.int .i64 0, .bool false, .map none]
  obtain ⟨g, hg⟩ : ∃ z, z = w.heap.size := ⟨_, rfl⟩
  obtain ⟨nm, hnm⟩ : ∃ z, z = o.name := ⟨_, rfl⟩
  obtain ⟨kd, hkd⟩ : ∃ z, z = o.kind := ⟨_, rfl⟩
  obtain ⟨n, hn⟩ : ∃ z, z = o.num := ⟨_, rfl⟩
  have hsz := ho.n1
  rw [← hnm] at hk1 hX hsz
  rw [← hkd] at hk0 hch
  rw [← hn] at hk3 hX
  rw [← hg] at hA2 hZ2
  have hc0 := hA2.cell 0
  have hc1 := hA2.cell 1
  have hc3 := hA2.cell 3
  rw [hk0] at hc0
  rw [hk1] at hc1
  rw [hk3] at hc3
  have HW := Lib.hid (show W2 = (w.alloc (.cells OL.toArray 44)).alloc (.cells #[.int .i64 0, .bool false, .map none] 114) by rw [hW2, hW1])
  have HQ := Lib.hid h
  have HQ2 := Lib.hid (h.below hb2)
  have Hb2 := Lib.hid hb2
  have Hg := Lib.hid hg
  have HA2 := Lib.hid hA2
  have Hc0 := Lib.hid hk0
  have Hc1 := Lib.hid hk1
  have Hc3 := Lib.hid hk3
  obtain ⟨ZL, hZL⟩ : ∃ z : List Value, z = [.int .i64 0, .bool false, .map none] := ⟨_, rfl⟩
  rw [← hZL] at hZ2
  have HZs := Lib.hid (show ZL.toArray.size = 3 by rw [hZL]; rfl)
  have HZL := Lib.hid hZL
  have HZ2 := Lib.hid hZ2
  have hslt := h.Flt s h.Fs
  clear hZL hW1 hW2 hb1 hA1 hs1 hOL hk0 hk1 hk3 hb2 hA2 hZ2 ho h hnm hkd hn hg
  unfold ofF at hX
  go_enter Try.func77, Try.ntmps77
  go_upto_region 1 with fail
  rw [← HW.out, ← Hg.out]
  cases hf : findM M nm with
  | none =>
    rw [hf] at hX
    injection hX with hX1 hX2
    subst hX1 hX2
    have hb : hasM M nm = false := by rw [hasM_find, hf]; rfl
    clear hf
    go_wp2_with fail
    refine Calls.mono (has_anyM s mb nm hsz W2 F M HQ2.out false hb) ?_
    rintro e w4 ⟨rfl, hb4⟩
    have hB4 := Hb2.out.trans (hb4.mono Hb2.out.size)
    have hz4 := HZ2.out.up hb4
    clear hc0 hc1 hc3 hb
    clear hb4
    have Hset := Lib.hid (hz4.setRow [.int .i64 0, .bool false, .map none])
    have Hbe := Lib.hid (show Below w.heap.size w (w4.setRow (g + 1) ([.int .i64 0, .bool false, .map none] : List Value).toArray) from hB4.trans (((Only.refl (fun k => k = g + 1) w4).setRow (.inl rfl) ([.int .i64 0, .bool false, .map none] : List Value).toArray).below hB4.size (by rintro k rfl; have := Hg.out; omega)))
    go_wp2_with (refine wpList_store_row rfl _ _ _ rfl (g + 1) ([.int .i64 0, .bool false, .map none] : List Value).toArray rfl rfl 114 ZL.toArray hz4 imgSize HZs.out (by simp [Value.oneCell']) ?_)
    (try simp only [Exit.inBlock, Exit.then])
    obtain ⟨V, hV⟩ : ∃ V, V = Value.tuple #[.agg ([.int .i64 0, .bool false, .map none] : List Value).toArray, .int .i64 5] := ⟨_, rfl⟩
    refine bodyPost_ret (v := V) ?hx1 ?h2 ?h3
    case hx1 => rw [hV]; exact results_cell2M (fn := Try.f77) (by rfl) _ _ (g + 1) 114 ([.int .i64 0, .bool false, .map none] : List Value).toArray (0, 0) _ (by rfl) _ (by rfl) Hset.out Try.underlying114 rfl imgSize
    case h2 => rfl
    case h3 => exact ⟨by rw [hV]; rfl, Hbe.out⟩
  | some m =>
    rw [hf] at hX
    dsimp only at hX
    have hb : hasM M nm = true := by rw [hasM_find, hf]; rfl
    have Hlk := Lib.hid (fun (w' : World) (F1 : Nat → Prop) (hw : MdQ w' F1 s mb M) => show (Instr.lookup 98 (.map (some mb)) (.string nm) false).run Try.prog w' = .ok (.agg #[.int .i64 (m.v.quota : Nat), .bool m.v.frozen, .map (some m.bb)]) w' by have := hw.look (nm := nm) hsz; rw [hf] at this; exact this)
    cases hnb : numB n with
    | false =>
      rw [hnb, if_pos rfl] at hX
      injection hX with hX1 hX2
      subst hX1 hX2
      have hno := numB_no hnb
      clear hf hnb Hlk
      go_wp2_with fail
      refine Calls.mono (has_anyM s mb nm hsz W2 F M HQ2.out true hb) ?_
      rintro e w4 ⟨rfl, hb4⟩
      have hB4 := Hb2.out.trans (hb4.mono Hb2.out.size)
      have hz4 := HZ2.out.up hb4
      have hA4 := HA2.out.up hb4
      have hn4 : w4.cell? ⟨g, 1, none⟩ = some (.string nm) := by rw [hA4.cell]; exact Hc1.out
      have hk4 : w4.cell? ⟨g, 0, none⟩ = some (.int .i64 kd) := by rw [hA4.cell]; exact Hc0.out
      have hm4 : w4.cell? ⟨g, 3, none⟩ = some (.int .i64 n) := by rw [hA4.cell]; exact Hc3.out
      have HQ4 := Lib.hid (HQ2.out.below hb4)
      have HA4 := Lib.hid hA4
      clear hA4 hc0 hc1 hc3
      by_cases h0 : n < 0
      · have hd : decide (n < 0) = true := by simpa using h0
        clear hb4
        have Hset := Lib.hid (hz4.setRow [.int .i64 0, .bool false, .map none])
        have Hbe := Lib.hid (show Below w.heap.size w (w4.setRow (g + 1) ([.int .i64 0, .bool false, .map none] : List Value).toArray) from hB4.trans (((Only.refl (fun k => k = g + 1) w4).setRow (.inl rfl) ([.int .i64 0, .bool false, .map none] : List Value).toArray).below hB4.size (by rintro k rfl; have := Hg.out; omega)))
        go_wp2_with (refine wpList_store_row rfl _ _ _ rfl (g + 1) ([.int .i64 0, .bool false, .map none] : List Value).toArray rfl rfl 114 ZL.toArray hz4 imgSize HZs.out (by simp [Value.oneCell']) ?_)
        (try simp only [Exit.inBlock, Exit.then])
        obtain ⟨V, hV⟩ : ∃ V, V = Value.tuple #[.agg ([.int .i64 0, .bool false, .map none] : List Value).toArray, .int .i64 2] := ⟨_, rfl⟩
        refine bodyPost_ret (v := V) ?hx1 ?h2 ?h3
        case hx1 => rw [hV]; exact results_cell2M (fn := Try.f77) (by rfl) _ _ (g + 1) 114 ([.int .i64 0, .bool false, .map none] : List Value).toArray (0, 0) _ (by rfl) _ (by rfl) Hset.out Try.underlying114 rfl imgSize
        case h2 => rfl
        case h3 => exact ⟨by rw [hV]; rfl, Hbe.out⟩
      · have hd : decide (n < 0) = false := by simpa using h0
        have hd2 : decide (n ≥ 1048576) = true := by simp; omega
        clear hb4
        have Hset := Lib.hid (hz4.setRow [.int .i64 0, .bool false, .map none])
        have Hbe := Lib.hid (show Below w.heap.size w (w4.setRow (g + 1) ([.int .i64 0, .bool false, .map none] : List Value).toArray) from hB4.trans (((Only.refl (fun k => k = g + 1) w4).setRow (.inl rfl) ([.int .i64 0, .bool false, .map none] : List Value).toArray).below hB4.size (by rintro k rfl; have := Hg.out; omega)))
        go_wp2_with (refine wpList_store_row rfl _ _ _ rfl (g + 1) ([.int .i64 0, .bool false, .map none] : List Value).toArray rfl rfl 114 ZL.toArray hz4 imgSize HZs.out (by simp [Value.oneCell']) ?_)
        (try simp only [Exit.inBlock, Exit.then])
        obtain ⟨V, hV⟩ : ∃ V, V = Value.tuple #[.agg ([.int .i64 0, .bool false, .map none] : List Value).toArray, .int .i64 2] := ⟨_, rfl⟩
        refine bodyPost_ret (v := V) ?hx1 ?h2 ?h3
        case hx1 => rw [hV]; exact results_cell2M (fn := Try.f77) (by rfl) _ _ (g + 1) 114 ([.int .i64 0, .bool false, .map none] : List Value).toArray (0, 0) _ (by rfl) _ (by rfl) Hset.out Try.underlying114 rfl imgSize
        case h2 => rfl
        case h3 => exact ⟨by rw [hV]; rfl, Hbe.out⟩
    | true =>
      have hyes := numB_yes hnb
      rw [hnb, if_neg (by simp)] at hX
      have hd : decide (n < 0) = false := by simp; omega
      have hd2 : decide (n ≥ 1048576) = false := by simp; omega
      clear hf hnb
      go_wp2_with fail
      refine Calls.mono (has_anyM s mb nm hsz W2 F M HQ2.out true hb) ?_
      rintro e w4 ⟨rfl, hb4⟩
      have hB4 := Hb2.out.trans (hb4.mono Hb2.out.size)
      have hz4 := HZ2.out.up hb4
      have hA4 := HA2.out.up hb4
      have hn4 : w4.cell? ⟨g, 1, none⟩ = some (.string nm) := by rw [hA4.cell]; exact Hc1.out
      have hk4 : w4.cell? ⟨g, 0, none⟩ = some (.int .i64 kd) := by rw [hA4.cell]; exact Hc0.out
      have hm4 : w4.cell? ⟨g, 3, none⟩ = some (.int .i64 n) := by rw [hA4.cell]; exact Hc3.out
      have HQ4 := Lib.hid (HQ2.out.below hb4)
      have HA4 := Lib.hid hA4
      clear hA4 hc0 hc1 hc3
      cases hfz : m.v.frozen with
      | false =>
        rw [hfz, Bool.false_and, if_neg (by simp)] at hX
        injection hX with hX1 hX2
        subst hX1 hX2
        rw [hfz] at Hlk
        go_upto_region 5 with fail
        refine wp_region_held_drew (S := fun w' => MdQ w' F s mb M ∧ w'.cell? ⟨g, 1, none⟩ = some (.string nm) ∧ w'.cell? ⟨g, 0, none⟩ = some (.int .i64 kd)) (by kernel_rfl) ⟨HQ4.out.kept (fun _ _ => rfl) (fun _ h => h) HQ4.out.Flt, hn4, hk4⟩ (fun hHeld => ?_)
        refine anyH_take (i := 0) (v := .pointer (some ⟨s, 0, none⟩)) (some 24) rfl rfl (by kernel_rfl) (by kernel_rfl) (by kernel_rfl) (fun _ _ _ h => h) (Or.inl ⟨by rfl, fun w' hw => by rfl⟩) (by assumption) ?_
        simp only [Act.put, List.setIfInBounds_toArray, List.set_cons_zero, List.set_cons_succ]
        refine anyH_take (i := 1) (v := .pointer (some ⟨s, 0, none⟩)) (some 25) rfl rfl (by kernel_rfl) (by kernel_rfl) (by kernel_rfl) (fun _ _ _ h => h) (Or.inl ⟨by rfl, fun w' hw => by (go_simp)⟩) (by assumption) ?_
        simp only [Act.put, List.setIfInBounds_toArray, List.set_cons_zero, List.set_cons_succ]
        refine anyH_take (i := 2) (v := .pointer (some ⟨s, 0, none⟩)) (some 26) rfl rfl (by kernel_rfl) (by kernel_rfl) (by kernel_rfl) (fun _ _ _ h => h) (Or.inl ⟨by rfl, fun w' hw => by (go_simp)⟩) (by assumption) ?_
        simp only [Act.put, List.setIfInBounds_toArray, List.set_cons_zero, List.set_cons_succ]
        refine anyH_take (i := 3) (v := .map (some mb)) (some 27) rfl rfl (by kernel_rfl) (by kernel_rfl) (by kernel_rfl) (fun _ _ _ h => h) (Or.inl ⟨by rfl, fun w' hw => by (have hc0 := md_cell hw.1; go_simp)⟩) (by assumption) ?_
        simp only [Act.put, List.setIfInBounds_toArray, List.set_cons_zero, List.set_cons_succ]
        refine anyH_take (i := 4) (v := .pointer (some ⟨g, 1, none⟩)) (some 28) rfl rfl (by kernel_rfl) (by kernel_rfl) (by kernel_rfl) (fun _ _ _ h => h) (Or.inl ⟨by rfl, fun w' hw => by (go_simp)⟩) (by assumption) ?_
        simp only [Act.put, List.setIfInBounds_toArray, List.set_cons_zero, List.set_cons_succ]
        refine anyH_take (i := 5) (v := .string nm) (some 29) rfl rfl (by kernel_rfl) (by kernel_rfl) (by kernel_rfl) (fun _ _ _ h => h) (Or.inl ⟨by rfl, fun w' hw => by (have hc0 := hw.2.1; go_simp)⟩) (by assumption) ?_
        simp only [Act.put, List.setIfInBounds_toArray, List.set_cons_zero, List.set_cons_succ]
        refine anyH_take (i := 6) (v := .agg #[.int .i64 (m.v.quota : Nat), .bool false, .map (some m.bb)]) (some 30) rfl rfl (by kernel_rfl) (by kernel_rfl) (by kernel_rfl) (fun _ _ _ h => h) (Or.inl ⟨by rfl, fun w' hw => by (have hl0 := Hlk.out w' F hw.1; go_simp)⟩) (by assumption) ?_
        simp only [Act.put, List.setIfInBounds_toArray, List.set_cons_zero, List.set_cons_succ]
        refine anyH_take (i := 7) (v := .bool false) (some 31) rfl rfl (by kernel_rfl) (by kernel_rfl) (by kernel_rfl) (fun _ _ _ h => h) (Or.inl ⟨by rfl, fun w' hw => by (have hf0 := img_f1; go_simp)⟩) (by assumption) ?_
        simp only [Act.put, List.setIfInBounds_toArray, List.set_cons_zero, List.set_cons_succ]
        refine anyH_take (i := 8) (v := .bool false) (some 32) rfl rfl (by kernel_rfl) (by kernel_rfl) (by kernel_rfl) (fun _ _ _ h => h) (Or.inl ⟨by rfl, fun w' hw => by (go_simp)⟩) (by assumption) ?_
        simp only [Act.put, List.setIfInBounds_toArray, List.set_cons_zero, List.set_cons_succ]
        refine anyH_take (i := 9) (v := undef) (some 33) rfl rfl (by kernel_rfl) (by kernel_rfl) (by kernel_rfl) (fun _ _ _ h => h) (Or.inr ⟨by rfl, rfl⟩) (by assumption) ?_
        simp only [Act.put, List.setIfInBounds_toArray, List.set_cons_zero, List.set_cons_succ]
        refine anyH_take (i := 10) (v := undef) (some 34) rfl rfl (by kernel_rfl) (by kernel_rfl) (by kernel_rfl) (fun _ _ _ h => h) (Or.inr ⟨by rfl, rfl⟩) (by assumption) ?_
        simp only [Act.put, List.setIfInBounds_toArray, List.set_cons_zero, List.set_cons_succ]
        refine anyH_take (i := 11) (v := undef) (some 35) rfl rfl (by kernel_rfl) (by kernel_rfl) (by kernel_rfl) (fun _ _ _ h => h) (Or.inr ⟨by rfl, rfl⟩) (by assumption) ?_
        simp only [Act.put, List.setIfInBounds_toArray, List.set_cons_zero, List.set_cons_succ]
        refine anyH_take (i := 12) (v := .bool false) (some 36) rfl rfl (by kernel_rfl) (by kernel_rfl) (by kernel_rfl) (fun _ _ _ h => h) (Or.inl ⟨by rfl, fun w' hw => by (go_simp)⟩) (by assumption) ?_
        simp only [Act.put, List.setIfInBounds_toArray, List.set_cons_zero, List.set_cons_succ]
        refine anyH_take (i := 13) (v := .bool false) (some 23) rfl rfl (by kernel_rfl) (by kernel_rfl) (by kernel_rfl) (fun _ _ _ h => h) (Or.inl ⟨by rfl, fun w' hw => by (go_simp)⟩) (by assumption) ?_
        simp only [Act.put, List.setIfInBounds_toArray, List.set_cons_zero, List.set_cons_succ]
        refine wpAnyH_done (by kernel_rfl) ?_ _
        go_upto_region 7 with fail
        have hO4 : Only (fun k => k = g + 1) (w4.drew.drew) ((w4.drew.drew).setRow (g + 1) ([.int .i64 (m.v.quota : Nat), .bool false, .map (some m.bb)] : List Value).toArray) := (Only.refl (fun k => k = g + 1) _).setRow (.inl rfl) _
        have hgF : ∀ b, F b → b < w.heap.size ∧ b ≠ g + 1 := fun b hb => ⟨HQ.out.Flt b hb, by have := HQ.out.Flt b hb; have := Hg.out; omega⟩
        have hQs : MdQ ((w4.drew.drew).setRow (g + 1) ([.int .i64 (m.v.quota : Nat), .bool false, .map (some m.bb)] : List Value).toArray) F s mb M := HQ4.out.kept (fun b hF => hO4.block b (HQ4.out.Flt b hF) (hgF b hF).2) (fun _ h => h) (fun b hF => Nat.lt_of_lt_of_le (HQ4.out.Flt b hF) hO4.size)
        have hns : ((w4.drew.drew).setRow (g + 1) ([.int .i64 (m.v.quota : Nat), .bool false, .map (some m.bb)] : List Value).toArray).cell? ⟨g, 1, none⟩ = some (.string nm) := (World.cell?_of_block (hO4.block g (HA4.out.lt) (by omega))).trans hn4
        have hBd : Below w.heap.size w (w4.drew.drew) := Below.dN (Below.dN hB4 1) 1
        have Hset := Lib.hid ((show Arr (w4.drew.drew) (g + 1) 114 ZL from hz4).setRow ([.int .i64 (m.v.quota : Nat), .bool false, .map (some m.bb)] : List Value))
        have Hbe := Lib.hid (hBd.trans (hO4.below hBd.size (by rintro k rfl; have := Hg.out; omega)))
        refine wp_region_held_drew (S := fun w' => ∃ F1, MdQ w' F1 s mb M ∧ w'.cell? ⟨g, 1, none⟩ = some (.string nm)) (by kernel_rfl) ⟨F, HQ4.out.kept (fun _ _ => rfl) (fun _ h => h) HQ4.out.Flt, hn4⟩ (fun hHeld => ?_)
        refine anyH_take (i := 0) (v := .pointer (some ⟨s, 0, none⟩)) (some 38) rfl rfl (by kernel_rfl) (by kernel_rfl) (by kernel_rfl) (fun _ _ _ h => h) (Or.inl ⟨by rfl, fun w' hw => by rfl⟩) (by assumption) ?_
        simp only [Act.put, List.setIfInBounds_toArray, List.set_cons_zero, List.set_cons_succ]
        refine anyH_take (i := 1) (v := .pointer (some ⟨s, 0, none⟩)) (some 39) rfl rfl (by kernel_rfl) (by kernel_rfl) (by kernel_rfl) (fun _ _ _ h => h) (Or.inl ⟨by rfl, fun w' hw => by (go_simp)⟩) (by assumption) ?_
        simp only [Act.put, List.setIfInBounds_toArray, List.set_cons_zero, List.set_cons_succ]
        refine anyH_take (i := 2) (v := .pointer (some ⟨s, 0, none⟩)) (some 40) rfl rfl (by kernel_rfl) (by kernel_rfl) (by kernel_rfl) (fun _ _ _ h => h) (Or.inl ⟨by rfl, fun w' hw => by (go_simp)⟩) (by assumption) ?_
        simp only [Act.put, List.setIfInBounds_toArray, List.set_cons_zero, List.set_cons_succ]
        refine anyH_take (i := 3) (v := .map (some mb)) (some 41) rfl rfl (by kernel_rfl) (by kernel_rfl) (by kernel_rfl) (fun _ _ _ h => h) (Or.inl ⟨by rfl, fun w' hw => by (obtain ⟨F1, hw1, _⟩ := hw; have hc0 := md_cell hw1; go_simp)⟩) (by assumption) ?_
        simp only [Act.put, List.setIfInBounds_toArray, List.set_cons_zero, List.set_cons_succ]
        refine anyH_take (i := 4) (v := .pointer (some ⟨g, 1, none⟩)) (some 42) rfl rfl (by kernel_rfl) (by kernel_rfl) (by kernel_rfl) (fun _ _ _ h => h) (Or.inl ⟨by rfl, fun w' hw => by (go_simp)⟩) (by assumption) ?_
        simp only [Act.put, List.setIfInBounds_toArray, List.set_cons_zero, List.set_cons_succ]
        refine anyH_take (i := 5) (v := .string nm) (some 43) rfl rfl (by kernel_rfl) (by kernel_rfl) (by kernel_rfl) (fun _ _ _ h => h) (Or.inl ⟨by rfl, fun w' hw => by (obtain ⟨F1, _, hc0⟩ := hw; go_simp)⟩) (by assumption) ?_
        simp only [Act.put, List.setIfInBounds_toArray, List.set_cons_zero, List.set_cons_succ]
        refine anyH_take (i := 6) (v := .agg #[.int .i64 (m.v.quota : Nat), .bool false, .map (some m.bb)]) (some 44) rfl rfl (by kernel_rfl) (by kernel_rfl) (by kernel_rfl) (fun _ _ _ h => h) (Or.inl ⟨by rfl, fun w' hw => by (obtain ⟨F1, hw1, _⟩ := hw; have hl0 := Hlk.out w' F1 hw1; go_simp)⟩) (by assumption) ?_
        simp only [Act.put, List.setIfInBounds_toArray, List.set_cons_zero, List.set_cons_succ]
        refine wpAnyH_ready (rs := [7]) (by kernel_rfl) (by simp) ?_
        refine AllReadyH.cons rfl (fun K hK => ?_) AllReadyH.nil
        refine wp_store_row_toM rfl _ _ _ rfl (g + 1) ([.int .i64 (m.v.quota : Nat), .bool false, .map (some m.bb)] : List Value).toArray rfl rfl 114 ZL.toArray hz4 imgSize HZs.out (by simp [Value.oneCell']) ?_
        refine hK.out _ _ ⟨F, hQs, hns⟩ (fun hHeldx => ?_)
        clear hK K
        try simp only [Act.put, List.setIfInBounds_toArray, List.set_cons_zero, List.set_cons_succ]
        refine anyH_take (i := 8) (v := .int .i64 0) (some 5) rfl rfl (by kernel_rfl) (by kernel_rfl) (by kernel_rfl) (fun _ _ _ h => h) (Or.inl ⟨by rfl, fun w' hw => by rfl⟩) (by assumption) ?_
        simp only [Act.put, List.setIfInBounds_toArray, List.set_cons_zero, List.set_cons_succ]
        refine wpAnyH_done (by kernel_rfl) ?_ _
        clear hO4 hgF hQs hns hBd
        go_wp2_with fail
        (try simp only [Exit.inBlock, Exit.then])
        obtain ⟨V, hV⟩ : ∃ V, V = Value.tuple #[.agg ([.int .i64 (m.v.quota : Nat), .bool false, .map (some m.bb)] : List Value).toArray, .int .i64 0] := ⟨_, rfl⟩
        refine bodyPost_ret (v := V) ?hx1 ?h2 ?h3
        case hx1 => rw [hV]; exact results_cell2M (fn := Try.f77) (by rfl) _ _ (g + 1) 114 ([.int .i64 (m.v.quota : Nat), .bool false, .map (some m.bb)] : List Value).toArray (0, 0) _ (by rfl) _ (by rfl) Hset.out Try.underlying114 rfl imgSize
        case h2 => rfl
        case h3 => exact ⟨by rw [hV]; dsimp only [imgV, ixOf]; rw [hfz], Hbe.out⟩
      | true =>
        rw [hfz] at Hlk hX
        cases ch with
        | false =>
          rw [Bool.and_false, if_neg (by simp)] at hX
          injection hX with hX1 hX2
          subst hX1 hX2
          go_upto_region 5 with fail
          refine wp_region_held_drew (S := fun w' => MdQ w' F s mb M ∧ w'.cell? ⟨g, 1, none⟩ = some (.string nm) ∧ w'.cell? ⟨g, 0, none⟩ = some (.int .i64 kd)) (by kernel_rfl) ⟨HQ4.out.kept (fun _ _ => rfl) (fun _ h => h) HQ4.out.Flt, hn4, hk4⟩ (fun hHeld => ?_)
          refine anyH_take (i := 0) (v := .pointer (some ⟨s, 0, none⟩)) (some 24) rfl rfl (by kernel_rfl) (by kernel_rfl) (by kernel_rfl) (fun _ _ _ h => h) (Or.inl ⟨by rfl, fun w' hw => by rfl⟩) (by assumption) ?_
          simp only [Act.put, List.setIfInBounds_toArray, List.set_cons_zero, List.set_cons_succ]
          refine anyH_take (i := 1) (v := .pointer (some ⟨s, 0, none⟩)) (some 25) rfl rfl (by kernel_rfl) (by kernel_rfl) (by kernel_rfl) (fun _ _ _ h => h) (Or.inl ⟨by rfl, fun w' hw => by (go_simp)⟩) (by assumption) ?_
          simp only [Act.put, List.setIfInBounds_toArray, List.set_cons_zero, List.set_cons_succ]
          refine anyH_take (i := 2) (v := .pointer (some ⟨s, 0, none⟩)) (some 26) rfl rfl (by kernel_rfl) (by kernel_rfl) (by kernel_rfl) (fun _ _ _ h => h) (Or.inl ⟨by rfl, fun w' hw => by (go_simp)⟩) (by assumption) ?_
          simp only [Act.put, List.setIfInBounds_toArray, List.set_cons_zero, List.set_cons_succ]
          refine anyH_take (i := 3) (v := .map (some mb)) (some 27) rfl rfl (by kernel_rfl) (by kernel_rfl) (by kernel_rfl) (fun _ _ _ h => h) (Or.inl ⟨by rfl, fun w' hw => by (have hc0 := md_cell hw.1; go_simp)⟩) (by assumption) ?_
          simp only [Act.put, List.setIfInBounds_toArray, List.set_cons_zero, List.set_cons_succ]
          refine anyH_take (i := 4) (v := .pointer (some ⟨g, 1, none⟩)) (some 28) rfl rfl (by kernel_rfl) (by kernel_rfl) (by kernel_rfl) (fun _ _ _ h => h) (Or.inl ⟨by rfl, fun w' hw => by (go_simp)⟩) (by assumption) ?_
          simp only [Act.put, List.setIfInBounds_toArray, List.set_cons_zero, List.set_cons_succ]
          refine anyH_take (i := 5) (v := .string nm) (some 29) rfl rfl (by kernel_rfl) (by kernel_rfl) (by kernel_rfl) (fun _ _ _ h => h) (Or.inl ⟨by rfl, fun w' hw => by (have hc0 := hw.2.1; go_simp)⟩) (by assumption) ?_
          simp only [Act.put, List.setIfInBounds_toArray, List.set_cons_zero, List.set_cons_succ]
          refine anyH_take (i := 6) (v := .agg #[.int .i64 (m.v.quota : Nat), .bool true, .map (some m.bb)]) (some 30) rfl rfl (by kernel_rfl) (by kernel_rfl) (by kernel_rfl) (fun _ _ _ h => h) (Or.inl ⟨by rfl, fun w' hw => by (have hl0 := Hlk.out w' F hw.1; go_simp)⟩) (by assumption) ?_
          simp only [Act.put, List.setIfInBounds_toArray, List.set_cons_zero, List.set_cons_succ]
          refine anyH_take (i := 7) (v := .bool true) (some 31) rfl rfl (by kernel_rfl) (by kernel_rfl) (by kernel_rfl) (fun _ _ _ h => h) (Or.inl ⟨by rfl, fun w' hw => by (have hf0 := img_f1; go_simp)⟩) (by assumption) ?_
          simp only [Act.put, List.setIfInBounds_toArray, List.set_cons_zero, List.set_cons_succ]
          refine anyH_take (i := 8) (v := .bool true) (some 32) rfl rfl (by kernel_rfl) (by kernel_rfl) (by kernel_rfl) (fun _ _ _ h => h) (Or.inl ⟨by rfl, fun w' hw => by (go_simp)⟩) (by assumption) ?_
          simp only [Act.put, List.setIfInBounds_toArray, List.set_cons_zero, List.set_cons_succ]
          refine anyH_take (i := 9) (v := .pointer (some ⟨g, 0, none⟩)) (some 33) rfl rfl (by kernel_rfl) (by kernel_rfl) (by kernel_rfl) (fun _ _ _ h => h) (Or.inl ⟨by rfl, fun w' hw => by (go_simp)⟩) (by assumption) ?_
          simp only [Act.put, List.setIfInBounds_toArray, List.set_cons_zero, List.set_cons_succ]
          refine anyH_take (i := 10) (v := .int .i64 kd) (some 34) rfl rfl (by kernel_rfl) (by kernel_rfl) (by kernel_rfl) (fun _ _ _ h => h) (Or.inl ⟨by rfl, fun w' hw => by (have hc0 := hw.2.2; go_simp)⟩) (by assumption) ?_
          simp only [Act.put, List.setIfInBounds_toArray, List.set_cons_zero, List.set_cons_succ]
          refine wpAnyH_ready (rs := [11]) (by kernel_rfl) (by simp) ?_
          refine AllReadyH.cons rfl (fun K hK => ?_) AllReadyH.nil
          go_simp
          go_at_call 22
          refine Calls.mono (changes_any kd _ false hch) ?_
          rintro e w9 ⟨rfl, hw9⟩
          subst hw9
          go_wp2_with fail
          refine hK.out _ _ ⟨HQ4.out.kept (fun _ _ => rfl) (fun _ h => h) HQ4.out.Flt, hn4, hk4⟩ (fun hHeldx => ?_)
          clear hK K
          try simp only [Act.put, List.setIfInBounds_toArray, List.set_cons_zero, List.set_cons_succ]
          refine anyH_take (i := 12) (v := .bool false) (some 36) rfl rfl (by kernel_rfl) (by kernel_rfl) (by kernel_rfl) (fun _ _ _ h => h) (Or.inl ⟨by rfl, fun w' hw => by (go_simp)⟩) (by assumption) ?_
          simp only [Act.put, List.setIfInBounds_toArray, List.set_cons_zero, List.set_cons_succ]
          refine anyH_take (i := 13) (v := .bool false) (some 23) rfl rfl (by kernel_rfl) (by kernel_rfl) (by kernel_rfl) (fun _ _ _ h => h) (Or.inl ⟨by rfl, fun w' hw => by (go_simp)⟩) (by assumption) ?_
          simp only [Act.put, List.setIfInBounds_toArray, List.set_cons_zero, List.set_cons_succ]
          refine wpAnyH_done (by kernel_rfl) ?_ _
          go_upto_region 7 with fail
          have hO4 : Only (fun k => k = g + 1) (w4.drew.drew) ((w4.drew.drew).setRow (g + 1) ([.int .i64 (m.v.quota : Nat), .bool true, .map (some m.bb)] : List Value).toArray) := (Only.refl (fun k => k = g + 1) _).setRow (.inl rfl) _
          have hgF : ∀ b, F b → b < w.heap.size ∧ b ≠ g + 1 := fun b hb => ⟨HQ.out.Flt b hb, by have := HQ.out.Flt b hb; have := Hg.out; omega⟩
          have hQs : MdQ ((w4.drew.drew).setRow (g + 1) ([.int .i64 (m.v.quota : Nat), .bool true, .map (some m.bb)] : List Value).toArray) F s mb M := HQ4.out.kept (fun b hF => hO4.block b (HQ4.out.Flt b hF) (hgF b hF).2) (fun _ h => h) (fun b hF => Nat.lt_of_lt_of_le (HQ4.out.Flt b hF) hO4.size)
          have hns : ((w4.drew.drew).setRow (g + 1) ([.int .i64 (m.v.quota : Nat), .bool true, .map (some m.bb)] : List Value).toArray).cell? ⟨g, 1, none⟩ = some (.string nm) := (World.cell?_of_block (hO4.block g (HA4.out.lt) (by omega))).trans hn4
          have hBd : Below w.heap.size w (w4.drew.drew) := Below.dN (Below.dN hB4 1) 1
          have Hset := Lib.hid ((show Arr (w4.drew.drew) (g + 1) 114 ZL from hz4).setRow ([.int .i64 (m.v.quota : Nat), .bool true, .map (some m.bb)] : List Value))
          have Hbe := Lib.hid (hBd.trans (hO4.below hBd.size (by rintro k rfl; have := Hg.out; omega)))
          refine wp_region_held_drew (S := fun w' => ∃ F1, MdQ w' F1 s mb M ∧ w'.cell? ⟨g, 1, none⟩ = some (.string nm)) (by kernel_rfl) ⟨F, HQ4.out.kept (fun _ _ => rfl) (fun _ h => h) HQ4.out.Flt, hn4⟩ (fun hHeld => ?_)
          refine anyH_take (i := 0) (v := .pointer (some ⟨s, 0, none⟩)) (some 38) rfl rfl (by kernel_rfl) (by kernel_rfl) (by kernel_rfl) (fun _ _ _ h => h) (Or.inl ⟨by rfl, fun w' hw => by rfl⟩) (by assumption) ?_
          simp only [Act.put, List.setIfInBounds_toArray, List.set_cons_zero, List.set_cons_succ]
          refine anyH_take (i := 1) (v := .pointer (some ⟨s, 0, none⟩)) (some 39) rfl rfl (by kernel_rfl) (by kernel_rfl) (by kernel_rfl) (fun _ _ _ h => h) (Or.inl ⟨by rfl, fun w' hw => by (go_simp)⟩) (by assumption) ?_
          simp only [Act.put, List.setIfInBounds_toArray, List.set_cons_zero, List.set_cons_succ]
          refine anyH_take (i := 2) (v := .pointer (some ⟨s, 0, none⟩)) (some 40) rfl rfl (by kernel_rfl) (by kernel_rfl) (by kernel_rfl) (fun _ _ _ h => h) (Or.inl ⟨by rfl, fun w' hw => by (go_simp)⟩) (by assumption) ?_
          simp only [Act.put, List.setIfInBounds_toArray, List.set_cons_zero, List.set_cons_succ]
          refine anyH_take (i := 3) (v := .map (some mb)) (some 41) rfl rfl (by kernel_rfl) (by kernel_rfl) (by kernel_rfl) (fun _ _ _ h => h) (Or.inl ⟨by rfl, fun w' hw => by (obtain ⟨F1, hw1, _⟩ := hw; have hc0 := md_cell hw1; go_simp)⟩) (by assumption) ?_
          simp only [Act.put, List.setIfInBounds_toArray, List.set_cons_zero, List.set_cons_succ]
          refine anyH_take (i := 4) (v := .pointer (some ⟨g, 1, none⟩)) (some 42) rfl rfl (by kernel_rfl) (by kernel_rfl) (by kernel_rfl) (fun _ _ _ h => h) (Or.inl ⟨by rfl, fun w' hw => by (go_simp)⟩) (by assumption) ?_
          simp only [Act.put, List.setIfInBounds_toArray, List.set_cons_zero, List.set_cons_succ]
          refine anyH_take (i := 5) (v := .string nm) (some 43) rfl rfl (by kernel_rfl) (by kernel_rfl) (by kernel_rfl) (fun _ _ _ h => h) (Or.inl ⟨by rfl, fun w' hw => by (obtain ⟨F1, _, hc0⟩ := hw; go_simp)⟩) (by assumption) ?_
          simp only [Act.put, List.setIfInBounds_toArray, List.set_cons_zero, List.set_cons_succ]
          refine anyH_take (i := 6) (v := .agg #[.int .i64 (m.v.quota : Nat), .bool true, .map (some m.bb)]) (some 44) rfl rfl (by kernel_rfl) (by kernel_rfl) (by kernel_rfl) (fun _ _ _ h => h) (Or.inl ⟨by rfl, fun w' hw => by (obtain ⟨F1, hw1, _⟩ := hw; have hl0 := Hlk.out w' F1 hw1; go_simp)⟩) (by assumption) ?_
          simp only [Act.put, List.setIfInBounds_toArray, List.set_cons_zero, List.set_cons_succ]
          refine wpAnyH_ready (rs := [7]) (by kernel_rfl) (by simp) ?_
          refine AllReadyH.cons rfl (fun K hK => ?_) AllReadyH.nil
          refine wp_store_row_toM rfl _ _ _ rfl (g + 1) ([.int .i64 (m.v.quota : Nat), .bool true, .map (some m.bb)] : List Value).toArray rfl rfl 114 ZL.toArray hz4 imgSize HZs.out (by simp [Value.oneCell']) ?_
          refine hK.out _ _ ⟨F, hQs, hns⟩ (fun hHeldx => ?_)
          clear hK K
          try simp only [Act.put, List.setIfInBounds_toArray, List.set_cons_zero, List.set_cons_succ]
          refine anyH_take (i := 8) (v := .int .i64 0) (some 5) rfl rfl (by kernel_rfl) (by kernel_rfl) (by kernel_rfl) (fun _ _ _ h => h) (Or.inl ⟨by rfl, fun w' hw => by rfl⟩) (by assumption) ?_
          simp only [Act.put, List.setIfInBounds_toArray, List.set_cons_zero, List.set_cons_succ]
          refine wpAnyH_done (by kernel_rfl) ?_ _
          clear hO4 hgF hQs hns hBd
          go_wp2_with fail
          (try simp only [Exit.inBlock, Exit.then])
          obtain ⟨V, hV⟩ : ∃ V, V = Value.tuple #[.agg ([.int .i64 (m.v.quota : Nat), .bool true, .map (some m.bb)] : List Value).toArray, .int .i64 0] := ⟨_, rfl⟩
          refine bodyPost_ret (v := V) ?hx1 ?h2 ?h3
          case hx1 => rw [hV]; exact results_cell2M (fn := Try.f77) (by rfl) _ _ (g + 1) 114 ([.int .i64 (m.v.quota : Nat), .bool true, .map (some m.bb)] : List Value).toArray (0, 0) _ (by rfl) _ (by rfl) Hset.out Try.underlying114 rfl imgSize
          case h2 => rfl
          case h3 => exact ⟨by rw [hV]; dsimp only [imgV, ixOf]; rw [hfz], Hbe.out⟩
        | true =>
          rw [Bool.and_true, if_pos rfl] at hX
          injection hX with hX1 hX2
          subst hX1 hX2
          go_upto_region 5 with fail
          refine wp_region_held_drew (S := fun w' => MdQ w' F s mb M ∧ w'.cell? ⟨g, 1, none⟩ = some (.string nm) ∧ w'.cell? ⟨g, 0, none⟩ = some (.int .i64 kd)) (by kernel_rfl) ⟨HQ4.out.kept (fun _ _ => rfl) (fun _ h => h) HQ4.out.Flt, hn4, hk4⟩ (fun hHeld => ?_)
          refine anyH_take (i := 0) (v := .pointer (some ⟨s, 0, none⟩)) (some 24) rfl rfl (by kernel_rfl) (by kernel_rfl) (by kernel_rfl) (fun _ _ _ h => h) (Or.inl ⟨by rfl, fun w' hw => by rfl⟩) (by assumption) ?_
          simp only [Act.put, List.setIfInBounds_toArray, List.set_cons_zero, List.set_cons_succ]
          refine anyH_take (i := 1) (v := .pointer (some ⟨s, 0, none⟩)) (some 25) rfl rfl (by kernel_rfl) (by kernel_rfl) (by kernel_rfl) (fun _ _ _ h => h) (Or.inl ⟨by rfl, fun w' hw => by (go_simp)⟩) (by assumption) ?_
          simp only [Act.put, List.setIfInBounds_toArray, List.set_cons_zero, List.set_cons_succ]
          refine anyH_take (i := 2) (v := .pointer (some ⟨s, 0, none⟩)) (some 26) rfl rfl (by kernel_rfl) (by kernel_rfl) (by kernel_rfl) (fun _ _ _ h => h) (Or.inl ⟨by rfl, fun w' hw => by (go_simp)⟩) (by assumption) ?_
          simp only [Act.put, List.setIfInBounds_toArray, List.set_cons_zero, List.set_cons_succ]
          refine anyH_take (i := 3) (v := .map (some mb)) (some 27) rfl rfl (by kernel_rfl) (by kernel_rfl) (by kernel_rfl) (fun _ _ _ h => h) (Or.inl ⟨by rfl, fun w' hw => by (have hc0 := md_cell hw.1; go_simp)⟩) (by assumption) ?_
          simp only [Act.put, List.setIfInBounds_toArray, List.set_cons_zero, List.set_cons_succ]
          refine anyH_take (i := 4) (v := .pointer (some ⟨g, 1, none⟩)) (some 28) rfl rfl (by kernel_rfl) (by kernel_rfl) (by kernel_rfl) (fun _ _ _ h => h) (Or.inl ⟨by rfl, fun w' hw => by (go_simp)⟩) (by assumption) ?_
          simp only [Act.put, List.setIfInBounds_toArray, List.set_cons_zero, List.set_cons_succ]
          refine anyH_take (i := 5) (v := .string nm) (some 29) rfl rfl (by kernel_rfl) (by kernel_rfl) (by kernel_rfl) (fun _ _ _ h => h) (Or.inl ⟨by rfl, fun w' hw => by (have hc0 := hw.2.1; go_simp)⟩) (by assumption) ?_
          simp only [Act.put, List.setIfInBounds_toArray, List.set_cons_zero, List.set_cons_succ]
          refine anyH_take (i := 6) (v := .agg #[.int .i64 (m.v.quota : Nat), .bool true, .map (some m.bb)]) (some 30) rfl rfl (by kernel_rfl) (by kernel_rfl) (by kernel_rfl) (fun _ _ _ h => h) (Or.inl ⟨by rfl, fun w' hw => by (have hl0 := Hlk.out w' F hw.1; go_simp)⟩) (by assumption) ?_
          simp only [Act.put, List.setIfInBounds_toArray, List.set_cons_zero, List.set_cons_succ]
          refine anyH_take (i := 7) (v := .bool true) (some 31) rfl rfl (by kernel_rfl) (by kernel_rfl) (by kernel_rfl) (fun _ _ _ h => h) (Or.inl ⟨by rfl, fun w' hw => by (have hf0 := img_f1; go_simp)⟩) (by assumption) ?_
          simp only [Act.put, List.setIfInBounds_toArray, List.set_cons_zero, List.set_cons_succ]
          refine anyH_take (i := 8) (v := .bool true) (some 32) rfl rfl (by kernel_rfl) (by kernel_rfl) (by kernel_rfl) (fun _ _ _ h => h) (Or.inl ⟨by rfl, fun w' hw => by (go_simp)⟩) (by assumption) ?_
          simp only [Act.put, List.setIfInBounds_toArray, List.set_cons_zero, List.set_cons_succ]
          refine anyH_take (i := 9) (v := .pointer (some ⟨g, 0, none⟩)) (some 33) rfl rfl (by kernel_rfl) (by kernel_rfl) (by kernel_rfl) (fun _ _ _ h => h) (Or.inl ⟨by rfl, fun w' hw => by (go_simp)⟩) (by assumption) ?_
          simp only [Act.put, List.setIfInBounds_toArray, List.set_cons_zero, List.set_cons_succ]
          refine anyH_take (i := 10) (v := .int .i64 kd) (some 34) rfl rfl (by kernel_rfl) (by kernel_rfl) (by kernel_rfl) (fun _ _ _ h => h) (Or.inl ⟨by rfl, fun w' hw => by (have hc0 := hw.2.2; go_simp)⟩) (by assumption) ?_
          simp only [Act.put, List.setIfInBounds_toArray, List.set_cons_zero, List.set_cons_succ]
          refine wpAnyH_ready (rs := [11]) (by kernel_rfl) (by simp) ?_
          refine AllReadyH.cons rfl (fun K hK => ?_) AllReadyH.nil
          go_simp
          go_at_call 22
          refine Calls.mono (changes_any kd _ true hch) ?_
          rintro e w9 ⟨rfl, hw9⟩
          subst hw9
          go_wp2_with fail
          refine hK.out _ _ ⟨HQ4.out.kept (fun _ _ => rfl) (fun _ h => h) HQ4.out.Flt, hn4, hk4⟩ (fun hHeldx => ?_)
          clear hK K
          try simp only [Act.put, List.setIfInBounds_toArray, List.set_cons_zero, List.set_cons_succ]
          refine anyH_take (i := 12) (v := .bool true) (some 36) rfl rfl (by kernel_rfl) (by kernel_rfl) (by kernel_rfl) (fun _ _ _ h => h) (Or.inl ⟨by rfl, fun w' hw => by (go_simp)⟩) (by assumption) ?_
          simp only [Act.put, List.setIfInBounds_toArray, List.set_cons_zero, List.set_cons_succ]
          refine anyH_take (i := 13) (v := .bool true) (some 23) rfl rfl (by kernel_rfl) (by kernel_rfl) (by kernel_rfl) (fun _ _ _ h => h) (Or.inl ⟨by rfl, fun w' hw => by (go_simp)⟩) (by assumption) ?_
          simp only [Act.put, List.setIfInBounds_toArray, List.set_cons_zero, List.set_cons_succ]
          refine wpAnyH_done (by kernel_rfl) ?_ _
          clear hn4 hk4 hm4
          have Hset := Lib.hid ((show Arr w4.drew (g + 1) 114 ZL from hz4).setRow [.int .i64 0, .bool false, .map none])
          have Hbe := Lib.hid (show Below w.heap.size w (w4.drew.setRow (g + 1) ([.int .i64 0, .bool false, .map none] : List Value).toArray) from (Below.dN hB4 1).trans (((Only.refl (fun k => k = g + 1) w4.drew).setRow (.inl rfl) ([.int .i64 0, .bool false, .map none] : List Value).toArray).below (Below.dN hB4 1).size (by rintro k rfl; have := Hg.out; omega)))
          go_wp2_with (refine wpList_store_row rfl _ _ _ rfl (g + 1) ([.int .i64 0, .bool false, .map none] : List Value).toArray rfl rfl 114 ZL.toArray hz4 imgSize HZs.out (by simp [Value.oneCell']) ?_)
          (try simp only [Exit.inBlock, Exit.then])
          obtain ⟨V, hV⟩ : ∃ V, V = Value.tuple #[.agg ([.int .i64 0, .bool false, .map none] : List Value).toArray, .int .i64 10] := ⟨_, rfl⟩
          refine bodyPost_ret (v := V) ?hx1 ?h2 ?h3
          case hx1 => rw [hV]; exact results_cell2M (fn := Try.f77) (by rfl) _ _ (g + 1) 114 ([.int .i64 0, .bool false, .map none] : List Value).toArray (0, 0) _ (by rfl) _ (by rfl) Hset.out Try.underlying114 rfl imgSize
          case h2 => rfl
          case h3 => exact ⟨by rw [hV]; rfl, Hbe.out⟩

end Go.Proofs.Ytcajhndhjlfmaaa

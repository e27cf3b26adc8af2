/-
  Hold and Free.
-/
import Derived.Test.YtfelacpaaialfaaDoorIxItems
namespace Go.Proofs.YtfelacpaaialfaaDoor
open Go.RowKit
set_option linter.unusedVariables false
set_option linter.unusedSimpArgs false

def findX (L : List Ix) (d : List UInt8) : Option Ix := L.find? fun x => decide (x.d = d)
def insX (x : Ix) : List Ix → List Ix
  | [] => [x]
  | y :: r => if ltD x.d y.d = true then x :: y :: r else y :: insX x r
def delX (d : List UInt8) (L : List Ix) : List Ix := L.filter fun y => !decide (y.d = d)
def putX (x : Ix) (L : List Ix) : List Ix := insX x (delX x.d L)
theorem findX_mem {L : List Ix} {d : List UInt8} {x : Ix} (h : findX L d = some x) : x ∈ L ∧ x.d = d :=
  ⟨List.mem_of_find?_eq_some h, by have := List.find?_some h; simpa using this⟩
theorem str_sameX (a b : List UInt8) : (Lit.string a).sameKey (.string b) = decide (a = b) := str_same a b
theorem ixD_has (L : List Ix) (d : List UInt8) : Maps.has (ixD L) (.string d) = (findX L d).isSome := by
  unfold ixD findX
  rw [Maps.has_eq, List.any_map, Bool.eq_iff_iff, List.any_eq_true, List.find?_isSome]
  simp only [Function.comp_apply, litX, str_same, decide_eq_true_eq]
theorem ixD_at (L : List Ix) (d : List UInt8) (z : DataW Unit) : (ixD L).atKey (.string d) z = match findX L d with | some x => stDx (x.b, x.s, x.u) | none => z := by
  unfold ixD findX DataW.atKey
  dsimp only
  rw [List.find?_map]
  have e : ((fun p : Lit × DataW Unit => p.1.sameKey (.string d)) ∘ litX) = fun x : Ix => decide (x.d = d) := by
    funext x
    simp only [Function.comp_apply, litX, str_same]
  rw [e]
  cases h : L.find? (fun x : Ix => decide (x.d = d)) <;> simp [litX]
theorem filter_litX (d : List UInt8) : ∀ L : List Ix, (L.map litX).filter (fun p => !p.1.sameKey (.string d)) = (delX d L).map litX
  | [] => rfl
  | x :: L => by
    have ih := filter_litX d L
    unfold delX at ih ⊢
    rw [List.map_cons, List.filter_cons, List.filter_cons, ih]
    have e : (litX x).1.sameKey (.string d) = decide (x.d = d) := str_same _ _
    rw [e]
    by_cases h : x.d = d <;> simp [h]
theorem insert_litX (x : Ix) : ∀ L : List Ix, DataW.insert (litX x) (L.map litX) = (insX x L).map litX
  | [] => rfl
  | y :: r => by
    rw [List.map_cons]
    unfold DataW.insert insX
    have e : (litX x).1.before (litX y).1 = bytesBefore x.d y.d := rfl
    rw [e, ← ltD_before]
    by_cases h : ltD x.d y.d = true
    · rw [if_pos h, if_pos h]; rfl
    · rw [if_neg h, if_neg h, List.map_cons, insert_litX x r]
theorem ixD_put (x : Ix) (L : List Ix) : (ixD L).put (.string x.d) (stDx (x.b, x.s, x.u)) = ixD (putX x L) := by
  unfold ixD DataW.put putX
  dsimp only
  rw [filter_litX, ← insert_litX]
  rfl
theorem ixD_del (d : List UInt8) (L : List Ix) : (ixD L).del (.string d) = ixD (delX d L) := by
  unfold ixD
  rw [← filter_litX]
  rfl
theorem stZero (w : World) : (zeroValue 50).run Tryd.prog w = .ok (stV (1, 0, 0)) w := by kernel_rfl
/-- What a look-up gives. -/
theorem ix_look {w : World} {s mb : Nat} {L : List Ix} (h : IxQ w s mb L) {d : List UInt8} (hd : d.length = 32) :
    (Instr.lookup 53 (.map (some mb)) (digV d) true).run Tryd.prog w = .ok (match findX L d with | some x => .tuple #[stV (x.b, x.s, x.u), .bool true] | none => .tuple #[stV (1, 0, 0), .bool false]) w := by
  obtain ⟨v, ps, hr, hv⟩ := World.ownsMap.look_ok h.hm dgKeyed Tryd.underlying53 (stZero w) (stR_mk (1, 0, 0)) (keyOf_dg hd)
  rw [ixD_has] at hr
  rw [ixD_at] at hv
  cases hf : findX L d with
  | none => rw [hf] at hr hv; rw [hr, stR_inv hv]; rfl
  | some x => rw [hf] at hr hv; rw [hr, stR_inv hv]; rfl
theorem World.ownsMap.tightX {H : Type} {P : Program} {k : TypeId} {R : Value → Option (DataW H × List MemPlace)} {w : World} {b n : Nat} {D : DataW H} (h : w.ownsMap P k R b n D) : w.ownsMap P k R b (Maps.size D) D := by
  obtain ⟨es, clock, hb, F, hs, rfl⟩ := h
  exact ⟨es, clock, hb, F, by simp [Maps.size, length_sorted], rfl⟩
/-- 'm[k] = v' in a region that draws its order. -/
theorem wp_mapUpdate_toX {H : Type} {P : Program} {o : Oper} {a : Act} {w : World} {K : Act → World → Prop} {Q : Exit → Act → World → Prop} (hd : o.dst = none) (m x v : Operand) (t : TypeId) (hop : o.op = Op.mapUpdate t m x v)
    (k e : TypeId) (KK : Go.Maps.Keyed P k) (ht : P.underlying t = some (.map k e)) (R : Value → Option (DataW H × List MemPlace)) (b n : Nat) (D : DataW H)
    (hm : a.eval m = .map (some b)) (hown : w.ownsMap P k R b n D) (hn : n < maxLen) (key val : Value) (kl : Lit) (hx : a.eval x = key) (hv : a.eval v = val) (hkey : keyOf P k key = some kl)
    (d : DataW H) (ps : List MemPlace) (hval : R val = some (d, ps))
    (hK : ∀ w', w'.ownsMap P k R b (n + 1) (D.put kl d) → w.grownBy w' (some b) → K a w') : o.wp P a w K Q := by
  obtain ⟨w', hrun, r1, r2⟩ := World.ownsMap.update hown KK ht hn hkey hval
  have he : a.put o.dst undef = a := by rw [hd]; rfl
  have hk : K (a.put o.dst undef) w' := by rw [he]; exact hK w' r1 r2
  unfold Oper.wp
  simp [execOp, hop, hm, hx, hv, hrun, Result.andThen]
  exact hk
theorem wp_delete_toX {H : Type} {P : Program} {o : Oper} {a : Act} {w : World} {K : Act → World → Prop} {Q : Exit → Act → World → Prop} (hd : o.dst = none) (m x : Operand) (t k : TypeId) (hop : o.op = Op.call { callee := Callee.builtin Builtin.delete, args := #[m, x], argTypes := #[t, k] })
    (e : TypeId) (KK : Go.Maps.Keyed P k) (ht : P.underlying t = some (.map k e)) (R : Value → Option (DataW H × List MemPlace)) (b n : Nat) (D : DataW H)
    (hm : a.eval m = .map (some b)) (hown : w.ownsMap P k R b n D) (key : Value) (kl : Lit) (hx : a.eval x = key) (hkey : keyOf P k key = some kl)
    (hK : ∀ w', w'.ownsMap P k R b n (D.del kl) → w.grownBy w' (some b) → K a w') : o.wp P a w K Q := by
  obtain ⟨w', hrun, r1, r2⟩ := World.ownsMap.drop hown KK ht hkey o.type
  have hk : K (a.put o.dst (.tuple #[])) w' := by rw [hd]; exact hK w' r1 r2.grown
  unfold Oper.wp
  simp [execOp, hop, resolve, invoke, builtin, hm, hx, hrun, Result.andThen]
  exact hk
theorem wp_store_row_toX {P : Program} {o : Oper} {a : Act} {w : World} {K : Act → World → Prop} {Q : Exit → Act → World → Prop} (hd : o.dst = none) (ty : TypeId) (x y : Operand) (ho : o.op = .store ty x y)
    (g : Nat) (cells : Array Value) (hx : a.eval x = .pointer (some ⟨g, 0, none⟩)) (hy : a.eval y = .agg cells)
    (t : TypeId) (old : Array Value) (hg : w.heap[g]? = some (.cells old t (0, 0))) (hi : (P.info? ty).map (·.size) = some cells.size)
    (hold : old.size = cells.size) (h1 : cells.all (·.oneCell') = true)
    (h : K a (w.setRow g cells)) : o.wp P a w K Q :=
  wp_store_row ty x y ho g cells hx hy t old hg hi hold h1 (by rw [hd]; exact h)
theorem ix_grown {w w' : World} {s mb : Nat} {L L' : List Ix} {D : DataW Unit} (h : IxQ w s mb L) (hD : D = ixD L') {n : Nat} (ho : w'.ownsMap Tryd.prog 39 stR mb n D) (hg : w.grownBy w' (some mb)) : IxQ w' s mb L' := by
  subst hD
  have h2 := World.ownsMap.tightX ho
  rw [ixD_sizeI] at h2
  exact ⟨(hg.block s h.lt.1 (fun e => h.ne (by injection e))).trans h.hs, h2, h.ne⟩
/-- Only the map turns; new blocks. -/
theorem below_grown {w w1 w2 : World} {mb : Nat} (h : Below w.heap.size w w1) (hg : w1.grownBy w2 (some mb)) : w.grownBy w2 (some mb) :=
  ⟨hg.os.trans h.os, hg.tape.trans h.tape, hg.output.trans h.output, Nat.le_trans h.size hg.size, fun k hk hne => (hg.block k (Nat.lt_of_lt_of_le hk h.size) hne).trans (h.block k hk)⟩
theorem below_grow {w w1 : World} {mb : Nat} (h : Below w.heap.size w w1) : w.grownBy w1 (some mb) := ⟨h.os, h.tape, h.output, h.size, fun k hk _ => h.block k hk⟩
theorem belowCellX {w w1 : World} (h : Below w.heap.size w w1) {g : Nat} (hg : w.heap.size ≤ g) (i : Nat) (v : Value) : Below w.heap.size w (w1.setCell ⟨g, i, none⟩ v) := h.setCell hg v
theorem there_arr {w : World} {g : Nat} {T : TypeId} {cs : List Value} (h : Arr w g T cs) {off n : Nat} (hn : off + n ≤ cs.length) : w.there g off n := fun j hj => ⟨by rw [h.cell, List.getElem?_eq_getElem (by omega)]; rfl, h.frozen _⟩
theorem nowPut {w : World} {g : Nat} {T : TypeId} {a b c : Value} (h : Arr w g T [a, b, c]) (x y : Value) : Arr (w.setCells g 0 [x, y]) g T [x, y, c] := by
  have h1 := (h.set 0 x).set 1 y
  exact h1
theorem nowBelow {w w1 : World} (h : Below w.heap.size w w1) {g : Nat} (hg : w.heap.size ≤ g) (x y : Value) : Below w.heap.size w (w1.setCells g 0 [x, y]) := (h.setCell hg x).setCell hg y

def holdX (d : List UInt8) (L : List Ix) : List Ix := match findX L d with | some x => putX ⟨d, x.b, x.s, x.u + 1⟩ L | none => putX ⟨d, 0, 0, 1⟩ L
set_option maxHeartbeats 8000000 in
set_option maxRecDepth 100000 in
theorem ihold_any (s mb : Nat) (L : List Ix) (d : List UInt8) (hd : d.length = 32) (w : World) (h : IxQ w s mb L) (hlen : L.length ≤ 100000) (hu : ∀ x ∈ L, x.u ≤ 1000000000000) (hno : w.rangeAt 0 0 (plC (-1) 0)) (h0 : 0 < w.heap.size) (DL : List Value) (hDL : DL = Lib.byteCells d) :
    Calls Tryd.prog 12 #[.pointer (some ⟨s, 0, none⟩), .agg DL.toArray] w fun e w' => e = .returned (.bool (findX L d).isNone) ∧ IxQ w' s mb (holdX d L) ∧ w.grownBy w' (some mb) := by
  obtain ⟨gt, hgt⟩ : ∃ z, z = w.heap.size := ⟨_, rfl⟩
  obtain ⟨w1, hw1⟩ : ∃ z, z = w.alloc (.cells DL.toArray 39) := ⟨_, rfl⟩
  have hb1 : Below w.heap.size w w1 := by rw [hw1]; exact (Below.refl _ _).alloc (Nat.le_refl _) _
  have hd1 : Arr w1 gt 39 DL := by rw [hw1, hgt]; exact Arr.new w _ _
  have hq1 : IxQ w1 s mb L := h.up hb1
  have hDe : digV d = .agg DL.toArray := by rw [hDL]; rfl
  have HDn := Lib.hid (show (Tryd.prog.info? 39).map (·.size) = some DL.length by rw [hDL, Lib.byteCells_length, hd]; exact digInfo)
  have Hkey := Lib.hid (show keyOf Tryd.prog 39 (.agg DL.toArray) = some (.string d) by rw [← hDe]; exact keyOf_dg hd)
  have Hh := Lib.hid h
  have Hw1 := Lib.hid hw1
  have Hgt := Lib.hid hgt
  have Hlen := Lib.hid hlen
  have hsl := h.lt
  have HDe := Lib.hid hDe
  clear hDL hDe hw1 hgt h hlen
  have Hroom := Lib.hid (show L.length < maxLen by have := Hlen.out; unfold maxLen; omega)
  cases hf : findX L d with
  | some x =>
    have Hf := Lib.hid hf
    have hux := hu x (findX_mem hf).1
    obtain ⟨xb, hxb⟩ : ∃ z, x.b = z := ⟨_, rfl⟩
    obtain ⟨xs, hxs⟩ : ∃ z, x.s = z := ⟨_, rfl⟩
    obtain ⟨xu, hxu⟩ : ∃ z, x.u = z := ⟨_, rfl⟩
    rw [hxu] at hux
    obtain ⟨VL, hVL⟩ : ∃ z, z = stC xb xs xu := ⟨_, rfl⟩
    have HVi := Lib.hid (show (Tryd.prog.info? 50).map (·.size) = some VL.toArray.size ∧ (#[.int .i64 0, .int .i64 0, .int .i64 0] : Array Value).size = VL.toArray.size by rw [hVL]; exact ⟨stInfo, rfl⟩)
    have HV1 := Lib.hid (show VL.toArray.all (·.oneCell') = true by rw [hVL]; simp [stC, Value.oneCell'])
    have HlkE := Lib.hid (fun (w' : World) (h : IxQ w' s mb L) => show (Instr.lookup 53 (.map (some mb)) (.agg DL.toArray) true).run Tryd.prog w' = .ok (.tuple #[.agg VL.toArray, .bool true]) w' by
      have hl := ix_look h hd
      rw [hf] at hl
      rw [← HDe.out, hl, hVL, ← hxb, ← hxs, ← hxu]; rfl)
    have Hho := Lib.hid (show holdX d L = putX ⟨d, xb, xs, xu + 1⟩ L by unfold holdX; rw [hf, ← hxb, ← hxs, ← hxu])
    have HVL := Lib.hid hVL
    clear hf hxb hxs hxu hVL hu hno h0
    go_enter Tryd.func12, Tryd.ntmps12
    go_upto_region 1 with fail
    rw [← Hw1.out, ← Hgt.out]
    refine wp_region_held_drew (S := (fun w' => IxQ w' s mb L ∧ Arr w' gt 39 DL)) (by kernel_rfl) ⟨hq1.up (Below.dN (Below.refl _ w1) 1), hd1⟩ (fun hHeld => ?_)
    refine anyH_take (i := 0) (v := .pointer (some ⟨s, 0, none⟩)) (some 8) rfl rfl (by kernel_rfl) (by kernel_rfl) (by kernel_rfl) (fun _ _ _ h => h) (Or.inl ⟨by rfl, fun w' hw => by (go_simp)⟩) (by assumption) ?_
    simp only [Act.put, List.setIfInBounds_toArray, List.set_cons_zero, List.set_cons_succ]
    refine anyH_take (i := 1) (v := .pointer (some ⟨s, 0, none⟩)) (some 9) rfl rfl (by kernel_rfl) (by kernel_rfl) (by kernel_rfl) (fun _ _ _ h => h) (Or.inl ⟨by rfl, fun w' hw => by (go_simp)⟩) (by assumption) ?_
    simp only [Act.put, List.setIfInBounds_toArray, List.set_cons_zero, List.set_cons_succ]
    refine anyH_take (i := 2) (v := .pointer (some ⟨s, 0, none⟩)) (some 10) rfl rfl (by kernel_rfl) (by kernel_rfl) (by kernel_rfl) (fun _ _ _ h => h) (Or.inl ⟨by rfl, fun w' hw => by (go_simp)⟩) (by assumption) ?_
    simp only [Act.put, List.setIfInBounds_toArray, List.set_cons_zero, List.set_cons_succ]
    refine anyH_take (i := 3) (v := .map (some mb)) (some 11) rfl rfl (by kernel_rfl) (by kernel_rfl) (by kernel_rfl) (fun _ _ _ h => h) (Or.inl ⟨by rfl, fun w' hw => by (have hcc := hw.1.hs.cell 0; simp only [List.getElem?_cons_zero] at hcc; go_simp)⟩) (by assumption) ?_
    simp only [Act.put, List.setIfInBounds_toArray, List.set_cons_zero, List.set_cons_succ]
    refine anyH_take (i := 4) (some 12) rfl rfl (by kernel_rfl) (by kernel_rfl) (by kernel_rfl) (fun _ _ _ h => h) (yieldsIf_load_mid (by rfl) 39 (.tmp 3) rfl gt 0 rfl DL _ (fun w' h => (h.2).range) Tryd.underlying39 rfl HDn.out) (by assumption) ?_
    simp only [Act.put, List.setIfInBounds_toArray, List.set_cons_zero, List.set_cons_succ]
    refine anyH_take (i := 5) (v := .tuple #[.agg VL.toArray, .bool true]) (some 13) rfl rfl (by kernel_rfl) (by kernel_rfl) (by kernel_rfl) (fun _ _ _ h => h) (Or.inl ⟨by rfl, fun w' hw => by (have hl0 := HlkE.out w' hw.1; go_simp)⟩) (by assumption) ?_
    simp only [Act.put, List.setIfInBounds_toArray, List.set_cons_zero, List.set_cons_succ]
    refine anyH_take (i := 6) (v := .tuple #[.agg VL.toArray, .bool true]) (some 7) rfl rfl (by kernel_rfl) (by kernel_rfl) (by kernel_rfl) (fun _ _ _ h => h) (Or.inl ⟨by rfl, fun w' hw => by (go_simp)⟩) (by assumption) ?_
    simp only [Act.put, List.setIfInBounds_toArray, List.set_cons_zero, List.set_cons_succ]
    refine anyH_take (i := 7) (v := .agg VL.toArray) (some 14) rfl rfl (by kernel_rfl) (by kernel_rfl) (by kernel_rfl) (fun _ _ _ h => h) (Or.inl ⟨by rfl, fun w' hw => by (go_simp)⟩) (by assumption) ?_
    simp only [Act.put, List.setIfInBounds_toArray, List.set_cons_zero, List.set_cons_succ]
    refine anyH_take (i := 8) (v := .bool true) (some 15) rfl rfl (by kernel_rfl) (by kernel_rfl) (by kernel_rfl) (fun _ _ _ h => h) (Or.inl ⟨by rfl, fun w' hw => by (go_simp)⟩) (by assumption) ?_
    simp only [Act.put, List.setIfInBounds_toArray, List.set_cons_zero, List.set_cons_succ]
    refine wpAnyH_ready (rs := [9]) (by kernel_rfl) (by simp) ?_
    refine AllReadyH.cons rfl (fun K hK => ?_) AllReadyH.nil
    go_simp
    refine hK.out _ _ ⟨hHeld.1.up ((Below.refl _ _).alloc (Nat.le_refl _) _), Arr.alloc hHeld.2 _⟩ (fun hHeldx => ?_)
    clear hK K
    try simp only [Act.put, List.setIfInBounds_toArray, List.set_cons_zero, List.set_cons_succ]
    obtain ⟨w2, hw2⟩ : ∃ z, z = w1.drew.alloc (.cells (#[.int .i64 0, .int .i64 0, .int .i64 0] : Array Value) 50) := ⟨_, rfl⟩
    obtain ⟨g, hg⟩ : ∃ z, z = w1.heap.size := ⟨_, rfl⟩
    have hv2 : Arr w2 g 50 [.int .i64 0, .int .i64 0, .int .i64 0] := by rw [hw2, hg]; exact Arr.new w1.drew _ _
    have hb2 : Below w.heap.size w w2 := by rw [hw2]; exact (Below.dN hb1 1).alloc (Below.dN hb1 1).size _
    have hgw : w.heap.size < g := by rw [hg, Hw1.out]; simp
    change wpAnyH _ _ _ _ _ _ _ _ (w1.drew.alloc (.cells (#[.int .i64 0, .int .i64 0, .int .i64 0] : Array Value) 50))
    change IxQ (w1.drew.alloc (.cells (#[.int .i64 0, .int .i64 0, .int .i64 0] : Array Value) 50)) s mb L ∧ Arr (w1.drew.alloc (.cells (#[.int .i64 0, .int .i64 0, .int .i64 0] : Array Value) 50)) gt 39 DL at hHeldx
    rw [← hw2] at hHeldx ⊢
    try rw [← hg]
    clear hw2 hg
    refine wpAnyH_ready (rs := [10]) (by kernel_rfl) (by simp) ?_
    refine AllReadyH.cons rfl (fun K hK => ?_) AllReadyH.nil
    obtain ⟨w3, hw3⟩ : ∃ z, z = w2.setRow g VL.toArray := ⟨_, rfl⟩
    have hv3 : Arr w3 g 50 VL := by rw [hw3]; exact hv2.setRow VL
    have hb3 : Below w.heap.size w w3 := by rw [hw3]; exact Below.setRI hb2 (by omega) _
    have hq3 : IxQ w3 s mb L := Hh.out.up hb3
    have hd3 : Arr w3 gt 39 DL := by rw [hw3]; exact hHeldx.2.rowOther (by have := Hgt.out; omega) _
    refine wp_store_row_toX rfl _ _ _ rfl g VL.toArray rfl rfl 50 _ hv2 HVi.out.1 HVi.out.2 HV1.out ?_
    rw [← hw3]
    refine hK.out _ _ ⟨hq3, hd3⟩ (fun hHeldy => ?_)
    clear hK K
    try simp only [Act.put, List.setIfInBounds_toArray, List.set_cons_zero, List.set_cons_succ]
    refine anyH_take (i := 11) (v := .bool true) (some 6) rfl rfl (by kernel_rfl) (by kernel_rfl) (by kernel_rfl) (fun _ _ _ h => h) (Or.inl ⟨by rfl, fun w' hw => by (go_simp)⟩) (by assumption) ?_
    simp only [Act.put, List.setIfInBounds_toArray, List.set_cons_zero, List.set_cons_succ]
    refine wpAnyH_done (by kernel_rfl) ?_ _
    clear hHeld hHeldx hHeldy hv2 hb2 hw3 hq1 hd1 hb1 HlkE
    have hdW : Arr w3 gt 39 DL := hd3
    clear hd3
    go_upto_region 4 with fail
    have hc2 : w3.cell? ⟨g, 2, none⟩ = some (.int .i64 (xu : Nat)) := by rw [hv3.cell, HVL.out]; rfl
    have hf2 := hv3.frozen 2
    have HvH := Lib.hid hv3
    clear hv3
    go_upto_region 5 with fail
    obtain ⟨w5, hw5⟩ : ∃ z, z = w3.setCell ⟨g, 2, none⟩ (.int .i64 ((xu : Nat) + 1)) := ⟨_, rfl⟩
    rw [← hw5]
    obtain ⟨XL, hXL⟩ : ∃ z, z = stC xb xs (xu + 1) := ⟨_, rfl⟩
    have hv5 : Arr w5 g 50 XL := by
      have := HvH.out.set 2 (.int .i64 ((xu : Nat) + 1))
      rw [hw5, hXL]
      rw [HVL.out] at this
      exact this
    have hb5 : Below w.heap.size w w5 := by rw [hw5]; exact belowCellX hb3 (by omega) 2 _
    have hq5 : IxQ w5 s mb L := Hh.out.up hb5
    have hd5 : Arr w5 gt 39 DL := by rw [hw5]; exact (Below.heap_setCell w3 _ _ gt (by show gt ≠ g; have := Hgt.out; omega)).trans hdW
    have HXi := Lib.hid (show (Tryd.prog.info? 50).map (·.size) = some XL.length by rw [hXL]; exact stInfo)
    have Hxd := Lib.hid (show (⟨d, xb, xs, xu + 1⟩ : Ix).d = d from rfl)
    have Hrd := Lib.hid (show stR (.agg XL.toArray) = some (stDx (xb, xs, xu + 1), []) by rw [hXL]; exact stR_mk (xb, xs, xu + 1))
    clear hw5 HvH hc2 hf2 hdW hXL
    refine wp_region_held_drew (S := (fun w' => Arr w' s 55 [.map (some mb)] ∧ Arr w' gt 39 DL ∧ Arr w' g 50 XL)) (by kernel_rfl) ⟨(hq5.up (Below.dN (Below.refl _ w5) 1)).hs, (show Arr w5.drew gt 39 DL from hd5), (show Arr w5.drew g 50 XL from hv5)⟩ (fun hHeld => ?_)
    refine anyH_take (i := 0) (v := .pointer (some ⟨s, 0, none⟩)) (some 24) rfl rfl (by kernel_rfl) (by kernel_rfl) (by kernel_rfl) (fun _ _ _ h => h) (Or.inl ⟨by rfl, fun w' hw => by (go_simp)⟩) (by assumption) ?_
    simp only [Act.put, List.setIfInBounds_toArray, List.set_cons_zero, List.set_cons_succ]
    refine anyH_take (i := 1) (v := .pointer (some ⟨s, 0, none⟩)) (some 25) rfl rfl (by kernel_rfl) (by kernel_rfl) (by kernel_rfl) (fun _ _ _ h => h) (Or.inl ⟨by rfl, fun w' hw => by (go_simp)⟩) (by assumption) ?_
    simp only [Act.put, List.setIfInBounds_toArray, List.set_cons_zero, List.set_cons_succ]
    refine anyH_take (i := 2) (v := .pointer (some ⟨s, 0, none⟩)) (some 26) rfl rfl (by kernel_rfl) (by kernel_rfl) (by kernel_rfl) (fun _ _ _ h => h) (Or.inl ⟨by rfl, fun w' hw => by (go_simp)⟩) (by assumption) ?_
    simp only [Act.put, List.setIfInBounds_toArray, List.set_cons_zero, List.set_cons_succ]
    refine anyH_take (i := 3) (v := .map (some mb)) (some 27) rfl rfl (by kernel_rfl) (by kernel_rfl) (by kernel_rfl) (fun _ _ _ h => h) (Or.inl ⟨by rfl, fun w' hw => by (have hcc := hw.1.cell 0; simp only [List.getElem?_cons_zero] at hcc; go_simp)⟩) (by assumption) ?_
    simp only [Act.put, List.setIfInBounds_toArray, List.set_cons_zero, List.set_cons_succ]
    refine anyH_take (i := 4) (some 28) rfl rfl (by kernel_rfl) (by kernel_rfl) (by kernel_rfl) (fun _ _ _ h => h) (yieldsIf_load_mid (by rfl) 39 (.tmp 3) rfl gt 0 rfl DL _ (fun w' h => (h.2.1).range) Tryd.underlying39 rfl HDn.out) (by assumption) ?_
    simp only [Act.put, List.setIfInBounds_toArray, List.set_cons_zero, List.set_cons_succ]
    refine anyH_take (i := 5) (some 29) rfl rfl (by kernel_rfl) (by kernel_rfl) (by kernel_rfl) (fun _ _ _ h => h) (yieldsIf_load_mid (by rfl) 50 (.tmp 5) rfl g 0 rfl XL _ (fun w' h => (h.2.2).range) Tryd.underlying50 rfl HXi.out) (by assumption) ?_
    simp only [Act.put, List.setIfInBounds_toArray, List.set_cons_zero, List.set_cons_succ]
    refine wpAnyH_ready (rs := [6]) (by kernel_rfl) (by simp) ?_
    refine AllReadyH.cons rfl (fun K hK => ?_) AllReadyH.nil
    try rw [if_pos (by rfl)]
    refine wp_mapUpdate_toX rfl _ _ _ 53 rfl 39 50 dgKeyed Tryd.underlying53 stR mb L.length (ixD L) rfl (World.ownsMap.at_ (hq5.up (Below.dN (Below.refl _ w5) 1)).hm (by rfl)) Hroom.out _ _ _ rfl rfl Hkey.out _ [] Hrd.out ?_
    intro wm hown hg8
    have hgm := below_grown (Below.dN hb5 1) (show (w5.drew).grownBy wm (some mb) from ⟨hg8.os, hg8.tape, hg8.output, hg8.size, hg8.block⟩)
    have hqm : IxQ wm s mb (putX ⟨d, xb, xs, xu + 1⟩ L) := ix_grown (w := w5.drew) (hq5.up (Below.dN (Below.refl _ w5) 1)) (by rw [← ixD_put ⟨d, xb, xs, xu + 1⟩ L, Hxd.out]) hown ⟨hg8.os, hg8.tape, hg8.output, hg8.size, hg8.block⟩
    refine hK.out _ _ ⟨hqm.hs, (hg8.block gt (Arr.lt (show Arr w5.drew gt 39 DL from hd5)) (fun e => by injection e; have := Hgt.out; omega)).trans (show Arr w5.drew gt 39 DL from hd5), (hg8.block g (Arr.lt (show Arr w5.drew g 50 XL from hv5)) (fun e => by injection e; omega)).trans (show Arr w5.drew g 50 XL from hv5)⟩ (fun hHeldq => ?_)
    clear hK K hHeldq hown hg8 hHeld
    try simp only [Act.put, List.setIfInBounds_toArray, List.set_cons_zero, List.set_cons_succ]
    refine wpAnyH_done (by kernel_rfl) ?_ _
    clear hv5 hq5 hd5 hb5
    go_wp2_with fail
    go_ret
    exact ⟨rfl, by rw [Hho.out]; exact hqm, hgm⟩
  | none =>
    have Hf := Lib.hid hf
    obtain ⟨VL, hVL⟩ : ∃ z, z = stC 1 0 0 := ⟨_, rfl⟩
    have HVi := Lib.hid (show (Tryd.prog.info? 50).map (·.size) = some VL.toArray.size ∧ (#[.int .i64 0, .int .i64 0, .int .i64 0] : Array Value).size = VL.toArray.size by rw [hVL]; exact ⟨stInfo, rfl⟩)
    have HV1 := Lib.hid (show VL.toArray.all (·.oneCell') = true by rw [hVL]; simp [stC, Value.oneCell'])
    have HlkE := Lib.hid (fun (w' : World) (h : IxQ w' s mb L) => show (Instr.lookup 53 (.map (some mb)) (.agg DL.toArray) true).run Tryd.prog w' = .ok (.tuple #[.agg VL.toArray, .bool false]) w' by
      have hl := ix_look h hd
      rw [hf] at hl
      rw [← HDe.out, hl, hVL]; rfl)
    have Hho := Lib.hid (show holdX d L = putX ⟨d, 0, 0, 1⟩ L by unfold holdX; rw [hf])
    have HVL := Lib.hid hVL
    have Hno := Lib.hid hno
    obtain ⟨PL, hPL⟩ : ∃ z, z = plC (-1) 0 := ⟨_, rfl⟩
    have HPi := Lib.hid (show (Tryd.prog.info? 48).map (·.size) = some PL.length by rw [hPL]; exact plInfo)
    have HPj := Lib.hid (show (Tryd.prog.info? 48).map (·.size) = some PL.toArray.size by rw [hPL]; exact plInfo)
    have HP1 := Lib.hid (show PL.toArray.all (·.oneCell') = true by rw [hPL]; simp [plC, Value.oneCell'])
    have HPL := Lib.hid hPL
    clear hf hVL hu hno hPL
    go_enter Tryd.func12, Tryd.ntmps12
    go_upto_region 1 with fail
    rw [← Hw1.out, ← Hgt.out]
    refine wp_region_held_drew (S := (fun w' => IxQ w' s mb L ∧ Arr w' gt 39 DL)) (by kernel_rfl) ⟨hq1.up (Below.dN (Below.refl _ w1) 1), hd1⟩ (fun hHeld => ?_)
    refine anyH_take (i := 0) (v := .pointer (some ⟨s, 0, none⟩)) (some 8) rfl rfl (by kernel_rfl) (by kernel_rfl) (by kernel_rfl) (fun _ _ _ h => h) (Or.inl ⟨by rfl, fun w' hw => by (go_simp)⟩) (by assumption) ?_
    simp only [Act.put, List.setIfInBounds_toArray, List.set_cons_zero, List.set_cons_succ]
    refine anyH_take (i := 1) (v := .pointer (some ⟨s, 0, none⟩)) (some 9) rfl rfl (by kernel_rfl) (by kernel_rfl) (by kernel_rfl) (fun _ _ _ h => h) (Or.inl ⟨by rfl, fun w' hw => by (go_simp)⟩) (by assumption) ?_
    simp only [Act.put, List.setIfInBounds_toArray, List.set_cons_zero, List.set_cons_succ]
    refine anyH_take (i := 2) (v := .pointer (some ⟨s, 0, none⟩)) (some 10) rfl rfl (by kernel_rfl) (by kernel_rfl) (by kernel_rfl) (fun _ _ _ h => h) (Or.inl ⟨by rfl, fun w' hw => by (go_simp)⟩) (by assumption) ?_
    simp only [Act.put, List.setIfInBounds_toArray, List.set_cons_zero, List.set_cons_succ]
    refine anyH_take (i := 3) (v := .map (some mb)) (some 11) rfl rfl (by kernel_rfl) (by kernel_rfl) (by kernel_rfl) (fun _ _ _ h => h) (Or.inl ⟨by rfl, fun w' hw => by (have hcc := hw.1.hs.cell 0; simp only [List.getElem?_cons_zero] at hcc; go_simp)⟩) (by assumption) ?_
    simp only [Act.put, List.setIfInBounds_toArray, List.set_cons_zero, List.set_cons_succ]
    refine anyH_take (i := 4) (some 12) rfl rfl (by kernel_rfl) (by kernel_rfl) (by kernel_rfl) (fun _ _ _ h => h) (yieldsIf_load_mid (by rfl) 39 (.tmp 3) rfl gt 0 rfl DL _ (fun w' h => (h.2).range) Tryd.underlying39 rfl HDn.out) (by assumption) ?_
    simp only [Act.put, List.setIfInBounds_toArray, List.set_cons_zero, List.set_cons_succ]
    refine anyH_take (i := 5) (v := .tuple #[.agg VL.toArray, .bool false]) (some 13) rfl rfl (by kernel_rfl) (by kernel_rfl) (by kernel_rfl) (fun _ _ _ h => h) (Or.inl ⟨by rfl, fun w' hw => by (have hl0 := HlkE.out w' hw.1; go_simp)⟩) (by assumption) ?_
    simp only [Act.put, List.setIfInBounds_toArray, List.set_cons_zero, List.set_cons_succ]
    refine anyH_take (i := 6) (v := .tuple #[.agg VL.toArray, .bool false]) (some 7) rfl rfl (by kernel_rfl) (by kernel_rfl) (by kernel_rfl) (fun _ _ _ h => h) (Or.inl ⟨by rfl, fun w' hw => by (go_simp)⟩) (by assumption) ?_
    simp only [Act.put, List.setIfInBounds_toArray, List.set_cons_zero, List.set_cons_succ]
    refine anyH_take (i := 7) (v := .agg VL.toArray) (some 14) rfl rfl (by kernel_rfl) (by kernel_rfl) (by kernel_rfl) (fun _ _ _ h => h) (Or.inl ⟨by rfl, fun w' hw => by (go_simp)⟩) (by assumption) ?_
    simp only [Act.put, List.setIfInBounds_toArray, List.set_cons_zero, List.set_cons_succ]
    refine anyH_take (i := 8) (v := .bool false) (some 15) rfl rfl (by kernel_rfl) (by kernel_rfl) (by kernel_rfl) (fun _ _ _ h => h) (Or.inl ⟨by rfl, fun w' hw => by (go_simp)⟩) (by assumption) ?_
    simp only [Act.put, List.setIfInBounds_toArray, List.set_cons_zero, List.set_cons_succ]
    refine wpAnyH_ready (rs := [9]) (by kernel_rfl) (by simp) ?_
    refine AllReadyH.cons rfl (fun K hK => ?_) AllReadyH.nil
    go_simp
    refine hK.out _ _ ⟨hHeld.1.up ((Below.refl _ _).alloc (Nat.le_refl _) _), Arr.alloc hHeld.2 _⟩ (fun hHeldx => ?_)
    clear hK K
    try simp only [Act.put, List.setIfInBounds_toArray, List.set_cons_zero, List.set_cons_succ]
    obtain ⟨w2, hw2⟩ : ∃ z, z = w1.drew.alloc (.cells (#[.int .i64 0, .int .i64 0, .int .i64 0] : Array Value) 50) := ⟨_, rfl⟩
    obtain ⟨g, hg⟩ : ∃ z, z = w1.heap.size := ⟨_, rfl⟩
    have hv2 : Arr w2 g 50 [.int .i64 0, .int .i64 0, .int .i64 0] := by rw [hw2, hg]; exact Arr.new w1.drew _ _
    have hb2 : Below w.heap.size w w2 := by rw [hw2]; exact (Below.dN hb1 1).alloc (Below.dN hb1 1).size _
    have hgw : w.heap.size < g := by rw [hg, Hw1.out]; simp
    change wpAnyH _ _ _ _ _ _ _ _ (w1.drew.alloc (.cells (#[.int .i64 0, .int .i64 0, .int .i64 0] : Array Value) 50))
    change IxQ (w1.drew.alloc (.cells (#[.int .i64 0, .int .i64 0, .int .i64 0] : Array Value) 50)) s mb L ∧ Arr (w1.drew.alloc (.cells (#[.int .i64 0, .int .i64 0, .int .i64 0] : Array Value) 50)) gt 39 DL at hHeldx
    rw [← hw2] at hHeldx ⊢
    try rw [← hg]
    clear hw2 hg
    refine wpAnyH_ready (rs := [10]) (by kernel_rfl) (by simp) ?_
    refine AllReadyH.cons rfl (fun K hK => ?_) AllReadyH.nil
    obtain ⟨w3, hw3⟩ : ∃ z, z = w2.setRow g VL.toArray := ⟨_, rfl⟩
    have hv3 : Arr w3 g 50 VL := by rw [hw3]; exact hv2.setRow VL
    have hb3 : Below w.heap.size w w3 := by rw [hw3]; exact Below.setRI hb2 (by omega) _
    have hq3 : IxQ w3 s mb L := Hh.out.up hb3
    have hd3 : Arr w3 gt 39 DL := by rw [hw3]; exact hHeldx.2.rowOther (by have := Hgt.out; omega) _
    refine wp_store_row_toX rfl _ _ _ rfl g VL.toArray rfl rfl 50 _ hv2 HVi.out.1 HVi.out.2 HV1.out ?_
    rw [← hw3]
    refine hK.out _ _ ⟨hq3, hd3⟩ (fun hHeldy => ?_)
    clear hK K
    try simp only [Act.put, List.setIfInBounds_toArray, List.set_cons_zero, List.set_cons_succ]
    refine anyH_take (i := 11) (v := .bool false) (some 6) rfl rfl (by kernel_rfl) (by kernel_rfl) (by kernel_rfl) (fun _ _ _ h => h) (Or.inl ⟨by rfl, fun w' hw => by (go_simp)⟩) (by assumption) ?_
    simp only [Act.put, List.setIfInBounds_toArray, List.set_cons_zero, List.set_cons_succ]
    refine wpAnyH_done (by kernel_rfl) ?_ _
    clear hHeld hHeldx hHeldy hv2 hb2 hw3 hq1 hd1 hb1 HlkE
    have hnw : w3.rangeAt 0 0 PL := fun j v hj => by
      rw [HPL.out] at hj
      rw [← Hno.out j v hj]
      exact World.cell?_of_block (hb3.block 0 h0)
    have hth : w3.there g 0 PL.toArray.size := there_arr hv3 (by rw [HPL.out, HVL.out]; decide)
    obtain ⟨w4, hw4⟩ : ∃ z, z = w3.setCells g 0 PL := ⟨_, rfl⟩
    obtain ⟨YL, hYL⟩ : ∃ z, z = stC 0 0 0 := ⟨_, rfl⟩
    have hv4 : Arr w4 g 50 YL := by
      rw [hw4, HPL.out, hYL]
      have := hv3
      rw [HVL.out] at this
      exact nowPut this _ _
    have hb4 : Below w.heap.size w w4 := by rw [hw4, HPL.out]; exact nowBelow hb3 (by omega) _ _
    have hdW : Arr w4 gt 39 DL := by
      rw [hw4, HPL.out]
      exact ((Below.heap_setCell _ _ _ gt (by show gt ≠ g; have := Hgt.out; omega)).trans (Below.heap_setCell _ _ _ gt (by show gt ≠ g; have := Hgt.out; omega))).trans hd3
    have HYL := Lib.hid hYL
    have Hw4 := Lib.hid hw4
    clear hd3 hYL hw4 hq3
    go_upto_region 4 with (first
      | ((with_reducible refine wpList_atT 18 (by rfl) ?_); refine wpList_load_mid rfl _ _ rfl 0 0 rfl PL _ hnw Tryd.underlying48 rfl HPi.out ?_)
      | (refine wpList_store_mid rfl 48 _ _ rfl g 0 PL.toArray rfl rfl hth HPj.out HP1.out ?_; (try rw [show PL.toArray.toList = PL from rfl]); rw [← Hw4.out]))
    clear hnw hth hv3 hb3 Hno Hw4
    have hc2 : w4.cell? ⟨g, 2, none⟩ = some (.int .i64 0) := by rw [hv4.cell, HYL.out]; rfl
    have hf2 := hv4.frozen 2
    have HvH := Lib.hid hv4
    clear hv4
    go_upto_region 5 with fail
    obtain ⟨w5, hw5⟩ : ∃ z, z = w4.setCell ⟨g, 2, none⟩ (.int .i64 1) := ⟨_, rfl⟩
    rw [← hw5]
    obtain ⟨XL, hXL⟩ : ∃ z, z = stC 0 0 (1) := ⟨_, rfl⟩
    have hv5 : Arr w5 g 50 XL := by
      have := HvH.out.set 2 (.int .i64 1)
      rw [hw5, hXL]
      rw [HYL.out] at this
      exact this
    have hb5 : Below w.heap.size w w5 := by rw [hw5]; exact belowCellX hb4 (by omega) 2 _
    have hq5 : IxQ w5 s mb L := Hh.out.up hb5
    have hd5 : Arr w5 gt 39 DL := by rw [hw5]; exact (Below.heap_setCell w4 _ _ gt (by show gt ≠ g; have := Hgt.out; omega)).trans hdW
    have HXi := Lib.hid (show (Tryd.prog.info? 50).map (·.size) = some XL.length by rw [hXL]; exact stInfo)
    have Hxd := Lib.hid (show (⟨d, 0, 0, 1⟩ : Ix).d = d from rfl)
    have Hrd := Lib.hid (show stR (.agg XL.toArray) = some (stDx (0, 0, 1), []) by rw [hXL]; exact stR_mk (0, 0, 1))
    clear hw5 HvH hc2 hf2 hdW hXL
    refine wp_region_held_drew (S := (fun w' => Arr w' s 55 [.map (some mb)] ∧ Arr w' gt 39 DL ∧ Arr w' g 50 XL)) (by kernel_rfl) ⟨(hq5.up (Below.dN (Below.refl _ w5) 1)).hs, (show Arr w5.drew gt 39 DL from hd5), (show Arr w5.drew g 50 XL from hv5)⟩ (fun hHeld => ?_)
    refine anyH_take (i := 0) (v := .pointer (some ⟨s, 0, none⟩)) (some 24) rfl rfl (by kernel_rfl) (by kernel_rfl) (by kernel_rfl) (fun _ _ _ h => h) (Or.inl ⟨by rfl, fun w' hw => by (go_simp)⟩) (by assumption) ?_
    simp only [Act.put, List.setIfInBounds_toArray, List.set_cons_zero, List.set_cons_succ]
    refine anyH_take (i := 1) (v := .pointer (some ⟨s, 0, none⟩)) (some 25) rfl rfl (by kernel_rfl) (by kernel_rfl) (by kernel_rfl) (fun _ _ _ h => h) (Or.inl ⟨by rfl, fun w' hw => by (go_simp)⟩) (by assumption) ?_
    simp only [Act.put, List.setIfInBounds_toArray, List.set_cons_zero, List.set_cons_succ]
    refine anyH_take (i := 2) (v := .pointer (some ⟨s, 0, none⟩)) (some 26) rfl rfl (by kernel_rfl) (by kernel_rfl) (by kernel_rfl) (fun _ _ _ h => h) (Or.inl ⟨by rfl, fun w' hw => by (go_simp)⟩) (by assumption) ?_
    simp only [Act.put, List.setIfInBounds_toArray, List.set_cons_zero, List.set_cons_succ]
    refine anyH_take (i := 3) (v := .map (some mb)) (some 27) rfl rfl (by kernel_rfl) (by kernel_rfl) (by kernel_rfl) (fun _ _ _ h => h) (Or.inl ⟨by rfl, fun w' hw => by (have hcc := hw.1.cell 0; simp only [List.getElem?_cons_zero] at hcc; go_simp)⟩) (by assumption) ?_
    simp only [Act.put, List.setIfInBounds_toArray, List.set_cons_zero, List.set_cons_succ]
    refine anyH_take (i := 4) (some 28) rfl rfl (by kernel_rfl) (by kernel_rfl) (by kernel_rfl) (fun _ _ _ h => h) (yieldsIf_load_mid (by rfl) 39 (.tmp 3) rfl gt 0 rfl DL _ (fun w' h => (h.2.1).range) Tryd.underlying39 rfl HDn.out) (by assumption) ?_
    simp only [Act.put, List.setIfInBounds_toArray, List.set_cons_zero, List.set_cons_succ]
    refine anyH_take (i := 5) (some 29) rfl rfl (by kernel_rfl) (by kernel_rfl) (by kernel_rfl) (fun _ _ _ h => h) (yieldsIf_load_mid (by rfl) 50 (.tmp 5) rfl g 0 rfl XL _ (fun w' h => (h.2.2).range) Tryd.underlying50 rfl HXi.out) (by assumption) ?_
    simp only [Act.put, List.setIfInBounds_toArray, List.set_cons_zero, List.set_cons_succ]
    refine wpAnyH_ready (rs := [6]) (by kernel_rfl) (by simp) ?_
    refine AllReadyH.cons rfl (fun K hK => ?_) AllReadyH.nil
    try rw [if_pos (by rfl)]
    refine wp_mapUpdate_toX rfl _ _ _ 53 rfl 39 50 dgKeyed Tryd.underlying53 stR mb L.length (ixD L) rfl (World.ownsMap.at_ (hq5.up (Below.dN (Below.refl _ w5) 1)).hm (by rfl)) Hroom.out _ _ _ rfl rfl Hkey.out _ [] Hrd.out ?_
    intro wm hown hg8
    have hgm := below_grown (Below.dN hb5 1) (show (w5.drew).grownBy wm (some mb) from ⟨hg8.os, hg8.tape, hg8.output, hg8.size, hg8.block⟩)
    have hqm : IxQ wm s mb (putX ⟨d, 0, 0, 1⟩ L) := ix_grown (w := w5.drew) (hq5.up (Below.dN (Below.refl _ w5) 1)) (by rw [← ixD_put ⟨d, 0, 0, 1⟩ L, Hxd.out]) hown ⟨hg8.os, hg8.tape, hg8.output, hg8.size, hg8.block⟩
    refine hK.out _ _ ⟨hqm.hs, (hg8.block gt (Arr.lt (show Arr w5.drew gt 39 DL from hd5)) (fun e => by injection e; have := Hgt.out; omega)).trans (show Arr w5.drew gt 39 DL from hd5), (hg8.block g (Arr.lt (show Arr w5.drew g 50 XL from hv5)) (fun e => by injection e; omega)).trans (show Arr w5.drew g 50 XL from hv5)⟩ (fun hHeldq => ?_)
    clear hK K hHeldq hown hg8 hHeld
    try simp only [Act.put, List.setIfInBounds_toArray, List.set_cons_zero, List.set_cons_succ]
    refine wpAnyH_done (by kernel_rfl) ?_ _
    clear hv5 hq5 hd5 hb5
    go_wp2_with fail
    go_ret
    exact ⟨rfl, by rw [Hho.out]; exact hqm, hgm⟩

/-- What Free leaves, and tells. -/
def freeX (d : List UInt8) (L : List Ix) : List Ix × Bool × Int := match findX L d with
  | some x => if x.u = 1 then (delX d L, true, 0) else (putX ⟨d, x.b, x.s, x.u - 1⟩ L, false, 0)
  | none => (L, false, 5)
set_option maxHeartbeats 8000000 in
set_option maxRecDepth 100000 in
theorem ifree_any (s mb : Nat) (L : List Ix) (d : List UInt8) (hd : d.length = 32) (w : World) (h : IxQ w s mb L) (hlen : L.length ≤ 100000) (hu : ∀ x ∈ L, 1 ≤ x.u ∧ x.u ≤ 1000000000000) (DL : List Value) (hDL : DL = Lib.byteCells d) :
    Calls Tryd.prog 13 #[.pointer (some ⟨s, 0, none⟩), .agg DL.toArray] w fun e w' => e = .returned (.tuple #[.bool (freeX d L).2.1, .int .i64 (freeX d L).2.2]) ∧ IxQ w' s mb (freeX d L).1 ∧ w.grownBy w' (some mb) := by
  obtain ⟨gt, hgt⟩ : ∃ z, z = w.heap.size := ⟨_, rfl⟩
  obtain ⟨w1, hw1⟩ : ∃ z, z = w.alloc (.cells DL.toArray 39) := ⟨_, rfl⟩
  have hb1 : Below w.heap.size w w1 := by rw [hw1]; exact (Below.refl _ _).alloc (Nat.le_refl _) _
  have hd1 : Arr w1 gt 39 DL := by rw [hw1, hgt]; exact Arr.new w _ _
  have hq1 : IxQ w1 s mb L := h.up hb1
  have hDe : digV d = .agg DL.toArray := by rw [hDL]; rfl
  have HDn := Lib.hid (show (Tryd.prog.info? 39).map (·.size) = some DL.length by rw [hDL, Lib.byteCells_length, hd]; exact digInfo)
  have Hkey := Lib.hid (show keyOf Tryd.prog 39 (.agg DL.toArray) = some (.string d) by rw [← hDe]; exact keyOf_dg hd)
  have Hh := Lib.hid h
  have Hw1 := Lib.hid hw1
  have Hgt := Lib.hid hgt
  have Hlen := Lib.hid hlen
  have hsl := h.lt
  have HDe := Lib.hid hDe
  clear hDL hDe hw1 hgt h hlen
  have Hroom := Lib.hid (show L.length < maxLen by have := Hlen.out; unfold maxLen; omega)
  cases hf : findX L d with
  | some x =>
    have Hf := Lib.hid hf
    have hux := hu x (findX_mem hf).1
    obtain ⟨xb, hxb⟩ : ∃ z, x.b = z := ⟨_, rfl⟩
    obtain ⟨xs, hxs⟩ : ∃ z, x.s = z := ⟨_, rfl⟩
    obtain ⟨v, hv⟩ : ∃ v, x.u = v + 1 := ⟨x.u - 1, by omega⟩
    rw [hv] at hux
    have hvm : v ≤ 1000000000000 := by omega
    clear hux
    obtain ⟨VL, hVL⟩ : ∃ z, z = stC xb xs (v + 1) := ⟨_, rfl⟩
    have HVi := Lib.hid (show (Tryd.prog.info? 50).map (·.size) = some VL.toArray.size ∧ (#[.int .i64 0, .int .i64 0, .int .i64 0] : Array Value).size = VL.toArray.size by rw [hVL]; exact ⟨stInfo, rfl⟩)
    have HV1 := Lib.hid (show VL.toArray.all (·.oneCell') = true by rw [hVL]; simp [stC, Value.oneCell'])
    have HlkE := Lib.hid (fun (w' : World) (h : IxQ w' s mb L) => show (Instr.lookup 53 (.map (some mb)) (.agg DL.toArray) true).run Tryd.prog w' = .ok (.tuple #[.agg VL.toArray, .bool true]) w' by
      have hl := ix_look h hd
      rw [hf] at hl
      rw [← HDe.out, hl, hVL, ← hxb, ← hxs, ← hv]; rfl)
    have HVL := Lib.hid hVL
    have HXs := Lib.hid (show x.b = xb ∧ x.s = xs ∧ x.u = v + 1 from ⟨hxb, hxs, hv⟩)
    clear hf hxb hxs hv hVL hu
    by_cases hv0 : v = 0
    · subst hv0
      have Hfr := Lib.hid (show freeX d L = (delX d L, true, 0) by unfold freeX; rw [Hf.out]; dsimp only; rw [HXs.out.2.2]; rfl)
      clear hvm
      go_enter Tryd.func13, Tryd.ntmps13
      go_upto_region 1 with fail
      rw [← Hw1.out, ← Hgt.out]
      refine wp_region_held_drew (S := (fun w' => IxQ w' s mb L ∧ Arr w' gt 39 DL)) (by kernel_rfl) ⟨hq1.up (Below.dN (Below.refl _ w1) 1), hd1⟩ (fun hHeld => ?_)
      refine anyH_take (i := 0) (v := .pointer (some ⟨s, 0, none⟩)) (some 9) rfl rfl (by kernel_rfl) (by kernel_rfl) (by kernel_rfl) (fun _ _ _ h => h) (Or.inl ⟨by rfl, fun w' hw => by (go_simp)⟩) (by assumption) ?_
      simp only [Act.put, List.setIfInBounds_toArray, List.set_cons_zero, List.set_cons_succ]
      refine anyH_take (i := 1) (v := .pointer (some ⟨s, 0, none⟩)) (some 10) rfl rfl (by kernel_rfl) (by kernel_rfl) (by kernel_rfl) (fun _ _ _ h => h) (Or.inl ⟨by rfl, fun w' hw => by (go_simp)⟩) (by assumption) ?_
      simp only [Act.put, List.setIfInBounds_toArray, List.set_cons_zero, List.set_cons_succ]
      refine anyH_take (i := 2) (v := .pointer (some ⟨s, 0, none⟩)) (some 11) rfl rfl (by kernel_rfl) (by kernel_rfl) (by kernel_rfl) (fun _ _ _ h => h) (Or.inl ⟨by rfl, fun w' hw => by (go_simp)⟩) (by assumption) ?_
      simp only [Act.put, List.setIfInBounds_toArray, List.set_cons_zero, List.set_cons_succ]
      refine anyH_take (i := 3) (v := .map (some mb)) (some 12) rfl rfl (by kernel_rfl) (by kernel_rfl) (by kernel_rfl) (fun _ _ _ h => h) (Or.inl ⟨by rfl, fun w' hw => by (have hcc := hw.1.hs.cell 0; simp only [List.getElem?_cons_zero] at hcc; go_simp)⟩) (by assumption) ?_
      simp only [Act.put, List.setIfInBounds_toArray, List.set_cons_zero, List.set_cons_succ]
      refine anyH_take (i := 4) (some 13) rfl rfl (by kernel_rfl) (by kernel_rfl) (by kernel_rfl) (fun _ _ _ h => h) (yieldsIf_load_mid (by rfl) 39 (.tmp 3) rfl gt 0 rfl DL _ (fun w' h => (h.2).range) Tryd.underlying39 rfl HDn.out) (by assumption) ?_
      simp only [Act.put, List.setIfInBounds_toArray, List.set_cons_zero, List.set_cons_succ]
      refine anyH_take (i := 5) (v := .tuple #[.agg VL.toArray, .bool true]) (some 14) rfl rfl (by kernel_rfl) (by kernel_rfl) (by kernel_rfl) (fun _ _ _ h => h) (Or.inl ⟨by rfl, fun w' hw => by (have hl0 := HlkE.out w' hw.1; go_simp)⟩) (by assumption) ?_
      simp only [Act.put, List.setIfInBounds_toArray, List.set_cons_zero, List.set_cons_succ]
      refine anyH_take (i := 6) (v := .tuple #[.agg VL.toArray, .bool true]) (some 8) rfl rfl (by kernel_rfl) (by kernel_rfl) (by kernel_rfl) (fun _ _ _ h => h) (Or.inl ⟨by rfl, fun w' hw => by (go_simp)⟩) (by assumption) ?_
      simp only [Act.put, List.setIfInBounds_toArray, List.set_cons_zero, List.set_cons_succ]
      refine anyH_take (i := 7) (v := .agg VL.toArray) (some 15) rfl rfl (by kernel_rfl) (by kernel_rfl) (by kernel_rfl) (fun _ _ _ h => h) (Or.inl ⟨by rfl, fun w' hw => by (go_simp)⟩) (by assumption) ?_
      simp only [Act.put, List.setIfInBounds_toArray, List.set_cons_zero, List.set_cons_succ]
      refine anyH_take (i := 8) (v := .bool true) (some 16) rfl rfl (by kernel_rfl) (by kernel_rfl) (by kernel_rfl) (fun _ _ _ h => h) (Or.inl ⟨by rfl, fun w' hw => by (go_simp)⟩) (by assumption) ?_
      simp only [Act.put, List.setIfInBounds_toArray, List.set_cons_zero, List.set_cons_succ]
      refine wpAnyH_ready (rs := [9]) (by kernel_rfl) (by simp) ?_
      refine AllReadyH.cons rfl (fun K hK => ?_) AllReadyH.nil
      go_simp
      refine hK.out _ _ ⟨hHeld.1.up ((Below.refl _ _).alloc (Nat.le_refl _) _), Arr.alloc hHeld.2 _⟩ (fun hHeldx => ?_)
      clear hK K
      try simp only [Act.put, List.setIfInBounds_toArray, List.set_cons_zero, List.set_cons_succ]
      obtain ⟨w2, hw2⟩ : ∃ z, z = w1.drew.alloc (.cells (#[.int .i64 0, .int .i64 0, .int .i64 0] : Array Value) 50) := ⟨_, rfl⟩
      obtain ⟨g, hg⟩ : ∃ z, z = w1.heap.size := ⟨_, rfl⟩
      have hv2 : Arr w2 g 50 [.int .i64 0, .int .i64 0, .int .i64 0] := by rw [hw2, hg]; exact Arr.new w1.drew _ _
      have hb2 : Below w.heap.size w w2 := by rw [hw2]; exact (Below.dN hb1 1).alloc (Below.dN hb1 1).size _
      have hgw : w.heap.size < g := by rw [hg, Hw1.out]; simp
      change wpAnyH _ _ _ _ _ _ _ _ (w1.drew.alloc (.cells (#[.int .i64 0, .int .i64 0, .int .i64 0] : Array Value) 50))
      change IxQ (w1.drew.alloc (.cells (#[.int .i64 0, .int .i64 0, .int .i64 0] : Array Value) 50)) s mb L ∧ Arr (w1.drew.alloc (.cells (#[.int .i64 0, .int .i64 0, .int .i64 0] : Array Value) 50)) gt 39 DL at hHeldx
      rw [← hw2] at hHeldx ⊢
      try rw [← hg]
      clear hw2 hg
      refine wpAnyH_ready (rs := [10]) (by kernel_rfl) (by simp) ?_
      refine AllReadyH.cons rfl (fun K hK => ?_) AllReadyH.nil
      obtain ⟨w3, hw3⟩ : ∃ z, z = w2.setRow g VL.toArray := ⟨_, rfl⟩
      have hv3 : Arr w3 g 50 VL := by rw [hw3]; exact hv2.setRow VL
      have hb3 : Below w.heap.size w w3 := by rw [hw3]; exact Below.setRI hb2 (by omega) _
      have hq3 : IxQ w3 s mb L := Hh.out.up hb3
      have hd3 : Arr w3 gt 39 DL := by rw [hw3]; exact hHeldx.2.rowOther (by have := Hgt.out; omega) _
      refine wp_store_row_toX rfl _ _ _ rfl g VL.toArray rfl rfl 50 _ hv2 HVi.out.1 HVi.out.2 HV1.out ?_
      rw [← hw3]
      refine hK.out _ _ ⟨hq3, hd3⟩ (fun hHeldy => ?_)
      clear hK K
      try simp only [Act.put, List.setIfInBounds_toArray, List.set_cons_zero, List.set_cons_succ]
      refine anyH_take (i := 11) (v := .bool true) (some 7) rfl rfl (by kernel_rfl) (by kernel_rfl) (by kernel_rfl) (fun _ _ _ h => h) (Or.inl ⟨by rfl, fun w' hw => by (go_simp)⟩) (by assumption) ?_
      simp only [Act.put, List.setIfInBounds_toArray, List.set_cons_zero, List.set_cons_succ]
      refine wpAnyH_done (by kernel_rfl) ?_ _
      clear hHeld hHeldx hHeldy hv2 hb2 hw3 hq1 hd1 hb1 HlkE
      have hdW : Arr w3 gt 39 DL := hd3
      clear hd3
      go_upto_region 4 with fail
      have hc2 : w3.cell? ⟨g, 2, none⟩ = some (.int .i64 1) := by rw [hv3.cell, HVL.out]; rfl
      have hf2 := hv3.frozen 2
      have HvH := Lib.hid hv3
      clear hv3
      go_upto_region 5 with fail
      obtain ⟨w5, hw5⟩ : ∃ z, z = w3.setCell ⟨g, 2, none⟩ (.int .i64 0) := ⟨_, rfl⟩
      rw [← hw5]
      have hv5 := HvH.out.set 2 (.int .i64 0)
      rw [← hw5] at hv5
      have hb5 : Below w.heap.size w w5 := by rw [hw5]; exact belowCellX hb3 (by omega) 2 _
      have hq5 : IxQ w5 s mb L := Hh.out.up hb5
      have hd5 : Arr w5 gt 39 DL := by rw [hw5]; exact (Below.heap_setCell w3 _ _ gt (by show gt ≠ g; have := Hgt.out; omega)).trans hdW
      have hc5 : w5.cell? ⟨g, 2, none⟩ = some (.int .i64 0) := by rw [hv5.cell, HVL.out]; rfl
      clear hw5 HvH hc2 hf2 hdW hv5 hq3 hb3
      go_upto_region 6 with fail
      clear hc5
      refine wp_region_held_drew (S := (fun w' => Arr w' s 55 [.map (some mb)] ∧ Arr w' gt 39 DL)) (by kernel_rfl) ⟨(hq5.up (Below.dN (Below.refl _ w5) 1)).hs, (show Arr w5.drew gt 39 DL from hd5)⟩ (fun hHeld => ?_)
      refine anyH_take (i := 0) (v := .pointer (some ⟨s, 0, none⟩)) (some 26) rfl rfl (by kernel_rfl) (by kernel_rfl) (by kernel_rfl) (fun _ _ _ h => h) (Or.inl ⟨by rfl, fun w' hw => by (go_simp)⟩) (by assumption) ?_
      simp only [Act.put, List.setIfInBounds_toArray, List.set_cons_zero, List.set_cons_succ]
      refine anyH_take (i := 1) (v := .pointer (some ⟨s, 0, none⟩)) (some 27) rfl rfl (by kernel_rfl) (by kernel_rfl) (by kernel_rfl) (fun _ _ _ h => h) (Or.inl ⟨by rfl, fun w' hw => by (go_simp)⟩) (by assumption) ?_
      simp only [Act.put, List.setIfInBounds_toArray, List.set_cons_zero, List.set_cons_succ]
      refine anyH_take (i := 2) (v := .pointer (some ⟨s, 0, none⟩)) (some 28) rfl rfl (by kernel_rfl) (by kernel_rfl) (by kernel_rfl) (fun _ _ _ h => h) (Or.inl ⟨by rfl, fun w' hw => by (go_simp)⟩) (by assumption) ?_
      simp only [Act.put, List.setIfInBounds_toArray, List.set_cons_zero, List.set_cons_succ]
      refine anyH_take (i := 3) (v := .map (some mb)) (some 29) rfl rfl (by kernel_rfl) (by kernel_rfl) (by kernel_rfl) (fun _ _ _ h => h) (Or.inl ⟨by rfl, fun w' hw => by (have hcc := hw.1.cell 0; simp only [List.getElem?_cons_zero] at hcc; go_simp)⟩) (by assumption) ?_
      simp only [Act.put, List.setIfInBounds_toArray, List.set_cons_zero, List.set_cons_succ]
      refine anyH_take (i := 4) (some 30) rfl rfl (by kernel_rfl) (by kernel_rfl) (by kernel_rfl) (fun _ _ _ h => h) (yieldsIf_load_mid (by rfl) 39 (.tmp 3) rfl gt 0 rfl DL _ (fun w' h => (h.2).range) Tryd.underlying39 rfl HDn.out) (by assumption) ?_
      simp only [Act.put, List.setIfInBounds_toArray, List.set_cons_zero, List.set_cons_succ]
      refine wpAnyH_ready (rs := [5]) (by kernel_rfl) (by simp) ?_
      refine AllReadyH.cons rfl (fun K hK => ?_) AllReadyH.nil
      try rw [if_pos (by rfl)]
      refine wp_delete_toX rfl _ _ 53 39 rfl 50 dgKeyed Tryd.underlying53 stR mb L.length (ixD L) rfl (World.ownsMap.at_ hq5.hm (by rfl)) _ _ rfl Hkey.out ?_
      intro wm hown hg8
      have hgm := below_grown (Below.dN hb5 1) (show (w5.drew).grownBy wm (some mb) from ⟨hg8.os, hg8.tape, hg8.output, hg8.size, hg8.block⟩)
      have hqm : IxQ wm s mb (delX d L) := ix_grown (w := w5.drew) (hq5.up (Below.dN (Below.refl _ w5) 1)) (ixD_del d L) hown ⟨hg8.os, hg8.tape, hg8.output, hg8.size, hg8.block⟩
      refine hK.out _ _ ⟨hqm.hs, (hg8.block gt (Arr.lt hd5) (fun e => by injection e; have := Hgt.out; omega)).trans hd5⟩ (fun hHeldq => ?_)
      clear hK K hHeldq hown hg8 hHeld
      try simp only [Act.put, List.setIfInBounds_toArray, List.set_cons_zero, List.set_cons_succ]
      refine wpAnyH_done (by kernel_rfl) ?_ _
      clear hq5 hd5 hb5
      go_wp2_with fail
      go_ret2
      exact ⟨by rw [Hfr.out]; rfl, by rw [Hfr.out]; exact hqm, hgm⟩
    · have Hfr := Lib.hid (show freeX d L = (putX ⟨d, xb, xs, v⟩ L, false, 0) by
        unfold freeX; rw [Hf.out]; dsimp only; rw [HXs.out.2.2, if_neg (by omega), HXs.out.1, HXs.out.2.1]; rfl)
      have hz1 : ((v : Int) == 0) = false := by simp; omega
      have hz2 : decide ((v : Int) = 0) = false := by simp; omega
      have hz3 : decide (v = 0) = false := by simp; omega
      go_enter Tryd.func13, Tryd.ntmps13
      go_upto_region 1 with fail
      rw [← Hw1.out, ← Hgt.out]
      refine wp_region_held_drew (S := (fun w' => IxQ w' s mb L ∧ Arr w' gt 39 DL)) (by kernel_rfl) ⟨hq1.up (Below.dN (Below.refl _ w1) 1), hd1⟩ (fun hHeld => ?_)
      refine anyH_take (i := 0) (v := .pointer (some ⟨s, 0, none⟩)) (some 9) rfl rfl (by kernel_rfl) (by kernel_rfl) (by kernel_rfl) (fun _ _ _ h => h) (Or.inl ⟨by rfl, fun w' hw => by (go_simp)⟩) (by assumption) ?_
      simp only [Act.put, List.setIfInBounds_toArray, List.set_cons_zero, List.set_cons_succ]
      refine anyH_take (i := 1) (v := .pointer (some ⟨s, 0, none⟩)) (some 10) rfl rfl (by kernel_rfl) (by kernel_rfl) (by kernel_rfl) (fun _ _ _ h => h) (Or.inl ⟨by rfl, fun w' hw => by (go_simp)⟩) (by assumption) ?_
      simp only [Act.put, List.setIfInBounds_toArray, List.set_cons_zero, List.set_cons_succ]
      refine anyH_take (i := 2) (v := .pointer (some ⟨s, 0, none⟩)) (some 11) rfl rfl (by kernel_rfl) (by kernel_rfl) (by kernel_rfl) (fun _ _ _ h => h) (Or.inl ⟨by rfl, fun w' hw => by (go_simp)⟩) (by assumption) ?_
      simp only [Act.put, List.setIfInBounds_toArray, List.set_cons_zero, List.set_cons_succ]
      refine anyH_take (i := 3) (v := .map (some mb)) (some 12) rfl rfl (by kernel_rfl) (by kernel_rfl) (by kernel_rfl) (fun _ _ _ h => h) (Or.inl ⟨by rfl, fun w' hw => by (have hcc := hw.1.hs.cell 0; simp only [List.getElem?_cons_zero] at hcc; go_simp)⟩) (by assumption) ?_
      simp only [Act.put, List.setIfInBounds_toArray, List.set_cons_zero, List.set_cons_succ]
      refine anyH_take (i := 4) (some 13) rfl rfl (by kernel_rfl) (by kernel_rfl) (by kernel_rfl) (fun _ _ _ h => h) (yieldsIf_load_mid (by rfl) 39 (.tmp 3) rfl gt 0 rfl DL _ (fun w' h => (h.2).range) Tryd.underlying39 rfl HDn.out) (by assumption) ?_
      simp only [Act.put, List.setIfInBounds_toArray, List.set_cons_zero, List.set_cons_succ]
      refine anyH_take (i := 5) (v := .tuple #[.agg VL.toArray, .bool true]) (some 14) rfl rfl (by kernel_rfl) (by kernel_rfl) (by kernel_rfl) (fun _ _ _ h => h) (Or.inl ⟨by rfl, fun w' hw => by (have hl0 := HlkE.out w' hw.1; go_simp)⟩) (by assumption) ?_
      simp only [Act.put, List.setIfInBounds_toArray, List.set_cons_zero, List.set_cons_succ]
      refine anyH_take (i := 6) (v := .tuple #[.agg VL.toArray, .bool true]) (some 8) rfl rfl (by kernel_rfl) (by kernel_rfl) (by kernel_rfl) (fun _ _ _ h => h) (Or.inl ⟨by rfl, fun w' hw => by (go_simp)⟩) (by assumption) ?_
      simp only [Act.put, List.setIfInBounds_toArray, List.set_cons_zero, List.set_cons_succ]
      refine anyH_take (i := 7) (v := .agg VL.toArray) (some 15) rfl rfl (by kernel_rfl) (by kernel_rfl) (by kernel_rfl) (fun _ _ _ h => h) (Or.inl ⟨by rfl, fun w' hw => by (go_simp)⟩) (by assumption) ?_
      simp only [Act.put, List.setIfInBounds_toArray, List.set_cons_zero, List.set_cons_succ]
      refine anyH_take (i := 8) (v := .bool true) (some 16) rfl rfl (by kernel_rfl) (by kernel_rfl) (by kernel_rfl) (fun _ _ _ h => h) (Or.inl ⟨by rfl, fun w' hw => by (go_simp)⟩) (by assumption) ?_
      simp only [Act.put, List.setIfInBounds_toArray, List.set_cons_zero, List.set_cons_succ]
      refine wpAnyH_ready (rs := [9]) (by kernel_rfl) (by simp) ?_
      refine AllReadyH.cons rfl (fun K hK => ?_) AllReadyH.nil
      go_simp
      refine hK.out _ _ ⟨hHeld.1.up ((Below.refl _ _).alloc (Nat.le_refl _) _), Arr.alloc hHeld.2 _⟩ (fun hHeldx => ?_)
      clear hK K
      try simp only [Act.put, List.setIfInBounds_toArray, List.set_cons_zero, List.set_cons_succ]
      obtain ⟨w2, hw2⟩ : ∃ z, z = w1.drew.alloc (.cells (#[.int .i64 0, .int .i64 0, .int .i64 0] : Array Value) 50) := ⟨_, rfl⟩
      obtain ⟨g, hg⟩ : ∃ z, z = w1.heap.size := ⟨_, rfl⟩
      have hv2 : Arr w2 g 50 [.int .i64 0, .int .i64 0, .int .i64 0] := by rw [hw2, hg]; exact Arr.new w1.drew _ _
      have hb2 : Below w.heap.size w w2 := by rw [hw2]; exact (Below.dN hb1 1).alloc (Below.dN hb1 1).size _
      have hgw : w.heap.size < g := by rw [hg, Hw1.out]; simp
      change wpAnyH _ _ _ _ _ _ _ _ (w1.drew.alloc (.cells (#[.int .i64 0, .int .i64 0, .int .i64 0] : Array Value) 50))
      change IxQ (w1.drew.alloc (.cells (#[.int .i64 0, .int .i64 0, .int .i64 0] : Array Value) 50)) s mb L ∧ Arr (w1.drew.alloc (.cells (#[.int .i64 0, .int .i64 0, .int .i64 0] : Array Value) 50)) gt 39 DL at hHeldx
      rw [← hw2] at hHeldx ⊢
      try rw [← hg]
      clear hw2 hg
      refine wpAnyH_ready (rs := [10]) (by kernel_rfl) (by simp) ?_
      refine AllReadyH.cons rfl (fun K hK => ?_) AllReadyH.nil
      obtain ⟨w3, hw3⟩ : ∃ z, z = w2.setRow g VL.toArray := ⟨_, rfl⟩
      have hv3 : Arr w3 g 50 VL := by rw [hw3]; exact hv2.setRow VL
      have hb3 : Below w.heap.size w w3 := by rw [hw3]; exact Below.setRI hb2 (by omega) _
      have hq3 : IxQ w3 s mb L := Hh.out.up hb3
      have hd3 : Arr w3 gt 39 DL := by rw [hw3]; exact hHeldx.2.rowOther (by have := Hgt.out; omega) _
      refine wp_store_row_toX rfl _ _ _ rfl g VL.toArray rfl rfl 50 _ hv2 HVi.out.1 HVi.out.2 HV1.out ?_
      rw [← hw3]
      refine hK.out _ _ ⟨hq3, hd3⟩ (fun hHeldy => ?_)
      clear hK K
      try simp only [Act.put, List.setIfInBounds_toArray, List.set_cons_zero, List.set_cons_succ]
      refine anyH_take (i := 11) (v := .bool true) (some 7) rfl rfl (by kernel_rfl) (by kernel_rfl) (by kernel_rfl) (fun _ _ _ h => h) (Or.inl ⟨by rfl, fun w' hw => by (go_simp)⟩) (by assumption) ?_
      simp only [Act.put, List.setIfInBounds_toArray, List.set_cons_zero, List.set_cons_succ]
      refine wpAnyH_done (by kernel_rfl) ?_ _
      clear hHeld hHeldx hHeldy hv2 hb2 hw3 hq1 hd1 hb1 HlkE
      have hdW : Arr w3 gt 39 DL := hd3
      clear hd3
      go_upto_region 4 with fail
      have hc2 : w3.cell? ⟨g, 2, none⟩ = some (.int .i64 ((v : Int) + 1)) := by rw [hv3.cell, HVL.out]; rfl
      have hf2 := hv3.frozen 2
      have HvH := Lib.hid hv3
      have Hv0 := Lib.hid hv0
      clear hv3 hv0
      go_upto_region 5 with fail
      obtain ⟨w5, hw5⟩ : ∃ z, z = w3.setCell ⟨g, 2, none⟩ (.int .i64 (v : Nat)) := ⟨_, rfl⟩
      rw [← hw5]
      obtain ⟨XL, hXL⟩ : ∃ z, z = stC xb xs v := ⟨_, rfl⟩
      have hv5 : Arr w5 g 50 XL := by
        have := HvH.out.set 2 (.int .i64 (v : Nat))
        rw [hw5, hXL]
        rw [HVL.out] at this
        exact this
      have hb5 : Below w.heap.size w w5 := by rw [hw5]; exact belowCellX hb3 (by omega) 2 _
      have hq5 : IxQ w5 s mb L := Hh.out.up hb5
      have hd5 : Arr w5 gt 39 DL := by rw [hw5]; exact (Below.heap_setCell w3 _ _ gt (by show gt ≠ g; have := Hgt.out; omega)).trans hdW
      have hc5 : w5.cell? ⟨g, 2, none⟩ = some (.int .i64 (v : Nat)) := by rw [hv5.cell, hXL]; rfl
      have HXi := Lib.hid (show (Tryd.prog.info? 50).map (·.size) = some XL.length by rw [hXL]; exact stInfo)
      have Hxd := Lib.hid (show (⟨d, xb, xs, v⟩ : Ix).d = d from rfl)
      have Hrd := Lib.hid (show stR (.agg XL.toArray) = some (stDx (xb, xs, v), []) by rw [hXL]; exact stR_mk (xb, xs, v))
      clear hw5 HvH hc2 hf2 hdW hXL hq3 hb3
      go_upto_region 8 with fail
      clear hc5
      refine wp_region_held_drew (S := (fun w' => Arr w' s 55 [.map (some mb)] ∧ Arr w' gt 39 DL ∧ Arr w' g 50 XL)) (by kernel_rfl) ⟨(hq5.up (Below.dN (Below.refl _ w5) 1)).hs, (show Arr w5.drew gt 39 DL from hd5), (show Arr w5.drew g 50 XL from hv5)⟩ (fun hHeld => ?_)
      refine anyH_take (i := 0) (v := .pointer (some ⟨s, 0, none⟩)) (some 31) rfl rfl (by kernel_rfl) (by kernel_rfl) (by kernel_rfl) (fun _ _ _ h => h) (Or.inl ⟨by rfl, fun w' hw => by (go_simp)⟩) (by assumption) ?_
      simp only [Act.put, List.setIfInBounds_toArray, List.set_cons_zero, List.set_cons_succ]
      refine anyH_take (i := 1) (v := .pointer (some ⟨s, 0, none⟩)) (some 32) rfl rfl (by kernel_rfl) (by kernel_rfl) (by kernel_rfl) (fun _ _ _ h => h) (Or.inl ⟨by rfl, fun w' hw => by (go_simp)⟩) (by assumption) ?_
      simp only [Act.put, List.setIfInBounds_toArray, List.set_cons_zero, List.set_cons_succ]
      refine anyH_take (i := 2) (v := .pointer (some ⟨s, 0, none⟩)) (some 33) rfl rfl (by kernel_rfl) (by kernel_rfl) (by kernel_rfl) (fun _ _ _ h => h) (Or.inl ⟨by rfl, fun w' hw => by (go_simp)⟩) (by assumption) ?_
      simp only [Act.put, List.setIfInBounds_toArray, List.set_cons_zero, List.set_cons_succ]
      refine anyH_take (i := 3) (v := .map (some mb)) (some 34) rfl rfl (by kernel_rfl) (by kernel_rfl) (by kernel_rfl) (fun _ _ _ h => h) (Or.inl ⟨by rfl, fun w' hw => by (have hcc := hw.1.cell 0; simp only [List.getElem?_cons_zero] at hcc; go_simp)⟩) (by assumption) ?_
      simp only [Act.put, List.setIfInBounds_toArray, List.set_cons_zero, List.set_cons_succ]
      refine anyH_take (i := 4) (some 35) rfl rfl (by kernel_rfl) (by kernel_rfl) (by kernel_rfl) (fun _ _ _ h => h) (yieldsIf_load_mid (by rfl) 39 (.tmp 3) rfl gt 0 rfl DL _ (fun w' h => (h.2.1).range) Tryd.underlying39 rfl HDn.out) (by assumption) ?_
      simp only [Act.put, List.setIfInBounds_toArray, List.set_cons_zero, List.set_cons_succ]
      refine anyH_take (i := 5) (some 36) rfl rfl (by kernel_rfl) (by kernel_rfl) (by kernel_rfl) (fun _ _ _ h => h) (yieldsIf_load_mid (by rfl) 50 (.tmp 6) rfl g 0 rfl XL _ (fun w' h => (h.2.2).range) Tryd.underlying50 rfl HXi.out) (by assumption) ?_
      simp only [Act.put, List.setIfInBounds_toArray, List.set_cons_zero, List.set_cons_succ]
      refine wpAnyH_ready (rs := [6]) (by kernel_rfl) (by simp) ?_
      refine AllReadyH.cons rfl (fun K hK => ?_) AllReadyH.nil
      try rw [if_pos (by rfl)]
      refine wp_mapUpdate_toX rfl _ _ _ 53 rfl 39 50 dgKeyed Tryd.underlying53 stR mb L.length (ixD L) rfl (World.ownsMap.at_ (hq5.up (Below.dN (Below.refl _ w5) 1)).hm (by rfl)) Hroom.out _ _ _ rfl rfl Hkey.out _ [] Hrd.out ?_
      intro wm hown hg8
      have hgm := below_grown (Below.dN hb5 1) (show (w5.drew).grownBy wm (some mb) from ⟨hg8.os, hg8.tape, hg8.output, hg8.size, hg8.block⟩)
      have hqm : IxQ wm s mb (putX ⟨d, xb, xs, v⟩ L) := ix_grown (w := w5.drew) (hq5.up (Below.dN (Below.refl _ w5) 1)) (by rw [← ixD_put ⟨d, xb, xs, v⟩ L, Hxd.out]) hown ⟨hg8.os, hg8.tape, hg8.output, hg8.size, hg8.block⟩
      refine hK.out _ _ ⟨hqm.hs, (hg8.block gt (Arr.lt (show Arr w5.drew gt 39 DL from hd5)) (fun e => by injection e; have := Hgt.out; omega)).trans (show Arr w5.drew gt 39 DL from hd5), (hg8.block g (Arr.lt (show Arr w5.drew g 50 XL from hv5)) (fun e => by injection e; omega)).trans (show Arr w5.drew g 50 XL from hv5)⟩ (fun hHeldq => ?_)
      clear hK K hHeldq hown hg8 hHeld
      try simp only [Act.put, List.setIfInBounds_toArray, List.set_cons_zero, List.set_cons_succ]
      refine wpAnyH_done (by kernel_rfl) ?_ _
      clear hv5 hq5 hd5 hb5
      go_wp2_with fail
      go_ret2
      exact ⟨by rw [Hfr.out]; rfl, by rw [Hfr.out]; exact hqm, hgm⟩
  | none =>
    have Hfr := Lib.hid (show freeX d L = (L, false, 5) by unfold freeX; rw [hf])
    obtain ⟨VL, hVL⟩ : ∃ z, z = stC 1 0 0 := ⟨_, rfl⟩
    have HVi := Lib.hid (show (Tryd.prog.info? 50).map (·.size) = some VL.toArray.size ∧ (#[.int .i64 0, .int .i64 0, .int .i64 0] : Array Value).size = VL.toArray.size by rw [hVL]; exact ⟨stInfo, rfl⟩)
    have HV1 := Lib.hid (show VL.toArray.all (·.oneCell') = true by rw [hVL]; simp [stC, Value.oneCell'])
    have HlkE := Lib.hid (fun (w' : World) (h : IxQ w' s mb L) => show (Instr.lookup 53 (.map (some mb)) (.agg DL.toArray) true).run Tryd.prog w' = .ok (.tuple #[.agg VL.toArray, .bool false]) w' by
      have hl := ix_look h hd
      rw [hf] at hl
      rw [← HDe.out, hl, hVL]; rfl)
    clear hf hu hVL
    go_enter Tryd.func13, Tryd.ntmps13
    go_upto_region 1 with fail
    rw [← Hw1.out, ← Hgt.out]
    refine wp_region_held_drew (S := (fun w' => IxQ w' s mb L ∧ Arr w' gt 39 DL)) (by kernel_rfl) ⟨hq1.up (Below.dN (Below.refl _ w1) 1), hd1⟩ (fun hHeld => ?_)
    refine anyH_take (i := 0) (v := .pointer (some ⟨s, 0, none⟩)) (some 9) rfl rfl (by kernel_rfl) (by kernel_rfl) (by kernel_rfl) (fun _ _ _ h => h) (Or.inl ⟨by rfl, fun w' hw => by (go_simp)⟩) (by assumption) ?_
    simp only [Act.put, List.setIfInBounds_toArray, List.set_cons_zero, List.set_cons_succ]
    refine anyH_take (i := 1) (v := .pointer (some ⟨s, 0, none⟩)) (some 10) rfl rfl (by kernel_rfl) (by kernel_rfl) (by kernel_rfl) (fun _ _ _ h => h) (Or.inl ⟨by rfl, fun w' hw => by (go_simp)⟩) (by assumption) ?_
    simp only [Act.put, List.setIfInBounds_toArray, List.set_cons_zero, List.set_cons_succ]
    refine anyH_take (i := 2) (v := .pointer (some ⟨s, 0, none⟩)) (some 11) rfl rfl (by kernel_rfl) (by kernel_rfl) (by kernel_rfl) (fun _ _ _ h => h) (Or.inl ⟨by rfl, fun w' hw => by (go_simp)⟩) (by assumption) ?_
    simp only [Act.put, List.setIfInBounds_toArray, List.set_cons_zero, List.set_cons_succ]
    refine anyH_take (i := 3) (v := .map (some mb)) (some 12) rfl rfl (by kernel_rfl) (by kernel_rfl) (by kernel_rfl) (fun _ _ _ h => h) (Or.inl ⟨by rfl, fun w' hw => by (have hcc := hw.1.hs.cell 0; simp only [List.getElem?_cons_zero] at hcc; go_simp)⟩) (by assumption) ?_
    simp only [Act.put, List.setIfInBounds_toArray, List.set_cons_zero, List.set_cons_succ]
    refine anyH_take (i := 4) (some 13) rfl rfl (by kernel_rfl) (by kernel_rfl) (by kernel_rfl) (fun _ _ _ h => h) (yieldsIf_load_mid (by rfl) 39 (.tmp 3) rfl gt 0 rfl DL _ (fun w' h => (h.2).range) Tryd.underlying39 rfl HDn.out) (by assumption) ?_
    simp only [Act.put, List.setIfInBounds_toArray, List.set_cons_zero, List.set_cons_succ]
    refine anyH_take (i := 5) (v := .tuple #[.agg VL.toArray, .bool false]) (some 14) rfl rfl (by kernel_rfl) (by kernel_rfl) (by kernel_rfl) (fun _ _ _ h => h) (Or.inl ⟨by rfl, fun w' hw => by (have hl0 := HlkE.out w' hw.1; go_simp)⟩) (by assumption) ?_
    simp only [Act.put, List.setIfInBounds_toArray, List.set_cons_zero, List.set_cons_succ]
    refine anyH_take (i := 6) (v := .tuple #[.agg VL.toArray, .bool false]) (some 8) rfl rfl (by kernel_rfl) (by kernel_rfl) (by kernel_rfl) (fun _ _ _ h => h) (Or.inl ⟨by rfl, fun w' hw => by (go_simp)⟩) (by assumption) ?_
    simp only [Act.put, List.setIfInBounds_toArray, List.set_cons_zero, List.set_cons_succ]
    refine anyH_take (i := 7) (v := .agg VL.toArray) (some 15) rfl rfl (by kernel_rfl) (by kernel_rfl) (by kernel_rfl) (fun _ _ _ h => h) (Or.inl ⟨by rfl, fun w' hw => by (go_simp)⟩) (by assumption) ?_
    simp only [Act.put, List.setIfInBounds_toArray, List.set_cons_zero, List.set_cons_succ]
    refine anyH_take (i := 8) (v := .bool false) (some 16) rfl rfl (by kernel_rfl) (by kernel_rfl) (by kernel_rfl) (fun _ _ _ h => h) (Or.inl ⟨by rfl, fun w' hw => by (go_simp)⟩) (by assumption) ?_
    simp only [Act.put, List.setIfInBounds_toArray, List.set_cons_zero, List.set_cons_succ]
    refine wpAnyH_ready (rs := [9]) (by kernel_rfl) (by simp) ?_
    refine AllReadyH.cons rfl (fun K hK => ?_) AllReadyH.nil
    go_simp
    refine hK.out _ _ ⟨hHeld.1.up ((Below.refl _ _).alloc (Nat.le_refl _) _), Arr.alloc hHeld.2 _⟩ (fun hHeldx => ?_)
    clear hK K
    try simp only [Act.put, List.setIfInBounds_toArray, List.set_cons_zero, List.set_cons_succ]
    obtain ⟨w2, hw2⟩ : ∃ z, z = w1.drew.alloc (.cells (#[.int .i64 0, .int .i64 0, .int .i64 0] : Array Value) 50) := ⟨_, rfl⟩
    obtain ⟨g, hg⟩ : ∃ z, z = w1.heap.size := ⟨_, rfl⟩
    have hv2 : Arr w2 g 50 [.int .i64 0, .int .i64 0, .int .i64 0] := by rw [hw2, hg]; exact Arr.new w1.drew _ _
    have hb2 : Below w.heap.size w w2 := by rw [hw2]; exact (Below.dN hb1 1).alloc (Below.dN hb1 1).size _
    have hgw : w.heap.size < g := by rw [hg, Hw1.out]; simp
    change wpAnyH _ _ _ _ _ _ _ _ (w1.drew.alloc (.cells (#[.int .i64 0, .int .i64 0, .int .i64 0] : Array Value) 50))
    change IxQ (w1.drew.alloc (.cells (#[.int .i64 0, .int .i64 0, .int .i64 0] : Array Value) 50)) s mb L ∧ Arr (w1.drew.alloc (.cells (#[.int .i64 0, .int .i64 0, .int .i64 0] : Array Value) 50)) gt 39 DL at hHeldx
    rw [← hw2] at hHeldx ⊢
    try rw [← hg]
    clear hw2 hg
    refine wpAnyH_ready (rs := [10]) (by kernel_rfl) (by simp) ?_
    refine AllReadyH.cons rfl (fun K hK => ?_) AllReadyH.nil
    obtain ⟨w3, hw3⟩ : ∃ z, z = w2.setRow g VL.toArray := ⟨_, rfl⟩
    have hv3 : Arr w3 g 50 VL := by rw [hw3]; exact hv2.setRow VL
    have hb3 : Below w.heap.size w w3 := by rw [hw3]; exact Below.setRI hb2 (by omega) _
    have hq3 : IxQ w3 s mb L := Hh.out.up hb3
    have hd3 : Arr w3 gt 39 DL := by rw [hw3]; exact hHeldx.2.rowOther (by have := Hgt.out; omega) _
    refine wp_store_row_toX rfl _ _ _ rfl g VL.toArray rfl rfl 50 _ hv2 HVi.out.1 HVi.out.2 HV1.out ?_
    rw [← hw3]
    refine hK.out _ _ ⟨hq3, hd3⟩ (fun hHeldy => ?_)
    clear hK K
    try simp only [Act.put, List.setIfInBounds_toArray, List.set_cons_zero, List.set_cons_succ]
    refine anyH_take (i := 11) (v := .bool false) (some 7) rfl rfl (by kernel_rfl) (by kernel_rfl) (by kernel_rfl) (fun _ _ _ h => h) (Or.inl ⟨by rfl, fun w' hw => by (go_simp)⟩) (by assumption) ?_
    simp only [Act.put, List.setIfInBounds_toArray, List.set_cons_zero, List.set_cons_succ]
    refine wpAnyH_done (by kernel_rfl) ?_ _
    clear hHeld hHeldx hHeldy hv2 hb2 hw3 hq1 hd1 hb1 HlkE
    clear hd3 hv3
    go_wp2_with fail
    go_ret2
    exact ⟨by rw [Hfr.out]; rfl, by rw [Hfr.out]; exact hq3, below_grow hb3⟩

end Go.Proofs.YtfelacpaaialfaaDoor

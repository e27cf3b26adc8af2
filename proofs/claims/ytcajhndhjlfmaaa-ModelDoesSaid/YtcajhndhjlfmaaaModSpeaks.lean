/-
  The laws' example.
-/
import Derived.Test.YtcajhndhjlfmaaaModDo
import Derived.Test.YtcajhndhjlfmaaaModDist
namespace Go.Proofs.Ytcajhndhjlfmaaa
open Go.RowKit
set_option linter.unusedVariables false
set_option linter.unusedSimpArgs false

theorem wpList_eql_ifC {P : Program} {ops : Array Oper} {rest : List Oper} {o : Oper} {a : Act} {w : World} {Q : Exit → Act → World → Prop} (hw : Region.wanted o (yielded ops a.tmps) = true) (ty ty2 : TypeId) (x y : Operand) (ho : o.op = .binOp .eql ty x y ty2)
    (X Y : List Value) (hx : a.eval x = .agg X.toArray) (hy : a.eval y = .agg Y.toArray) (b : Bool) (he : ∀ w, (Op.equalIn 10000 ty (.agg X.toArray) (.agg Y.toArray)).run P w = .ok b w) (hm : P.eqGuardType P.depth ty = false)
    (h : wpList P ops Q rest (a.put o.dst (.bool b)) w) : wpList P ops Q (o :: rest) a w :=
  wpList_step fun K hK => by
    rw [if_pos hw]
    unfold Oper.wp execOp
    simp only [ho, hx, hy, Sem.run_bind, Sem.run_pure, Result.andThen_ok, run_eqGuard_agg, run_eql_struct, he, hm]
    exact hK _ _ h

theorem gtB : Try.prog.eqGuardType Try.prog.depth 42 = false := by kernel_rfl
/-- What an answer's cells are. -/
structure AnsAt (w : World) (B : Nat) (AL : List Value) (a : Ans) : Prop where
  len : AL.length = 51
  one : AL.toArray.all (·.oneCell') = true
  c0 : AL[0]? = some (.int .i64 a.k)
  c1 : AL[1]? = some (.bool a.th)
  c2 : ∀ j v, (Lib.byteCells a.blk)[j]? = some v → AL[2 + j]? = some v
  b48 : a.blk.length = 48
  nm : ∃ nv, AL = ansV a nv ∧ NmsAt w B nv a.nms
theorem nms_one {w : World} {B : Nat} {nv : Value} {ns : List ByteArray} (h : NmsAt w B nv ns) : nv.oneCell' = true := by
  rcases h.2 with ⟨e, _⟩ | ⟨g, cap, cur, e, _⟩
  · rw [e]; rfl
  · rw [e]; rfl
theorem doL_blk {w : World} {F : Nat → Prop} {s : Nat} {L : List Vol} (h : MdL w F s L) (o : Op15) : (doL L o).2.blk.length = 48 := by
  unfold doL ePair aE
  repeat' split
  all_goals first | rfl | exact read_len h _ _
theorem do_open {s : Nat} {o : Op15} {w : World} {F : Nat → Prop} {L : List Vol} {e : Ending} {w' : World} (h0 : MdL w F s L) (h : DoPost s o w F L e w') :
    ∃ AL, e = .returned (.agg AL.toArray) ∧ AnsAt w' w.heap.size AL (doL L o).2 ∧ MdL w' (newF F w w') s (doL L o).1 ∧ Only F w w' := by
  obtain ⟨nv, rfl, hn, hM, hO⟩ := h
  have hb := doL_blk h0 o
  refine ⟨_, rfl, ⟨ansC_length (by rw [Lib.byteCells_length]; exact hb), ansC_one (nms_one hn), rfl, rfl, fun j v hj => ?_, hb, nv, rfl, hn⟩, hM, hO⟩
  unfold ansV ansC
  rw [show 2 + j = j + 1 + 1 by omega, List.getElem?_cons_succ, List.getElem?_cons_succ, List.getElem?_append_left (List.getElem?_eq_some_iff.1 hj).1]
  exact hj
theorem AnsAt.up {w w' : World} {B : Nat} {AL : List Value} {a : Ans} (h : AnsAt w B AL a) (hb : Below w.heap.size w w') : AnsAt w' B AL a := by
  obtain ⟨nv, e, hn⟩ := h.nm
  refine { h with nm := ⟨nv, e, hn.1, ?_⟩ }
  rcases hn.2 with h0 | ⟨g, cap, cur, e1, e2, e3, e4⟩
  · exact .inl h0
  · exact .inr ⟨g, cap, cur, e1, e2, (hb.block g (Array.getElem?_eq_some_iff.1 e3).1).trans e3, e4⟩
def nmA : ByteArray := ⟨#[97]⟩
def b7 : List UInt8 := 7 :: List.replicate 47 0
def op1 : Op15 := ⟨1, nmA, ⟨#[]⟩, 0, 1, zB⟩
def op2 : Op15 := ⟨3, nmA, ⟨#[]⟩, 0, 0, b7⟩
def op3 : Op15 := ⟨5, nmA, ⟨#[]⟩, 0, 0, zB⟩
def va0 : Vol := ⟨nmA, 1, false, []⟩
def va1 : Vol := ⟨nmA, 1, false, [(0, b7)]⟩
theorem opk (k q : Int) (b : List UInt8) (hb : b.length = 48) (hk : 0 ≤ k ∧ k ≤ 100) (hq : 0 ≤ q ∧ q ≤ 100) : OpOk ⟨k, nmA, ⟨#[]⟩, 0, q, b⟩ := ⟨hb, (by decide : nmA.size ≤ maxLen), (by decide : (ByteArray.mk #[]).size ≤ maxLen), (by decide : (-9223372036854775808 : Int) ≤ 0 ∧ (0 : Int) ≤ 9223372036854775807), ⟨by show -9223372036854775808 ≤ q; omega, by show q ≤ _; omega⟩, ⟨by show -9223372036854775808 ≤ k; omega, by show k ≤ _; omega⟩⟩
theorem do_one : doL [] op1 = ([va0], aE 0) := by rfl
theorem do_two : doL [va0] op2 = ([va1], aE 0) := by rfl
theorem do_three : doL [va1] op3 = ([va1], ⟨0, true, b7, []⟩) := by rfl
theorem dist_one : distL [va1] = 1 := by rfl
theorem b1_built : Try.prog.built 44 [(0, .int .i64 1), (1, .string nmA), (4, .int .i64 1)] = some (opC op1).toArray := by kernel_rfl
theorem b7_built : Try.prog.built 42 [(0, .int .u8 7)] = some (Lib.byteCells b7).toArray := by kernel_rfl
theorem b2_built : Try.prog.built 44 [(0, .int .i64 3), (1, .string nmA), (5, .agg (Lib.byteCells b7).toArray)] = some (opC op2).toArray := by kernel_rfl
theorem b3_built : Try.prog.built 44 [(0, .int .i64 5), (1, .string nmA)] = some (opC op3).toArray := by kernel_rfl

set_option maxHeartbeats 16000000 in
set_option maxRecDepth 100000 in
theorem speaks15_any (w : World) : Calls Try.prog 12 #[] w fun e w' => e = .returned (.bool true) ∧ Below w.heap.size w w' := by
  obtain ⟨O1, hO1⟩ : ∃ z, z = opC op1 := ⟨_, rfl⟩
  obtain ⟨O2, hO2⟩ : ∃ z, z = opC op2 := ⟨_, rfl⟩
  obtain ⟨O3, hO3⟩ : ∃ z, z = opC op3 := ⟨_, rfl⟩
  obtain ⟨B7, hB7⟩ : ∃ z, z = Lib.byteCells b7 := ⟨_, rfl⟩
  obtain ⟨AZ, hAZ⟩ : ∃ z, z = ansZ := ⟨_, rfl⟩
  have Hb1 := Lib.hid (show Try.prog.built 44 [(0, .int .i64 1), (1, .string ⟨#[97]⟩), (4, .int .i64 1)] = some O1.toArray by rw [hO1]; exact b1_built)
  have Hb7 := Lib.hid (show Try.prog.built 42 [(0, .int .u8 7)] = some B7.toArray by rw [hB7]; exact b7_built)
  have Hb2 := Lib.hid (show Try.prog.built 44 [(0, .int .i64 3), (1, .string ⟨#[97]⟩), (5, .agg B7.toArray)] = some O2.toArray by rw [hO2, hB7]; exact b2_built)
  have Hb3 := Lib.hid (show Try.prog.built 44 [(0, .int .i64 5), (1, .string ⟨#[97]⟩)] = some O3.toArray by rw [hO3]; exact b3_built)
  have HO1 := Lib.hid hO1
  have HO2 := Lib.hid hO2
  have HO3 := Lib.hid hO3
  have HB7 := Lib.hid hB7
  have HZA := Lib.hid (fun w : World => show (zeroValue 47).run Try.prog w = .ok (.agg AZ.toArray) w by rw [hAZ]; exact ansZero w)
  have HAi := Lib.hid (fun (AL : List Value) (h : AL.length = 51) => show (Try.prog.info? 47).map (·.size) = some AL.toArray.size ∧ AZ.toArray.size = AL.toArray.size by rw [List.size_toArray, List.size_toArray, h, hAZ]; exact ⟨ansSize, rfl⟩)
  clear hO1 hO2 hO3 hB7 hAZ
  go_enter Try.func12, Try.ntmps12
  go_wp2_with fail
  refine Calls.mono (mnew_any w) ?_
  rintro e w1 ⟨s, rfl, hs1, hM1, hb1⟩
  have hF1 : ∀ b, newF (fun _ => False) w w1 b → w.heap.size ≤ b := fun b h => h.elim (fun h => h.elim) fun h => h.1
  obtain ⟨F1, hFe⟩ : ∃ z, z = newF (fun _ => False) w w1 := ⟨_, rfl⟩
  rw [← hFe] at hF1 hM1
  clear hFe
  go_wp2_with (first | (refine wpList_builtV rfl _ _ rfl _ rfl O1.toArray Hb1.out ?_))
  refine Calls.mono (do_any s op1 (opk 1 1 zB rfl (by omega) (by omega)) O1 HO1.out w1 F1 [] hM1 (by simp)) ?_
  rintro e w2 hd
  obtain ⟨A1, rfl, hf, hMx, hOx⟩ := do_open hM1 hd
  rw [do_one] at hf hMx
  dsimp only at hf hMx
  have hbx : Below w.heap.size w w2 := hb1.trans (hOx.below hb1.size hF1)
  have hFx : ∀ b, newF F1 w1 w2 b → w.heap.size ≤ b := fun b h => h.elim (hF1 b) fun h => by have := hb1.size; omega
  have hlx := hMx.lt
  obtain ⟨F2, hFe⟩ : ∃ z, z = newF F1 w1 w2 := ⟨_, rfl⟩
  rw [← hFe] at hFx hMx hlx 
  have hAi := Lib.hid (HAi.out A1 hf.len)
  have hOne := Lib.hid hf.one
  have Hf := Lib.hid hf
  obtain ⟨g1, hg1⟩ : ∃ z, z = w2.heap.size := ⟨_, rfl⟩
  have Hg1 := Lib.hid hg1
  have hn1 : ¬ F2 g1 := fun e => by have := hlx _ e; omega
  clear hlx 
  clear hFe hf hg1 hd hM1 hOx hF1
  go_upto_region 3 with (first | (refine wpList_allocZC rfl 47 rfl AZ.toArray (HZA.out _) ?_) | (change wpList _ _ _ _ _ (w2.alloc (.cells AZ.toArray 47)); refine wpList_store_row rfl _ _ _ rfl w2.heap.size A1.toArray rfl rfl 47 AZ.toArray (heap_alloc_new w2 _) hAi.out.1 hAi.out.2 hOne.out ?_; obtain ⟨w3, hw3⟩ : ∃ x, x = (w2.alloc (.cells AZ.toArray 47)).setRow w2.heap.size A1.toArray := ⟨_, rfl⟩; rw [← hw3]; obtain ⟨hPx, hby⟩ := alloc_row w2 47 AZ.toArray A1; rw [← hw3] at hPx hby; clear hw3))
  rw [← Hg1.out] at hPx ⊢
  have hA1 := Lib.hid hPx
  have hAf1 := Lib.hid (Hf.out.up hby)
  have hM2 := hMx.below hby
  have hb2 : Below w.heap.size w w3 := hbx.trans (hby.mono hbx.size)
  have hF2 := hFx
  clear hAi hOne Hf hPx hby hbx hMx hFx
  go_wp2_with (first | ((with_reducible refine wpList_at 10 (by rfl) ?_); refine wpList_builtV rfl _ _ rfl _ rfl B7.toArray Hb7.out ?_) | (refine wpList_builtV rfl _ _ rfl _ rfl O2.toArray Hb2.out ?_))
  refine Calls.mono (do_any s op2 (opk 3 0 b7 rfl (by omega) (by omega)) O2 HO2.out w3 F2 [va0] hM2 (by simp)) ?_
  rintro e w4 hd
  obtain ⟨A2, rfl, hf, hMx, hOx⟩ := do_open hM2 hd
  rw [do_two] at hf hMx
  dsimp only at hf hMx
  have hbx : Below w.heap.size w w4 := hb2.trans (hOx.below hb2.size hF2)
  have hFx : ∀ b, newF F2 w3 w4 b → w.heap.size ≤ b := fun b h => h.elim (hF2 b) fun h => by have := hb2.size; omega
  have hgl1 := hA1.out.lt
  have hC1 := Lib.hid (only_arr hA1.out hOx hn1)
  have hn1 : ¬ newF F2 w3 w4 g1 := by rintro (h | h); exact hn1 h; omega
  have hlx := hMx.lt
  obtain ⟨F3, hFe⟩ : ∃ z, z = newF F2 w3 w4 := ⟨_, rfl⟩
  rw [← hFe] at hFx hMx hlx hn1
  have hAi := Lib.hid (HAi.out A2 hf.len)
  have hOne := Lib.hid hf.one
  have Hf := Lib.hid hf
  obtain ⟨g2, hg2⟩ : ∃ z, z = w4.heap.size := ⟨_, rfl⟩
  have Hg2 := Lib.hid hg2
  have hn2 : ¬ F3 g2 := fun e => by have := hlx _ e; omega
  clear hlx hgl1
  clear hFe hf hg2 hd hM2 hOx hF2
  go_upto_region 4 with (first | (refine wpList_allocZC rfl 47 rfl AZ.toArray (HZA.out _) ?_) | (change wpList _ _ _ _ _ (w4.alloc (.cells AZ.toArray 47)); refine wpList_store_row rfl _ _ _ rfl w4.heap.size A2.toArray rfl rfl 47 AZ.toArray (heap_alloc_new w4 _) hAi.out.1 hAi.out.2 hOne.out ?_; obtain ⟨w5, hw5⟩ : ∃ x, x = (w4.alloc (.cells AZ.toArray 47)).setRow w4.heap.size A2.toArray := ⟨_, rfl⟩; rw [← hw5]; obtain ⟨hPx, hby⟩ := alloc_row w4 47 AZ.toArray A2; rw [← hw5] at hPx hby; clear hw5))
  rw [← Hg2.out] at hPx ⊢
  have hA2 := Lib.hid hPx
  have hAf2 := Lib.hid (Hf.out.up hby)
  have hM3 := hMx.below hby
  have hb3 : Below w.heap.size w w5 := hbx.trans (hby.mono hbx.size)
  have hF3 := hFx
  have hA1 := Lib.hid (hC1.out.up hby)
  clear hC1
  clear hAi hOne Hf hPx hby hbx hMx hFx
  go_wp2_with (first | (refine wpList_builtV rfl _ _ rfl _ rfl O3.toArray Hb3.out ?_))
  refine Calls.mono (do_any s op3 (opk 5 0 zB rfl (by omega) (by omega)) O3 HO3.out w5 F3 [va1] hM3 (by simp)) ?_
  rintro e w6 hd
  obtain ⟨A3, rfl, hf, hMx, hOx⟩ := do_open hM3 hd
  rw [do_three] at hf hMx
  dsimp only at hf hMx
  have hbx : Below w.heap.size w w6 := hb3.trans (hOx.below hb3.size hF3)
  have hFx : ∀ b, newF F3 w5 w6 b → w.heap.size ≤ b := fun b h => h.elim (hF3 b) fun h => by have := hb3.size; omega
  have hgl1 := hA1.out.lt
  have hC1 := Lib.hid (only_arr hA1.out hOx hn1)
  have hgl2 := hA2.out.lt
  have hC2 := Lib.hid (only_arr hA2.out hOx hn2)
  have hn1 : ¬ newF F3 w5 w6 g1 := by rintro (h | h); exact hn1 h; omega
  have hn2 : ¬ newF F3 w5 w6 g2 := by rintro (h | h); exact hn2 h; omega
  have hlx := hMx.lt
  obtain ⟨F4, hFe⟩ : ∃ z, z = newF F3 w5 w6 := ⟨_, rfl⟩
  rw [← hFe] at hFx hMx hlx hn1 hn2
  have hAi := Lib.hid (HAi.out A3 hf.len)
  have hOne := Lib.hid hf.one
  have Hf := Lib.hid hf
  obtain ⟨g3, hg3⟩ : ∃ z, z = w6.heap.size := ⟨_, rfl⟩
  have Hg3 := Lib.hid hg3
  have hn3 : ¬ F4 g3 := fun e => by have := hlx _ e; omega
  clear hlx hgl1 hgl2
  clear hFe hf hg3 hd hM3 hOx hF3
  go_upto_region 5 with (first | (refine wpList_allocZC rfl 47 rfl AZ.toArray (HZA.out _) ?_) | (change wpList _ _ _ _ _ (w6.alloc (.cells AZ.toArray 47)); refine wpList_store_row rfl _ _ _ rfl w6.heap.size A3.toArray rfl rfl 47 AZ.toArray (heap_alloc_new w6 _) hAi.out.1 hAi.out.2 hOne.out ?_; obtain ⟨w7, hw7⟩ : ∃ x, x = (w6.alloc (.cells AZ.toArray 47)).setRow w6.heap.size A3.toArray := ⟨_, rfl⟩; rw [← hw7]; obtain ⟨hPx, hby⟩ := alloc_row w6 47 AZ.toArray A3; rw [← hw7] at hPx hby; clear hw7))
  rw [← Hg3.out] at hPx ⊢
  have hA3 := Lib.hid hPx
  have hAf3 := Lib.hid (Hf.out.up hby)
  have hM4 := hMx.below hby
  have hb4 : Below w.heap.size w w7 := hbx.trans (hby.mono hbx.size)
  have hF4 := hFx
  have hA1 := Lib.hid (hC1.out.up hby)
  clear hC1
  have hA2 := Lib.hid (hC2.out.up hby)
  clear hC2
  clear hAi hOne Hf hPx hby hbx hMx hFx
  have hx1 : w7.cell? ⟨g1, 0, none⟩ = some (.int .i64 0) := by rw [hA1.out.cell, hAf1.out.c0]; rfl
  have hx2 : w7.cell? ⟨g2, 0, none⟩ = some (.int .i64 0) := by rw [hA2.out.cell, hAf2.out.c0]; rfl
  have hx3 : w7.cell? ⟨g3, 1, none⟩ = some (.bool true) := by rw [hA3.out.cell, hAf3.out.c1]
  have hr3 : w7.rangeAt g3 2 B7 := fun j v hj => by
    rw [HB7.out] at hj
    rw [hA3.out.cell]
    exact hAf3.out.c2 j v hj
  have HBn := Lib.hid (show (Try.prog.info? 42).map (·.size) = some B7.length by rw [HB7.out]; exact blkSize)
  have hb7 := Hb7.out
  have Hdq := Lib.hid (fun w : World => show (Op.equalIn 10000 42 (.agg B7.toArray) (.agg (Lib.byteCells b7).toArray)).run Try.prog w = .ok true w by have := eqv_at Try.underlying42 b7 b7 rfl rfl B7 (Lib.byteCells b7) HB7.out rfl w; simpa using this)
  have hq1 : decide ((0 : Int) = 0) = true := by simp
  have hq2 : decide ((1 : Int) = 1) = true := by simp
  go_wp2_with (first
    | ((with_reducible refine wpList_at 30 (by rfl) ?_); refine wpList_load_mid_ifC (by rfl) 42 _ rfl g3 2 rfl B7 _ hr3 Try.underlying42 rfl HBn.out ?_)
    | ((with_reducible refine wpList_at 32 (by rfl) ?_); refine wpList_eql_ifC (by rfl) 42 _ _ _ rfl B7 (Lib.byteCells b7) rfl (by rfl) true Hdq.out gtB ?_))
  refine Calls.mono (distinct_any s w7 F4 [va1] hM4 (by simp)) ?_
  rintro e w8 ⟨rfl, hb8⟩
  rw [dist_one]
  have hb9 := hb4.trans (hb8.mono hb4.size)
  clear hx1 hx2 hx3 hr3 hb7 hb8 hM4
  go_wp2_with fail
  go_ret
  exact ⟨rfl, hb9⟩

end Go.Proofs.Ytcajhndhjlfmaaa

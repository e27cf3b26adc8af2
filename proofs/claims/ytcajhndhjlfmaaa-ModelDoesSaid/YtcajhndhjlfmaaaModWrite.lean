/-
  write.
-/
import Derived.Test.YtcajhndhjlfmaaaModArm
namespace Go.Proofs.Ytcajhndhjlfmaaa
open Go.RowKit
set_option linter.unusedVariables false
set_option linter.unusedSimpArgs false

theorem put_ok {v : Vol} (h : ImgOk v) {n : Nat} {b : List UInt8} (hn : n < 1048576) (hb : b.length = 48) (hor : hasC v.cells (n : Nat) = true ∨ v.cells.length < v.quota) : ImgOk { v with cells := putC v.cells n b } where
  q := h.q
  le := by
    show (putC v.cells n b).length ≤ v.quota
    rw [putC_length h.rs]
    have := h.le
    rcases hor with hor | hor
    · rw [if_pos hor]; exact this
    · split <;> omega
  rs := putC_rise h.rs n b
  c := fun c hc => by
    rcases putC_mem.1 hc with rfl | ⟨hc, _⟩
    · exact ⟨hn, hb⟩
    · exact h.c c hc
  nm := h.nm

set_option maxHeartbeats 4000000 in
set_option maxRecDepth 100000 in
theorem write_bad (s mb : Nat) (o : Op15) (ho : OpOk o) (OL : List Value) (hOL : OL = opC o) (w : World) (F : Nat → Prop) (M : List Vm) (h : MdQ w F s mb M) (ch : Bool) (hch : changesB o.kind = ch) (X : Ix) (k : Int) (hX : ofF M o.name o.num ch = (X, k)) (hk : k ≠ 0) :
    Calls Try.prog 51 #[.pointer (some ⟨s, 0, none⟩), .agg OL.toArray] w fun e w' => e = .returned (.int .i64 k) ∧ Below w.heap.size w w' := by
  have hkn : (k != 0) = true := by simpa using hk
  obtain ⟨hk0, hk1, _, hk3, _⟩ := opC_at hOL
  obtain ⟨W1, hW1⟩ : ∃ z, z = w.alloc (.cells OL.toArray 44) := ⟨_, rfl⟩
  have hb1 : Below w.heap.size w W1 := by rw [hW1]; exact (Below.refl _ _).alloc (Nat.le_refl _) _
  have hA1 : Arr W1 w.heap.size 44 OL := by rw [hW1]; exact Arr.new w _ _
  obtain ⟨VL, hVL⟩ : ∃ VL : List Value, VL = [.int .i64 X.q, .bool X.fr, .map X.mo] := ⟨_, rfl⟩
  have Hof := Lib.hid ((of_any s mb o ho OL hOL W1 F M (h.below hb1) ch hch X k hX).mono (R' := fun e w' => e = .returned (.tuple #[.agg VL.toArray, .int .i64 k]) ∧ Below W1.heap.size W1 w') (by rintro e w' ⟨rfl, h⟩; exact ⟨by rw [hVL]; rfl, h⟩))
  obtain ⟨g, hg⟩ : ∃ z, z = w.heap.size := ⟨_, rfl⟩
  rw [← hg] at hA1
  have hgl : w.heap.size ≤ g := by rw [hg]; exact Nat.le_refl _
  have HOi := Lib.hid (show (Try.prog.info? 44).map (·.size) = some OL.toArray.size by rw [List.size_toArray, hOL, opC_length ho.b48]; exact opSize)
  have HVi := Lib.hid (show (Try.prog.info? 114).map (·.size) = some VL.toArray.size ∧ (#[.int .i64 0, .bool false, .map none] : Array Value).size = VL.toArray.size from ⟨by rw [hVL]; exact imgSize, by rw [hVL]; rfl⟩)
  have HV1 := Lib.hid (show VL.toArray.all (·.oneCell') = true by rw [hVL]; simp [Value.oneCell'])
  have HV0 := Lib.hid (show VL[0]? = some (.int .i64 X.q) by rw [hVL]; rfl)
  have HV2 := Lib.hid (show VL[2]? = some (.map X.mo) by rw [hVL]; rfl)
  have HA1 := Lib.hid hA1
  have Hb1 := Lib.hid hb1
  have Hg := Lib.hid hg
  have HQ := Lib.hid h
  have Hk3 := Lib.hid hk3
  have Hnum := Lib.hid ho.i1
  have HB48 := Lib.hid ho.b48
  have HOL := Lib.hid hOL
  have HW := Lib.hid hW1
  have hslt := h.Flt s h.Fs
  clear hVL hW1 hk0 hk1 hk3 hg hOL hb1 hch h 
  go_enter Try.func51, Try.ntmps51
  go_upto_region 1 with fail
  rw [← HW.out, ← Hg.out]
  go_wp2_with (first | (refine wpList_load_row rfl _ _ rfl g rfl 44 OL.toArray (0, 0) _ hA1 Try.underlying44 rfl HOi.out ?_))
  refine Calls.mono Hof.out ?_
  rintro e w2 ⟨rfl, hb2⟩
  have HA2 := Lib.hid (HA1.out.up hb2)
  have Hb2 := Lib.hid (Hb1.out.trans (hb2.mono Hb1.out.size))
  
  obtain ⟨gv, hgv⟩ : ∃ z, z = w2.heap.size := ⟨_, rfl⟩
  have Hgv := Lib.hid hgv
  clear hb2 hA1 Hof HA1 Hb1 hgv 
  go_upto_region 2 with (change wpList _ _ _ _ _ (w2.alloc (.cells (#[.int .i64 0, .bool false, .map none] : Array Value) 114)); refine wpList_store_row rfl _ _ _ rfl w2.heap.size VL.toArray rfl rfl 114 (#[.int .i64 0, .bool false, .map none] : Array Value) (heap_alloc_new w2 _) HVi.out.1 HVi.out.2 HV1.out ?_; obtain ⟨w3, hw3⟩ : ∃ x, x = (w2.alloc (.cells (#[.int .i64 0, .bool false, .map none] : Array Value) 114)).setRow w2.heap.size VL.toArray := ⟨_, rfl⟩; rw [← hw3]; obtain ⟨hP3, hb3⟩ := alloc_row w2 114 (#[.int .i64 0, .bool false, .map none] : Array Value) VL; rw [← hw3] at hP3 hb3; clear hw3)
  rw [← Hgv.out] at hP3 ⊢
  have HA3 := Lib.hid (HA2.out.up hb3)
  have Hb3 := Lib.hid (Hb2.out.trans (hb3.mono Hb2.out.size))
  have HP3 := Lib.hid hP3
  
  have hgv3 : w.heap.size ≤ gv := by rw [Hgv.out]; exact Hb2.out.size
  clear hb3 HA2 Hb2 Hgv hP3 
  go_wp2_with fail
  go_ret
  exact ⟨rfl, Hb3.out⟩

set_option maxHeartbeats 4000000 in
set_option maxRecDepth 100000 in
theorem write_full (s mb : Nat) (o : Op15) (ho : OpOk o) (OL : List Value) (hOL : OL = opC o) (w : World) (F : Nat → Prop) (M : List Vm) (h : MdQ w F s mb M) (ch : Bool) (hch : changesB o.kind = ch) (X : Ix) (hX : ofF M o.name o.num ch = (X, 0)) (m : Vm) (hXm : X = ixOf (some m)) (hf : findM M o.name = some m) (hno : hasC m.v.cells o.num = false) (hle : m.v.quota ≤ m.v.cells.length) :
    Calls Try.prog 51 #[.pointer (some ⟨s, 0, none⟩), .agg OL.toArray] w fun e w' => e = .returned (.int .i64 8) ∧ Below w.heap.size w w' := by
  have Hno := Lib.hid hno
  have Hle := Lib.hid hle
  obtain ⟨hk0, hk1, _, hk3, _⟩ := opC_at hOL
  obtain ⟨W1, hW1⟩ : ∃ z, z = w.alloc (.cells OL.toArray 44) := ⟨_, rfl⟩
  have hb1 : Below w.heap.size w W1 := by rw [hW1]; exact (Below.refl _ _).alloc (Nat.le_refl _) _
  have hA1 : Arr W1 w.heap.size 44 OL := by rw [hW1]; exact Arr.new w _ _
  obtain ⟨VL, hVL⟩ : ∃ VL : List Value, VL = [.int .i64 X.q, .bool X.fr, .map X.mo] := ⟨_, rfl⟩
  have Hof := Lib.hid ((of_any s mb o ho OL hOL W1 F M (h.below hb1) ch hch X 0 hX).mono (R' := fun e w' => e = .returned (.tuple #[.agg VL.toArray, .int .i64 0]) ∧ Below W1.heap.size W1 w') (by rintro e w' ⟨rfl, h⟩; exact ⟨by rw [hVL]; rfl, h⟩))
  obtain ⟨g, hg⟩ : ∃ z, z = w.heap.size := ⟨_, rfl⟩
  rw [← hg] at hA1
  have hgl : w.heap.size ≤ g := by rw [hg]; exact Nat.le_refl _
  have HOi := Lib.hid (show (Try.prog.info? 44).map (·.size) = some OL.toArray.size by rw [List.size_toArray, hOL, opC_length ho.b48]; exact opSize)
  have HVi := Lib.hid (show (Try.prog.info? 114).map (·.size) = some VL.toArray.size ∧ (#[.int .i64 0, .bool false, .map none] : Array Value).size = VL.toArray.size from ⟨by rw [hVL]; exact imgSize, by rw [hVL]; rfl⟩)
  have HV1 := Lib.hid (show VL.toArray.all (·.oneCell') = true by rw [hVL]; simp [Value.oneCell'])
  have HV0 := Lib.hid (show VL[0]? = some (.int .i64 X.q) by rw [hVL]; rfl)
  have HV2 := Lib.hid (show VL[2]? = some (.map X.mo) by rw [hVL]; rfl)
  have HA1 := Lib.hid hA1
  have Hb1 := Lib.hid hb1
  have Hg := Lib.hid hg
  have HQ := Lib.hid h
  have Hk3 := Lib.hid hk3
  have Hnum := Lib.hid ho.i1
  have HB48 := Lib.hid ho.b48
  have HOL := Lib.hid hOL
  have HW := Lib.hid hW1
  have hslt := h.Flt s h.Fs
  clear hVL hW1 hk0 hk1 hk3 hg hOL hb1 hch h 
  go_enter Try.func51, Try.ntmps51
  go_upto_region 1 with fail
  rw [← HW.out, ← Hg.out]
  go_wp2_with (first | (refine wpList_load_row rfl _ _ rfl g rfl 44 OL.toArray (0, 0) _ hA1 Try.underlying44 rfl HOi.out ?_))
  refine Calls.mono Hof.out ?_
  rintro e w2 ⟨rfl, hb2⟩
  have HA2 := Lib.hid (HA1.out.up hb2)
  have Hb2 := Lib.hid (Hb1.out.trans (hb2.mono Hb1.out.size))
  
  obtain ⟨gv, hgv⟩ : ∃ z, z = w2.heap.size := ⟨_, rfl⟩
  have Hgv := Lib.hid hgv
  clear hb2 hA1 Hof HA1 Hb1 hgv 
  go_upto_region 2 with (change wpList _ _ _ _ _ (w2.alloc (.cells (#[.int .i64 0, .bool false, .map none] : Array Value) 114)); refine wpList_store_row rfl _ _ _ rfl w2.heap.size VL.toArray rfl rfl 114 (#[.int .i64 0, .bool false, .map none] : Array Value) (heap_alloc_new w2 _) HVi.out.1 HVi.out.2 HV1.out ?_; obtain ⟨w3, hw3⟩ : ∃ x, x = (w2.alloc (.cells (#[.int .i64 0, .bool false, .map none] : Array Value) 114)).setRow w2.heap.size VL.toArray := ⟨_, rfl⟩; rw [← hw3]; obtain ⟨hP3, hb3⟩ := alloc_row w2 114 (#[.int .i64 0, .bool false, .map none] : Array Value) VL; rw [← hw3] at hP3 hb3; clear hw3)
  rw [← Hgv.out] at hP3 ⊢
  have HA3 := Lib.hid (HA2.out.up hb3)
  have Hb3 := Lib.hid (Hb2.out.trans (hb3.mono Hb2.out.size))
  have HP3 := Lib.hid hP3
  
  have hgv3 : w.heap.size ≤ gv := by rw [Hgv.out]; exact Hb2.out.size
  clear hb3 HA2 Hb2 Hgv hP3 
  have hmm := (findM_mem hf).1
  have hmn := (findM_mem hf).2
  have him3 : ImOk w3 m := (HQ.out.vm m hmm).kept (Hb3.out.block _ (HQ.out.Flt _ (HQ.out.Fv m hmm)))
  have hv2 : w3.cell? ⟨gv, 2, none⟩ = some (.map (some m.bb)) := by rw [HP3.out.cell, HV2.out, hXm]; rfl
  have hn3 : w3.cell? ⟨g, 3, none⟩ = some (.int .i64 o.num) := by rw [HA3.out.cell]; exact Hk3.out
  have hlook := him3.look Hnum.out.1 Hnum.out.2
  obtain ⟨BL, hBL⟩ : ∃ z, z = Lib.byteCells (atB m.v.cells o.num) := ⟨_, rfl⟩
  obtain ⟨ZB, hZB⟩ : ∃ z, z = Lib.byteCells zB := ⟨_, rfl⟩
  obtain ⟨th, hth⟩ : ∃ z, z = hasC m.v.cells o.num := ⟨_, rfl⟩
  obtain ⟨n, hn⟩ : ∃ z, z = o.num := ⟨_, rfl⟩
  unfold blkV at hlook
  rw [← hBL, ← hth, ← hn] at hlook
  rw [← hn] at hn3
  have HBl := Lib.hid (show BL.length = 48 by rw [hBL, Lib.byteCells_length]; exact atB_length him3.ok _)
  have HBi := Lib.hid (show (Try.prog.info? 42).map (·.size) = some BL.toArray.size ∧ ZB.toArray.size = BL.toArray.size by rw [List.size_toArray, List.size_toArray, HBl.out, hZB, Lib.byteCells_length]; exact ⟨blkSize, rfl⟩)
  have HB1 := Lib.hid (show BL.toArray.all (·.oneCell') = true by rw [hBL]; exact dig_one _)
  have HZB := Lib.hid (fun w : World => show (zeroValue 42).run Try.prog w = .ok (.agg ZB.toArray) w by rw [hZB]; exact zeroBlk w)
  have Hmm := Lib.hid hmm
  have Hmn := Lib.hid hmn
  have Hn := Lib.hid hn
  have Hth := Lib.hid hth
  have HBL := Lib.hid hBL
  have hq0 : ((0 : Int) != 0) = false := by simp
  clear hmm hmn hf hBL hZB hth hn him3
  clear hno hle
  go_upto_region 5 with (first | (refine wpList_allocZC rfl 42 rfl ZB.toArray (HZB.out _) ?_) | (change wpList _ _ _ _ _ (w3.alloc (.cells ZB.toArray 42)); refine wpList_store_row rfl _ _ _ rfl w3.heap.size BL.toArray rfl rfl 42 ZB.toArray (heap_alloc_new w3 _) HBi.out.1 HBi.out.2 HB1.out ?_; obtain ⟨w4, hw4⟩ : ∃ x, x = (w3.alloc (.cells ZB.toArray 42)).setRow w3.heap.size BL.toArray := ⟨_, rfl⟩; rw [← hw4]; obtain ⟨hP4, hb4⟩ := alloc_row w3 42 ZB.toArray BL; rw [← hw4] at hP4 hb4; clear hw4))
  have hA4 := HA3.out.up hb4
  have hV4 := HP3.out.up hb4
  have Hb4 := Lib.hid (Hb3.out.trans (hb4.mono Hb3.out.size))
  have him4 : ImOk w4 m := (HQ.out.vm m Hmm.out).kept (Hb4.out.block _ (HQ.out.Flt _ (HQ.out.Fv m Hmm.out)))
  have hlen := him4.len 3
  have hv0 : w4.cell? ⟨gv, 0, none⟩ = some (.int .i64 (m.v.quota : Nat)) := by rw [hV4.cell, HV0.out, hXm]; rfl
  have hv2' : w4.cell? ⟨gv, 2, none⟩ = some (.map (some m.bb)) := by rw [hV4.cell, HV2.out, hXm]; rfl
  have hn3' : w4.cell? ⟨g, 3, none⟩ = some (.int .i64 n) := by rw [hA4.cell, Hn.out]; exact Hk3.out
  have Him4 := Lib.hid him4
  have HA4 := Lib.hid hA4
  obtain ⟨cl, hcl⟩ : ∃ z, z = m.v.cells.length := ⟨_, rfl⟩
  obtain ⟨q, hq⟩ : ∃ z, z = m.v.quota := ⟨_, rfl⟩
  rw [← hcl] at hlen
  rw [← hq] at hv0
  have Hcl := Lib.hid hcl
  have Hq := Lib.hid hq
  clear hlook hv2 hn3 hq0 hb4 hV4 hA4 him4 HP3 HA3 Hb3 hXm hP4 hcl hq
  obtain rfl : th = false := by rw [Hth.out]; exact Hno.out
  have hd : decide ((cl : Int) ≥ (q : Int)) = true := by have := Hle.out; rw [Hcl.out, Hq.out]; simp; omega
  have hd2 : decide (q ≤ cl) = true := by have := Hle.out; rw [Hcl.out, Hq.out]; simp; omega
  go_wp2_with fail
  go_ret
  exact ⟨rfl, Hb4.out⟩

set_option maxHeartbeats 4000000 in
set_option maxRecDepth 100000 in
theorem write_ok (s mb : Nat) (o : Op15) (ho : OpOk o) (OL : List Value) (hOL : OL = opC o) (w : World) (F : Nat → Prop) (M : List Vm) (h : MdQ w F s mb M) (ch : Bool) (hch : changesB o.kind = ch) (X : Ix) (hX : ofF M o.name o.num ch = (X, 0)) (m : Vm) (hXm : X = ixOf (some m)) (hf : findM M o.name = some m) (hnb : numB o.num = true) (hor : hasC m.v.cells o.num = true ∨ m.v.cells.length < m.v.quota) :
    Calls Try.prog 51 #[.pointer (some ⟨s, 0, none⟩), .agg OL.toArray] w fun e w' => e = .returned (.int .i64 0) ∧ MdL w' (newF F w w') s (setV (vs M) o.name (putC m.v.cells o.num.toNat o.blk)) ∧ Only F w w' := by
  have Hnb := Lib.hid hnb
  have Hor := Lib.hid hor
  obtain ⟨hk0, hk1, _, hk3, _⟩ := opC_at hOL
  obtain ⟨W1, hW1⟩ : ∃ z, z = w.alloc (.cells OL.toArray 44) := ⟨_, rfl⟩
  have hb1 : Below w.heap.size w W1 := by rw [hW1]; exact (Below.refl _ _).alloc (Nat.le_refl _) _
  have hA1 : Arr W1 w.heap.size 44 OL := by rw [hW1]; exact Arr.new w _ _
  obtain ⟨VL, hVL⟩ : ∃ VL : List Value, VL = [.int .i64 X.q, .bool X.fr, .map X.mo] := ⟨_, rfl⟩
  have Hof := Lib.hid ((of_any s mb o ho OL hOL W1 F M (h.below hb1) ch hch X 0 hX).mono (R' := fun e w' => e = .returned (.tuple #[.agg VL.toArray, .int .i64 0]) ∧ Below W1.heap.size W1 w') (by rintro e w' ⟨rfl, h⟩; exact ⟨by rw [hVL]; rfl, h⟩))
  obtain ⟨g, hg⟩ : ∃ z, z = w.heap.size := ⟨_, rfl⟩
  rw [← hg] at hA1
  have hgl : w.heap.size ≤ g := by rw [hg]; exact Nat.le_refl _
  have HOi := Lib.hid (show (Try.prog.info? 44).map (·.size) = some OL.toArray.size by rw [List.size_toArray, hOL, opC_length ho.b48]; exact opSize)
  have HVi := Lib.hid (show (Try.prog.info? 114).map (·.size) = some VL.toArray.size ∧ (#[.int .i64 0, .bool false, .map none] : Array Value).size = VL.toArray.size from ⟨by rw [hVL]; exact imgSize, by rw [hVL]; rfl⟩)
  have HV1 := Lib.hid (show VL.toArray.all (·.oneCell') = true by rw [hVL]; simp [Value.oneCell'])
  have HV0 := Lib.hid (show VL[0]? = some (.int .i64 X.q) by rw [hVL]; rfl)
  have HV2 := Lib.hid (show VL[2]? = some (.map X.mo) by rw [hVL]; rfl)
  have HA1 := Lib.hid hA1
  have Hb1 := Lib.hid hb1
  have Hg := Lib.hid hg
  have HQ := Lib.hid h
  have Hk3 := Lib.hid hk3
  have Hnum := Lib.hid ho.i1
  have HB48 := Lib.hid ho.b48
  have HOL := Lib.hid hOL
  have HW := Lib.hid hW1
  have hslt := h.Flt s h.Fs
  clear hVL hW1 hk0 hk1 hk3 hg hOL hb1 hch h 
  go_enter Try.func51, Try.ntmps51
  go_upto_region 1 with fail
  rw [← HW.out, ← Hg.out]
  go_wp2_with (first | (refine wpList_load_row rfl _ _ rfl g rfl 44 OL.toArray (0, 0) _ hA1 Try.underlying44 rfl HOi.out ?_))
  refine Calls.mono Hof.out ?_
  rintro e w2 ⟨rfl, hb2⟩
  have HA2 := Lib.hid (HA1.out.up hb2)
  have Hb2 := Lib.hid (Hb1.out.trans (hb2.mono Hb1.out.size))
  
  obtain ⟨gv, hgv⟩ : ∃ z, z = w2.heap.size := ⟨_, rfl⟩
  have Hgv := Lib.hid hgv
  clear hb2 hA1 Hof HA1 Hb1 hgv 
  go_upto_region 2 with (change wpList _ _ _ _ _ (w2.alloc (.cells (#[.int .i64 0, .bool false, .map none] : Array Value) 114)); refine wpList_store_row rfl _ _ _ rfl w2.heap.size VL.toArray rfl rfl 114 (#[.int .i64 0, .bool false, .map none] : Array Value) (heap_alloc_new w2 _) HVi.out.1 HVi.out.2 HV1.out ?_; obtain ⟨w3, hw3⟩ : ∃ x, x = (w2.alloc (.cells (#[.int .i64 0, .bool false, .map none] : Array Value) 114)).setRow w2.heap.size VL.toArray := ⟨_, rfl⟩; rw [← hw3]; obtain ⟨hP3, hb3⟩ := alloc_row w2 114 (#[.int .i64 0, .bool false, .map none] : Array Value) VL; rw [← hw3] at hP3 hb3; clear hw3)
  rw [← Hgv.out] at hP3 ⊢
  have HA3 := Lib.hid (HA2.out.up hb3)
  have Hb3 := Lib.hid (Hb2.out.trans (hb3.mono Hb2.out.size))
  have HP3 := Lib.hid hP3
  
  have hgv3 : w.heap.size ≤ gv := by rw [Hgv.out]; exact Hb2.out.size
  clear hb3 HA2 Hb2 Hgv hP3 
  have hmm := (findM_mem hf).1
  have hmn := (findM_mem hf).2
  have him3 : ImOk w3 m := (HQ.out.vm m hmm).kept (Hb3.out.block _ (HQ.out.Flt _ (HQ.out.Fv m hmm)))
  have hv2 : w3.cell? ⟨gv, 2, none⟩ = some (.map (some m.bb)) := by rw [HP3.out.cell, HV2.out, hXm]; rfl
  have hn3 : w3.cell? ⟨g, 3, none⟩ = some (.int .i64 o.num) := by rw [HA3.out.cell]; exact Hk3.out
  have hlook := him3.look Hnum.out.1 Hnum.out.2
  obtain ⟨BL, hBL⟩ : ∃ z, z = Lib.byteCells (atB m.v.cells o.num) := ⟨_, rfl⟩
  obtain ⟨ZB, hZB⟩ : ∃ z, z = Lib.byteCells zB := ⟨_, rfl⟩
  obtain ⟨th, hth⟩ : ∃ z, z = hasC m.v.cells o.num := ⟨_, rfl⟩
  obtain ⟨n, hn⟩ : ∃ z, z = o.num := ⟨_, rfl⟩
  unfold blkV at hlook
  rw [← hBL, ← hth, ← hn] at hlook
  rw [← hn] at hn3
  have HBl := Lib.hid (show BL.length = 48 by rw [hBL, Lib.byteCells_length]; exact atB_length him3.ok _)
  have HBi := Lib.hid (show (Try.prog.info? 42).map (·.size) = some BL.toArray.size ∧ ZB.toArray.size = BL.toArray.size by rw [List.size_toArray, List.size_toArray, HBl.out, hZB, Lib.byteCells_length]; exact ⟨blkSize, rfl⟩)
  have HB1 := Lib.hid (show BL.toArray.all (·.oneCell') = true by rw [hBL]; exact dig_one _)
  have HZB := Lib.hid (fun w : World => show (zeroValue 42).run Try.prog w = .ok (.agg ZB.toArray) w by rw [hZB]; exact zeroBlk w)
  have Hmm := Lib.hid hmm
  have Hmn := Lib.hid hmn
  have Hn := Lib.hid hn
  have Hth := Lib.hid hth
  have HBL := Lib.hid hBL
  have hq0 : ((0 : Int) != 0) = false := by simp
  clear hmm hmn hf hBL hZB hth hn him3
  clear hnb hor
  go_upto_region 5 with (first | (refine wpList_allocZC rfl 42 rfl ZB.toArray (HZB.out _) ?_) | (change wpList _ _ _ _ _ (w3.alloc (.cells ZB.toArray 42)); refine wpList_store_row rfl _ _ _ rfl w3.heap.size BL.toArray rfl rfl 42 ZB.toArray (heap_alloc_new w3 _) HBi.out.1 HBi.out.2 HB1.out ?_; obtain ⟨w4, hw4⟩ : ∃ x, x = (w3.alloc (.cells ZB.toArray 42)).setRow w3.heap.size BL.toArray := ⟨_, rfl⟩; rw [← hw4]; obtain ⟨hP4, hb4⟩ := alloc_row w3 42 ZB.toArray BL; rw [← hw4] at hP4 hb4; clear hw4))
  have hA4 := HA3.out.up hb4
  have hV4 := HP3.out.up hb4
  have Hb4 := Lib.hid (Hb3.out.trans (hb4.mono Hb3.out.size))
  have him4 : ImOk w4 m := (HQ.out.vm m Hmm.out).kept (Hb4.out.block _ (HQ.out.Flt _ (HQ.out.Fv m Hmm.out)))
  have hlen := him4.len 3
  have hv0 : w4.cell? ⟨gv, 0, none⟩ = some (.int .i64 (m.v.quota : Nat)) := by rw [hV4.cell, HV0.out, hXm]; rfl
  have hv2' : w4.cell? ⟨gv, 2, none⟩ = some (.map (some m.bb)) := by rw [hV4.cell, HV2.out, hXm]; rfl
  have hn3' : w4.cell? ⟨g, 3, none⟩ = some (.int .i64 n) := by rw [hA4.cell, Hn.out]; exact Hk3.out
  have Him4 := Lib.hid him4
  have HA4 := Lib.hid hA4
  obtain ⟨cl, hcl⟩ : ∃ z, z = m.v.cells.length := ⟨_, rfl⟩
  obtain ⟨q, hq⟩ : ∃ z, z = m.v.quota := ⟨_, rfl⟩
  rw [← hcl] at hlen
  rw [← hq] at hv0
  have Hcl := Lib.hid hcl
  have Hq := Lib.hid hq
  clear hlook hv2 hn3 hq0 hb4 hV4 hA4 him4 HP3 HA3 Hb3 hXm hP4 hcl hq
  obtain ⟨KL, hKL⟩ : ∃ z, z = Lib.byteCells o.blk := ⟨_, rfl⟩
  have hKr : w4.rangeAt g 5 KL := fun j v hj => by
    rw [hKL] at hj
    rw [HA4.out.cell, HOL.out]
    show ([.int .i64 o.kind, .string o.name, .string o.other, .int .i64 o.num, .int .i64 o.quota] ++ Lib.byteCells o.blk)[5 + j]? = some v
    rw [List.getElem?_append_right (by simp)]
    simpa using hj
  have HKi := Lib.hid (show (Try.prog.info? 42).map (·.size) = some KL.length by rw [hKL, Lib.byteCells_length, HB48.out]; exact blkSize)
  have HKR := Lib.hid (show blkR (.agg KL.toArray) = some (.lit (.string o.blk), []) by rw [hKL]; exact blkR_mk o.blk)
  have hown := Him4.out.hc
  rw [← Hcl.out] at hown
  have hroom : cl < maxLen := by have h1 := Him4.out.ok.le; have h2 := Him4.out.ok.q; unfold maxLen; rw [Hcl.out]; omega
  obtain ⟨nn, hnn⟩ := Int.eq_ofNat_of_zero_le (numB_yes Hnb.out).1
  have Hkey := Lib.hid (keyOf_num Hnum.out.1 Hnum.out.2)
  rw [← Hn.out] at Hkey
  have Hnn := Lib.hid hnn
  clear hKL hnn
  have Hth2 := Lib.hid (show th = false → cl < q by rw [Hth.out, Hcl.out, Hq.out]; intro e; rcases Hor.out with h | h; · rw [e] at h; cases h
                                                    · exact h)
  cases th with
  | true =>
    go_wp2_with (first | ((with_reducible refine wpList_at 41 (by rfl) ?_); refine wpList_load_mid_ifC (by rfl) 42 _ rfl g 5 rfl KL _ hKr Try.underlying42 rfl HKi.out ?_) | (at_mapUpdate; refine wpList_mapUpdate_own _ rfl _ _ _ 112 rfl 3 42 intKeyed Try.underlying112 blkR m.bb cl (cellsD m.v.cells) rfl hown hroom _ _ _ rfl rfl Hkey.out _ [] HKR.out ?_))
    intro w5 hown5 hg5
    rw [Hn.out, Hnn.out, cellsD_put] at hown5
    have hfin := MdQ.turn (HQ.out.below Hb4.out) Hmm.out hown5 hg5 (put_ok Him4.out.ok (by have := numB_yes Hnb.out; have := Hnn.out; omega) HB48.out (by rw [← Hnn.out]; exact Hor.out))
    have hO : Only F w w5 := (Only.of_below Hb4.out).trans ⟨hg5.os, hg5.tape, hg5.output, hg5.size, fun i hi hn => hg5.block i hi fun e => hn (by injection e with e; rw [e]; exact HQ.out.Fv m Hmm.out)⟩
    have hs4 := Hb4.out.size
    have hs5 := hg5.size
    clear hown5 hg5 hown hKr
    go_wp2_with fail
    go_ret
    refine ⟨rfl, MdL.more (F := newF F w4 w5) ⟨_, mb, hfin, ?_⟩ (fun b hb => ?_) (newF_lt HQ.out.Flt hO.size), hO⟩
    · rw [vs_set, Hmn.out, Hnn.out]
      rfl
    · rcases hb with hb | hb
      · exact .inl hb
      · exact .inr ⟨by omega, hb.2⟩
  | false =>
    have hlt := Hth2.out rfl
    have hd : decide ((cl : Int) ≥ (q : Int)) = false := by simp; omega
    have hd2 : decide (q ≤ cl) = false := by simp; omega
    go_wp2_with (first | ((with_reducible refine wpList_at 41 (by rfl) ?_); refine wpList_load_mid_ifC (by rfl) 42 _ rfl g 5 rfl KL _ hKr Try.underlying42 rfl HKi.out ?_) | (at_mapUpdate; refine wpList_mapUpdate_own _ rfl _ _ _ 112 rfl 3 42 intKeyed Try.underlying112 blkR m.bb cl (cellsD m.v.cells) rfl hown hroom _ _ _ rfl rfl Hkey.out _ [] HKR.out ?_))
    intro w5 hown5 hg5
    rw [Hn.out, Hnn.out, cellsD_put] at hown5
    have hfin := MdQ.turn (HQ.out.below Hb4.out) Hmm.out hown5 hg5 (put_ok Him4.out.ok (by have := numB_yes Hnb.out; have := Hnn.out; omega) HB48.out (by rw [← Hnn.out]; exact Hor.out))
    have hO : Only F w w5 := (Only.of_below Hb4.out).trans ⟨hg5.os, hg5.tape, hg5.output, hg5.size, fun i hi hn => hg5.block i hi fun e => hn (by injection e with e; rw [e]; exact HQ.out.Fv m Hmm.out)⟩
    have hs4 := Hb4.out.size
    have hs5 := hg5.size
    clear hown5 hg5 hown hKr
    go_wp2_with fail
    go_ret
    refine ⟨rfl, MdL.more (F := newF F w4 w5) ⟨_, mb, hfin, ?_⟩ (fun b hb => ?_) (newF_lt HQ.out.Flt hO.size), hO⟩
    · rw [vs_set, Hmn.out, Hnn.out]
      rfl
    · rcases hb with hb | hb
      · exact .inl hb
      · exact .inr ⟨by omega, hb.2⟩

theorem write_any (s : Nat) (o : Op15) (ho : OpOk o) (OL : List Value) (hOL : OL = opC o) (w : World) (F : Nat → Prop) (L : List Vol) (h : MdL w F s L) (hch : changesB o.kind = true) (L' : List Vol) (k : Int) (hk : writeL L o.name o.num o.blk = (L', k)) :
    Calls Try.prog 51 #[.pointer (some ⟨s, 0, none⟩), .agg OL.toArray] w fun e w' => e = .returned (.int .i64 k) ∧ MdL w' (newF F w w') s L' ∧ Only F w w' := by
  have Hh := h
  obtain ⟨M, mb, hQ, rfl⟩ := h
  obtain ⟨X, k1, hX⟩ : ∃ X k1, ofF M o.name o.num true = (X, k1) := ⟨_, _, rfl⟩
  unfold writeL at hk
  rw [of_e, hX] at hk
  dsimp only at hk
  by_cases hk1 : k1 = 0
  · subst hk1
    rw [if_neg (by simp)] at hk
    obtain ⟨m, hf, hnb, hfz, hXm⟩ := ofF_good hX
    rw [vs_find, hf] at hk
    dsimp only [Option.map_some] at hk
    by_cases hfull : hasC m.v.cells o.num = false ∧ m.v.quota ≤ m.v.cells.length
    · rw [if_pos hfull] at hk
      injection hk with h1 h2
      subst h1 h2
      refine (write_full s mb o ho OL hOL w F M hQ true hch X hX m hXm hf hfull.1 hfull.2).mono ?_
      rintro e w' ⟨rfl, hb⟩
      exact ⟨rfl, Hh.same hb, Only.of_below hb⟩
    · rw [if_neg hfull] at hk
      injection hk with h1 h2
      subst h1 h2
      refine write_ok s mb o ho OL hOL w F M hQ true hch X hX m hXm hf hnb ?_
      cases hc : hasC m.v.cells o.num with
      | true => exact .inl rfl
      | false => exact .inr (Nat.lt_of_not_le fun hle => hfull ⟨hc, hle⟩)
  · rw [if_pos hk1] at hk
    injection hk with h1 h2
    subst h1 h2
    refine (write_bad s mb o ho OL hOL w F M hQ true hch X k1 hX hk1).mono ?_
    rintro e w' ⟨rfl, hb⟩
    exact ⟨rfl, Hh.same hb, Only.of_below hb⟩

end Go.Proofs.Ytcajhndhjlfmaaa

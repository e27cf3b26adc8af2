/-
  trim, read.
-/
import Derived.Test.YtcajhndhjlfmaaaModArm
namespace Go.Proofs.Ytcajhndhjlfmaaa
open Go.RowKit
set_option linter.unusedVariables false
set_option linter.unusedSimpArgs false

theorem nil_del {w : World} {n : Int} (h1 : -9223372036854775808 ≤ n) (h2 : n ≤ 9223372036854775807) (ty : TypeId) : (Builtin.delete_ #[112, 3] ty #[.map none, .int .i64 n]).run Try.prog w = .ok (.tuple #[]) w :=
  Maps.drop_nil intKeyed Try.underlying112 (keyOf_num h1 h2) ty
set_option maxHeartbeats 4000000 in
set_option maxRecDepth 100000 in
theorem trim_bad (s mb : Nat) (o : Op15) (ho : OpOk o) (OL : List Value) (hOL : OL = opC o) (w : World) (F : Nat → Prop) (M : List Vm) (h : MdQ w F s mb M) (ch : Bool) (hch : changesB o.kind = ch) (X : Ix) (k : Int) (hX : ofF M o.name o.num ch = (X, k)) (hk : k ≠ 0) :
    Calls Try.prog 52 #[.pointer (some ⟨s, 0, none⟩), .agg OL.toArray] w fun e w' => e = .returned (.int .i64 k) ∧ Below w.heap.size w w' := by
  have hXz := ofF_bad hX hk
  obtain ⟨hk0, hk1, _, hk3, _⟩ := opC_at hOL
  obtain ⟨W1, hW1⟩ : ∃ z, z = w.alloc (.cells OL.toArray 44) := ⟨_, rfl⟩
  have hb1 : Below w.heap.size w W1 := by rw [hW1]; exact (Below.refl _ _).alloc (Nat.le_refl _) _
  have hA1 : Arr W1 w.heap.size 44 OL := by rw [hW1]; exact Arr.new w _ _
  obtain ⟨VL, hVL⟩ : ∃ VL : List Value, VL = [.int .i64 X.q, .bool X.fr, .map X.mo] := ⟨_, rfl⟩
  have Hof := Lib.hid ((of_any s mb o ho OL hOL W1 F M (h.below hb1) ch hch X k hX).mono (R' := fun e w' => e = .returned (.tuple #[.agg VL.toArray, .int .i64 k]) ∧ Below W1.heap.size W1 w') (by rintro e w' ⟨rfl, h⟩; exact ⟨by rw [hVL]; rfl, h⟩))
  obtain ⟨g, hg⟩ : ∃ z, z = w.heap.size := ⟨_, rfl⟩
  rw [← hg] at hA1
  have hgl : w.heap.size ≤ g := by rw [hg]; exact Nat.le_refl _
  have HOi := Lib.hid (show (Try.prog.info? 44).map (·.size) = some OL.toArray.size by rw [List.size_toArray, hOL, opC_length ho.b48]; exact opSize)
  have HVi := Lib.hid (show (Try.prog.info? 114).map (·.size) = some VL.toArray.size ∧ (#[.int .i64 0, .bool false, .map none] : Array Value).size = VL.toArray.size from ⟨by rw [hVL]; exact imgSize, by rw [hVL]; rfl⟩)
  have HV1 := Lib.hid (show VL.toArray.all (·.oneCell') = true by rw [hVL]; simp [Value.oneCell'])
  have HV0 := Lib.hid (show VL[0]? = some (.int .i64 X.q) by rw [hVL]; rfl)
  have HV2 := Lib.hid (show VL[2]? = some (.map X.mo) by rw [hVL]; rfl)
  have HA1 := Lib.hid hA1
  have Hb1 := Lib.hid hb1
  have Hg := Lib.hid hg
  have HQ := Lib.hid h
  have Hk3 := Lib.hid hk3
  have Hnum := Lib.hid ho.i1
  have HB48 := Lib.hid ho.b48
  have HOL := Lib.hid hOL
  have HW := Lib.hid hW1
  have hslt := h.Flt s h.Fs
  clear hVL hW1 hk0 hk1 hk3 hg hOL hb1 hch h 
  go_enter Try.func52, Try.ntmps52
  go_upto_region 1 with fail
  rw [← HW.out, ← Hg.out]
  go_wp2_with (first | (refine wpList_load_row rfl _ _ rfl g rfl 44 OL.toArray (0, 0) _ hA1 Try.underlying44 rfl HOi.out ?_))
  refine Calls.mono Hof.out ?_
  rintro e w2 ⟨rfl, hb2⟩
  have HA2 := Lib.hid (HA1.out.up hb2)
  have Hb2 := Lib.hid (Hb1.out.trans (hb2.mono Hb1.out.size))
  
  obtain ⟨gv, hgv⟩ : ∃ z, z = w2.heap.size := ⟨_, rfl⟩
  have Hgv := Lib.hid hgv
  clear hb2 hA1 Hof HA1 Hb1 hgv 
  go_upto_region 2 with (change wpList _ _ _ _ _ (w2.alloc (.cells (#[.int .i64 0, .bool false, .map none] : Array Value) 114)); refine wpList_store_row rfl _ _ _ rfl w2.heap.size VL.toArray rfl rfl 114 (#[.int .i64 0, .bool false, .map none] : Array Value) (heap_alloc_new w2 _) HVi.out.1 HVi.out.2 HV1.out ?_; obtain ⟨w3, hw3⟩ : ∃ x, x = (w2.alloc (.cells (#[.int .i64 0, .bool false, .map none] : Array Value) 114)).setRow w2.heap.size VL.toArray := ⟨_, rfl⟩; rw [← hw3]; obtain ⟨hP3, hb3⟩ := alloc_row w2 114 (#[.int .i64 0, .bool false, .map none] : Array Value) VL; rw [← hw3] at hP3 hb3; clear hw3)
  rw [← Hgv.out] at hP3 ⊢
  have HA3 := Lib.hid (HA2.out.up hb3)
  have Hb3 := Lib.hid (Hb2.out.trans (hb3.mono Hb2.out.size))
  have HP3 := Lib.hid hP3
  
  have hgv3 : w.heap.size ≤ gv := by rw [Hgv.out]; exact Hb2.out.size
  clear hb3 HA2 Hb2 Hgv hP3 
  have hv2 : w3.cell? ⟨gv, 2, none⟩ = some (.map none) := by rw [HP3.out.cell, HV2.out, hXz]; rfl
  have hn3 : w3.cell? ⟨g, 3, none⟩ = some (.int .i64 o.num) := by rw [HA3.out.cell]; exact Hk3.out
  have hdel := nil_del (w := w3) Hnum.out.1 Hnum.out.2
  clear hXz
  go_wp2_with fail
  go_ret
  exact ⟨rfl, Hb3.out⟩

theorem del_ok {v : Vol} (h : ImgOk v) (n : Nat) : ImgOk { v with cells := delC v.cells n } where
  q := h.q
  le := Nat.le_trans (List.length_filter_le _ _) h.le
  rs := delC_rise h.rs n
  c := fun c hc => h.c c (delC_mem.1 hc).1
  nm := h.nm

set_option maxHeartbeats 4000000 in
set_option maxRecDepth 100000 in
theorem trim_ok (s mb : Nat) (o : Op15) (ho : OpOk o) (OL : List Value) (hOL : OL = opC o) (w : World) (F : Nat → Prop) (M : List Vm) (h : MdQ w F s mb M) (ch : Bool) (hch : changesB o.kind = ch) (X : Ix) (hX : ofF M o.name o.num ch = (X, 0)) (m : Vm) (hXm : X = ixOf (some m)) (hf : findM M o.name = some m) (hnb : numB o.num = true) :
    Calls Try.prog 52 #[.pointer (some ⟨s, 0, none⟩), .agg OL.toArray] w fun e w' => e = .returned (.int .i64 0) ∧ MdL w' (newF F w w') s (setV (vs M) o.name (delC m.v.cells o.num.toNat)) ∧ Only F w w' := by
  have Hnb := Lib.hid hnb
  obtain ⟨hk0, hk1, _, hk3, _⟩ := opC_at hOL
  obtain ⟨W1, hW1⟩ : ∃ z, z = w.alloc (.cells OL.toArray 44) := ⟨_, rfl⟩
  have hb1 : Below w.heap.size w W1 := by rw [hW1]; exact (Below.refl _ _).alloc (Nat.le_refl _) _
  have hA1 : Arr W1 w.heap.size 44 OL := by rw [hW1]; exact Arr.new w _ _
  obtain ⟨VL, hVL⟩ : ∃ VL : List Value, VL = [.int .i64 X.q, .bool X.fr, .map X.mo] := ⟨_, rfl⟩
  have Hof := Lib.hid ((of_any s mb o ho OL hOL W1 F M (h.below hb1) ch hch X 0 hX).mono (R' := fun e w' => e = .returned (.tuple #[.agg VL.toArray, .int .i64 0]) ∧ Below W1.heap.size W1 w') (by rintro e w' ⟨rfl, h⟩; exact ⟨by rw [hVL]; rfl, h⟩))
  obtain ⟨g, hg⟩ : ∃ z, z = w.heap.size := ⟨_, rfl⟩
  rw [← hg] at hA1
  have hgl : w.heap.size ≤ g := by rw [hg]; exact Nat.le_refl _
  have HOi := Lib.hid (show (Try.prog.info? 44).map (·.size) = some OL.toArray.size by rw [List.size_toArray, hOL, opC_length ho.b48]; exact opSize)
  have HVi := Lib.hid (show (Try.prog.info? 114).map (·.size) = some VL.toArray.size ∧ (#[.int .i64 0, .bool false, .map none] : Array Value).size = VL.toArray.size from ⟨by rw [hVL]; exact imgSize, by rw [hVL]; rfl⟩)
  have HV1 := Lib.hid (show VL.toArray.all (·.oneCell') = true by rw [hVL]; simp [Value.oneCell'])
  have HV0 := Lib.hid (show VL[0]? = some (.int .i64 X.q) by rw [hVL]; rfl)
  have HV2 := Lib.hid (show VL[2]? = some (.map X.mo) by rw [hVL]; rfl)
  have HA1 := Lib.hid hA1
  have Hb1 := Lib.hid hb1
  have Hg := Lib.hid hg
  have HQ := Lib.hid h
  have Hk3 := Lib.hid hk3
  have Hnum := Lib.hid ho.i1
  have HB48 := Lib.hid ho.b48
  have HOL := Lib.hid hOL
  have HW := Lib.hid hW1
  have hslt := h.Flt s h.Fs
  clear hVL hW1 hk0 hk1 hk3 hg hOL hb1 hch h 
  go_enter Try.func52, Try.ntmps52
  go_upto_region 1 with fail
  rw [← HW.out, ← Hg.out]
  go_wp2_with (first | (refine wpList_load_row rfl _ _ rfl g rfl 44 OL.toArray (0, 0) _ hA1 Try.underlying44 rfl HOi.out ?_))
  refine Calls.mono Hof.out ?_
  rintro e w2 ⟨rfl, hb2⟩
  have HA2 := Lib.hid (HA1.out.up hb2)
  have Hb2 := Lib.hid (Hb1.out.trans (hb2.mono Hb1.out.size))
  
  obtain ⟨gv, hgv⟩ : ∃ z, z = w2.heap.size := ⟨_, rfl⟩
  have Hgv := Lib.hid hgv
  clear hb2 hA1 Hof HA1 Hb1 hgv 
  go_upto_region 2 with (change wpList _ _ _ _ _ (w2.alloc (.cells (#[.int .i64 0, .bool false, .map none] : Array Value) 114)); refine wpList_store_row rfl _ _ _ rfl w2.heap.size VL.toArray rfl rfl 114 (#[.int .i64 0, .bool false, .map none] : Array Value) (heap_alloc_new w2 _) HVi.out.1 HVi.out.2 HV1.out ?_; obtain ⟨w3, hw3⟩ : ∃ x, x = (w2.alloc (.cells (#[.int .i64 0, .bool false, .map none] : Array Value) 114)).setRow w2.heap.size VL.toArray := ⟨_, rfl⟩; rw [← hw3]; obtain ⟨hP3, hb3⟩ := alloc_row w2 114 (#[.int .i64 0, .bool false, .map none] : Array Value) VL; rw [← hw3] at hP3 hb3; clear hw3)
  rw [← Hgv.out] at hP3 ⊢
  have HA3 := Lib.hid (HA2.out.up hb3)
  have Hb3 := Lib.hid (Hb2.out.trans (hb3.mono Hb2.out.size))
  have HP3 := Lib.hid hP3
  
  have hgv3 : w.heap.size ≤ gv := by rw [Hgv.out]; exact Hb2.out.size
  clear hb3 HA2 Hb2 Hgv hP3 
  have hmm := (findM_mem hf).1
  have hmn := (findM_mem hf).2
  have him3 : ImOk w3 m := (HQ.out.vm m hmm).kept (Hb3.out.block _ (HQ.out.Flt _ (HQ.out.Fv m hmm)))
  have hv2 : w3.cell? ⟨gv, 2, none⟩ = some (.map (some m.bb)) := by rw [HP3.out.cell, HV2.out, hXm]; rfl
  have hn3 : w3.cell? ⟨g, 3, none⟩ = some (.int .i64 o.num) := by rw [HA3.out.cell]; exact Hk3.out
  have hown := him3.hc
  obtain ⟨nn, hnn⟩ := Int.eq_ofNat_of_zero_le (numB_yes hnb).1
  have Hkey := Lib.hid (keyOf_num Hnum.out.1 Hnum.out.2)
  have Hnn := Lib.hid hnn
  have Hmm := Lib.hid hmm
  have Hmn := Lib.hid hmn
  have Him3 := Lib.hid him3
  clear hnn hmm hmn hf hnb him3 hXm
  go_wp2_with (at_delete; refine wpList_delete_own _ rfl _ _ 112 3 rfl 42 intKeyed Try.underlying112 blkR m.bb m.v.cells.length (cellsD m.v.cells) rfl hown _ _ rfl Hkey.out ?_)
  intro w5 hown5 ht5
  have hg5 := ht5.grown
  rw [Hnn.out, cellsD_del] at hown5
  have hfin := MdQ.turn (HQ.out.below Hb3.out) Hmm.out hown5 hg5 (del_ok Him3.out.ok nn)
  have hO : Only F w w5 := (Only.of_below Hb3.out).trans ⟨hg5.os, hg5.tape, hg5.output, hg5.size, fun i hi hn => hg5.block i hi fun e => hn (by injection e with e; rw [e]; exact HQ.out.Fv m Hmm.out)⟩
  have hs4 := Hb3.out.size
  have hs5 := hg5.size
  clear hown5 hg5 hown ht5
  go_wp2_with fail
  go_ret
  refine ⟨rfl, MdL.more (F := newF F w3 w5) ⟨_, mb, hfin, ?_⟩ (fun b hb => ?_) (newF_lt HQ.out.Flt hO.size), hO⟩
  · rw [vs_set, Hmn.out, Hnn.out]
    rfl
  · rcases hb with hb | hb
    · exact .inl hb
    · exact .inr ⟨by omega, hb.2⟩

theorem trim_any (s : Nat) (o : Op15) (ho : OpOk o) (OL : List Value) (hOL : OL = opC o) (w : World) (F : Nat → Prop) (L : List Vol) (h : MdL w F s L) (hch : changesB o.kind = true) (L' : List Vol) (k : Int) (hk : trimL L o.name o.num = (L', k)) :
    Calls Try.prog 52 #[.pointer (some ⟨s, 0, none⟩), .agg OL.toArray] w fun e w' => e = .returned (.int .i64 k) ∧ MdL w' (newF F w w') s L' ∧ Only F w w' := by
  have Hh := h
  obtain ⟨M, mb, hQ, rfl⟩ := h
  obtain ⟨X, k1, hX⟩ : ∃ X k1, ofF M o.name o.num true = (X, k1) := ⟨_, _, rfl⟩
  unfold trimL at hk
  rw [of_e, hX] at hk
  dsimp only at hk
  by_cases hk1 : k1 = 0
  · subst hk1
    rw [if_neg (by simp)] at hk
    obtain ⟨m, hf, hnb, hfz, hXm⟩ := ofF_good hX
    rw [vs_find, hf] at hk
    dsimp only [Option.map_some] at hk
    injection hk with h1 h2
    subst h1 h2
    exact trim_ok s mb o ho OL hOL w F M hQ true hch X hX m hXm hf hnb
  · rw [if_pos hk1] at hk
    injection hk with h1 h2
    subst h1 h2
    refine (trim_bad s mb o ho OL hOL w F M hQ true hch X k1 hX hk1).mono ?_
    rintro e w' ⟨rfl, hb⟩
    exact ⟨rfl, Hh.same hb, Only.of_below hb⟩

end Go.Proofs.Ytcajhndhjlfmaaa

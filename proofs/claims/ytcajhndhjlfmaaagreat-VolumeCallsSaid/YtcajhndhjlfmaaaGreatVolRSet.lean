/-
  The document's Set.
-/
import Derived.Test.YtcajhndhjlfmaaaGreatVolSetMath
namespace Go.Proofs.YtcajhndhjlfmaaaGreat
open Go.RowKit
set_option linter.unusedVariables false
set_option linter.unusedSimpArgs false

theorem below_row {a w : World} (h : Below a.heap.size a w) {g : Nat} (hg : a.heap.size ≤ g) (cs : Array Value) : Below a.heap.size a (w.setRow g cs) :=
  h.trans (((Only.refl (fun b => b = g) w).setRow (.inl rfl) cs).below h.size (by rintro i rfl; exact hg))
theorem klZero (w : World) : (zeroValue 73).run Tryz.prog w = .ok (.agg clZ.toArray) w := by kernel_rfl
theorem vlZero12 (w : World) : (zeroValue 71).run Tryz.prog w = .ok (.agg #[.string ⟨#[]⟩, .int .i64 0, .bool false, .slice none 0 0]) w := by kernel_rfl
theorem wpList_allocZV {P : Program} {ops : Array Oper} {rest : List Oper} {o : Oper} {a : Act} {w : World} {Q : Exit → Act → World → Prop} (hg : o.guard = none) (t : TypeId) (ho : o.op = .alloc t) (Z : Array Value) (hz : (zeroValue t).run P w = .ok (.agg Z) w)
    (h : wpList P ops Q rest (a.put o.dst (.pointer (some ⟨w.heap.size, 0, none⟩))) (w.alloc (.cells Z t))) : wpList P ops Q (o :: rest) a w := by
  refine wpList_plain hg fun K hK => ?_
  unfold Oper.wp execOp
  simp only [ho, Instr.alloc, Sem.run_bind, hz, Result.andThen_ok]
  exact hK _ _ h

set_option maxHeartbeats 8000000 in
set_option maxRecDepth 100000 in
theorem rset_err (A : Option Addr) (n c : Nat) (L : List Vol) (nm : ByteArray) (hsz : nm.size ≤ maxLen) (nu : Int) (w : World) (G : Nat → Prop) (h : VSl w G A n c L) (hG : ∀ b, G b → b < w.heap.size) (hl : L.length ≤ 100000) (put : Bool) (f : List UInt8) (hf32 : f.length = 32) (FL : List Value) (hFL : FL = Lib.byteCells f) (o0 : List UInt8) (b0 : Bool) (k0 : Int) (hget : getL L nm nu = (o0, b0, k0)) (ho32 : o0.length = 32) (hk0 : k0 ≠ 0) :
    Calls Tryz.prog 20 #[.slice A n c, .string nm, .int .i64 nu, .bool put, .agg FL.toArray] w fun e w' => ∃ A' n' c', e = .returned (.tuple #[.slice A' n' c', .agg (Lib.byteCells o0).toArray, .bool b0, .int .i64 k0]) ∧ VSl w' (fun b => G b ∨ w.heap.size ≤ b) A' n' c' L ∧ Below w.heap.size w w' := by
  have q0 : (k0 != 0) = true := by simpa using hk0
  have q1 : (k0 == 0) = false := by simpa using hk0
  obtain ⟨ZL, hZL⟩ : ∃ ZL, ZL = Lib.byteCells zeros := ⟨_, rfl⟩
  have HZi := Lib.hid (show (Tryz.prog.info? 29).map (·.size) = some ZL.toArray.size by rw [hZL]; simpa [Lib.byteCells, zeros] using digInfo)
  have HZ1 := Lib.hid (show ZL.toArray.all (·.oneCell') = true by rw [hZL]; exact dig_one _)
  have HZb := Lib.hid (show Tryz.prog.built 29 [] = some ZL.toArray by rw [hZL]; exact digBuilt)
  have HFi := Lib.hid (show (Tryz.prog.info? 29).map (·.size) = some FL.toArray.size by rw [List.size_toArray, hFL, Lib.byteCells_length, hf32]; exact digInfo)
  obtain ⟨GL, hGL⟩ : ∃ GL, GL = Lib.byteCells o0 := ⟨_, rfl⟩
  have HGI := Lib.hid (show (Tryz.prog.info? 29).map (·.size) = some GL.toArray.size ∧ (Lib.byteCells zeros).toArray.size = GL.toArray.size by rw [hGL, List.size_toArray, List.size_toArray, Lib.byteCells_length, Lib.byteCells_length, ho32]; exact ⟨digInfo, rfl⟩)
  have HGl := Lib.hid (show (Tryz.prog.info? 29).map (·.size) = some GL.length by rw [hGL, Lib.byteCells_length, ho32]; exact digInfo)
  have HG1 := Lib.hid (show GL.toArray.all (·.oneCell') = true by rw [hGL]; exact dig_one _)
  have HGz := Lib.hid (show ZL.toArray.size = GL.toArray.size by rw [hZL, hGL, List.size_toArray, List.size_toArray, Lib.byteCells_length, Lib.byteCells_length, ho32]; rfl)
  obtain ⟨w0, hw0⟩ : ∃ x, x = (w.alloc (.cells FL.toArray 29)).alloc (.cells (Lib.byteCells zeros).toArray 29) := ⟨_, rfl⟩
  have hb0 : Below w.heap.size w w0 := by rw [hw0]; exact ((Below.refl _ _).alloc (Nat.le_refl _) _).alloc (by simp) _
  have hz0 : w.heap.size + 2 ≤ w0.heap.size := by rw [hw0]; simp
  have hR0 : Arr w0 (w.heap.size + 1) 29 ZL := by
    rw [hw0, hZL]
    simpa using Arr.new (w.alloc (.cells FL.toArray 29)) 29 (Lib.byteCells zeros)
  have hF0 : Arr w0 w.heap.size 29 FL := by
    rw [hw0]
    exact (Arr.new w 29 FL).alloc _
  have Hget := Lib.hid (rget_any A n c L nm hsz nu w0 G (h.below hb0) hl o0 b0 k0 hget GL hGL)
  have Hvs := Lib.hid h
  have HW0 := Lib.hid hw0
  have Hb0 := Lib.hid hb0
  have HZL := Lib.hid hZL
  have HGL := Lib.hid hGL
  have HFL := Lib.hid hFL
  have HG := Lib.hid hG
  have Hl := Lib.hid hl
  clear hw0 hZL hGL h hget hFL hG hb0 ho32 hl
  go_enter Tryz.func20, Tryz.ntmps20
  go_upto_region 1 with fail
  change Code.wp _ _ _ _ ((w.alloc (.cells FL.toArray 29)).alloc (.cells (Lib.byteCells zeros).toArray 29))
  rw [← HW0.out]
  clear HW0
  go_wp2_with fail
  refine Calls.mono Hget.out ?_
  rintro e w2 ⟨rfl, hb2⟩
  have hR2 := hR0.up hb2
  have hF2 := hF0.up hb2
  have hb2w : Below w.heap.size w w2 := Hb0.out.trans (hb2.mono Hb0.out.size)
  have hz2 : w.heap.size + 2 ≤ w2.heap.size := Nat.le_trans hz0 hb2.size
  clear hR0 hF0 hb2 Hget Hb0 hz0
  go_upto_region 2 with (first | (change wpList _ _ _ _ _ (w2.alloc (.cells (Lib.byteCells zeros).toArray 29)); refine wpList_store_row rfl _ _ _ rfl w2.heap.size GL.toArray rfl rfl 29 (Lib.byteCells zeros).toArray (heap_alloc_new w2 _) HGI.out.1 HGI.out.2 HG1.out ?_; obtain ⟨w3, hw3⟩ : ∃ x, x = (w2.alloc (.cells (Lib.byteCells zeros).toArray 29)).setRow w2.heap.size GL.toArray := ⟨_, rfl⟩; rw [← hw3]; obtain ⟨hP3, hb3⟩ := alloc_row w2 29 (Lib.byteCells zeros).toArray GL; rw [← hw3] at hP3 hb3; clear hw3))
  have hR3 := hR2.up hb3
  have hF3 := hF2.up hb3
  have hb3w : Below w.heap.size w w3 := hb2w.trans (hb3.mono hb2w.size)
  have hz3 : w.heap.size + 2 ≤ w3.heap.size := Nat.le_trans hz2 hb3.size
  have hwlt : w2.heap.size < w3.heap.size := hP3.lt
  have Hvs3 := Lib.hid (Hvs.out.below hb3w)
  clear hR2 hF2 hb2w hb3
  have Hk0 := Lib.hid hk0
  clear hk0
  go_upto_region 3 with fail
  have hRx := hR3
  have hPx := hP3
  refine wp_region_held_drew (S := fun w' => Arr w' w2.heap.size 29 GL) (by kernel_rfl) hPx (fun hHeld => ?_)
  refine anyH_take (i := 0) (v := .slice A n c) (some 34) rfl rfl (by kernel_rfl) (by kernel_rfl) (by kernel_rfl) (fun _ _ _ h => h) (Or.inl ⟨by rfl, fun w' hw => by (go_simp)⟩) (by assumption) ?_
  simp only [Act.put, List.setIfInBounds_toArray, List.set_cons_zero, List.set_cons_succ]
  refine anyH_take (i := 1) (some 35) rfl rfl (by kernel_rfl) (by kernel_rfl) (by kernel_rfl) (fun _ _ _ h => h) (yieldsIf_load_mid (by rfl) 29 (.tmp 14) rfl w2.heap.size 0 rfl GL _ (fun w' h => h.range) Tryz.underlying29 rfl HGl.out) (by assumption) ?_
  simp only [Act.put, List.setIfInBounds_toArray, List.set_cons_zero, List.set_cons_succ]
  refine anyH_take (i := 2) (v := .bool b0) (some 36) rfl rfl (by kernel_rfl) (by kernel_rfl) (by kernel_rfl) (fun _ _ _ h => h) (Or.inl ⟨by rfl, fun w' hw => by (go_simp)⟩) (by assumption) ?_
  simp only [Act.put, List.setIfInBounds_toArray, List.set_cons_zero, List.set_cons_succ]
  refine anyH_take (i := 3) (v := .int .i64 k0) (some 37) rfl rfl (by kernel_rfl) (by kernel_rfl) (by kernel_rfl) (fun _ _ _ h => h) (Or.inl ⟨by rfl, fun w' hw => by (go_simp)⟩) (by assumption) ?_
  simp only [Act.put, List.setIfInBounds_toArray, List.set_cons_zero, List.set_cons_succ]
  refine anyH_take (i := 4) (v := .slice A n c) (some 10) rfl rfl (by kernel_rfl) (by kernel_rfl) (by kernel_rfl) (fun _ _ _ h => h) (Or.inl ⟨by rfl, fun w' hw => by (go_simp)⟩) (by assumption) ?_
  simp only [Act.put, List.setIfInBounds_toArray, List.set_cons_zero, List.set_cons_succ]
  refine wpAnyH_ready (rs := [5]) (by kernel_rfl) (by simp) ?_
  refine AllReadyH.cons rfl (fun K hK => ?_) AllReadyH.nil
  rw [if_pos (by rfl)]
  refine wp_store_row_to rfl _ _ _ rfl (w.heap.size + 1) GL.toArray rfl rfl 29 ZL.toArray hRx HGI.out.1 HGz.out HG1.out ?_
  refine hK.out _ _ (Arr.rowOther (show Arr (World.drewN _ 1) _ _ _ from hPx) (by omega) _) (fun hHeldy => ?_)
  clear hK K
  try simp only [Act.put, List.setIfInBounds_toArray, List.set_cons_zero, List.set_cons_succ]
  refine anyH_take (i := 6) (v := .bool b0) (some 12) rfl rfl (by kernel_rfl) (by kernel_rfl) (by kernel_rfl) (fun _ _ _ h => h) (Or.inl ⟨by rfl, fun w' hw => by (go_simp)⟩) (by assumption) ?_
  simp only [Act.put, List.setIfInBounds_toArray, List.set_cons_zero, List.set_cons_succ]
  refine anyH_take (i := 7) (v := .int .i64 k0) (some 13) rfl rfl (by kernel_rfl) (by kernel_rfl) (by kernel_rfl) (fun _ _ _ h => h) (Or.inl ⟨by rfl, fun w' hw => by (go_simp)⟩) (by assumption) ?_
  simp only [Act.put, List.setIfInBounds_toArray, List.set_cons_zero, List.set_cons_succ]
  refine wpAnyH_done (by kernel_rfl) ?_ _
  go_wp2_with fail
  have hset := (show Arr (World.drewN _ 1) (w.heap.size + 1) 29 ZL from hRx).setRow GL
  have HE := Lib.hid (below_row (Below.dN hb3w 1) (show w.heap.size ≤ w.heap.size + 1 by omega) GL.toArray)
  (try simp only [Exit.inBlock, Exit.then])
  obtain ⟨V, hV⟩ : ∃ V, V = Value.tuple #[.slice A n c, .agg GL.toArray, .bool b0, .int .i64 k0] := ⟨_, rfl⟩
  refine bodyPost_ret (v := V) ?hx1 ?h2 ?h3
  case hx1 => rw [hV]; exact results_tct (fn := Tryz.f20) (by rfl) _ _ (w.heap.size + 1) 29 GL.toArray (0, 0) _ (by rfl) _ _ _ (by rfl) (by rfl) (by rfl) hset Tryz.underlying29 rfl HGI.out.1
  case h2 => rfl
  case h3 => exact ⟨_, _, _, by rw [hV, HGL.out], Hvs.out.grow HE.out, HE.out⟩

set_option maxHeartbeats 8000000 in
set_option maxRecDepth 100000 in
theorem rset_frozen (A : Option Addr) (n c : Nat) (L : List Vol) (nm : ByteArray) (hsz : nm.size ≤ maxLen) (nu : Int) (w : World) (G : Nat → Prop) (h : VSl w G A n c L) (hG : ∀ b, G b → b < w.heap.size) (hl : L.length ≤ 100000) (put : Bool) (f : List UInt8) (hf32 : f.length = 32) (FL : List Value) (hFL : FL = Lib.byteCells f) (o0 : List UInt8) (b0 : Bool) (k0 : Int) (hget : getL L nm nu = (o0, b0, k0)) (ho32 : o0.length = 32) (hk0 : k0 = 0) (i : Nat) (v : Vol) (hi : findI L nm = (i : Nat)) (hLi : L[i]? = some v) (hfr : v.frozen = true) :
    Calls Tryz.prog 20 #[.slice A n c, .string nm, .int .i64 nu, .bool put, .agg FL.toArray] w fun e w' => ∃ A' n' c', e = .returned (.tuple #[.slice A' n' c', .agg (Lib.byteCells zeros).toArray, .bool false, .int .i64 10]) ∧ VSl w' (fun b => G b ∨ w.heap.size ≤ b) A' n' c' L ∧ Below w.heap.size w w' := by
  subst hk0
  obtain ⟨ZL, hZL⟩ : ∃ ZL, ZL = Lib.byteCells zeros := ⟨_, rfl⟩
  have HZi := Lib.hid (show (Tryz.prog.info? 29).map (·.size) = some ZL.toArray.size by rw [hZL]; simpa [Lib.byteCells, zeros] using digInfo)
  have HZ1 := Lib.hid (show ZL.toArray.all (·.oneCell') = true by rw [hZL]; exact dig_one _)
  have HZb := Lib.hid (show Tryz.prog.built 29 [] = some ZL.toArray by rw [hZL]; exact digBuilt)
  have HFi := Lib.hid (show (Tryz.prog.info? 29).map (·.size) = some FL.toArray.size by rw [List.size_toArray, hFL, Lib.byteCells_length, hf32]; exact digInfo)
  obtain ⟨GL, hGL⟩ : ∃ GL, GL = Lib.byteCells o0 := ⟨_, rfl⟩
  have HGI := Lib.hid (show (Tryz.prog.info? 29).map (·.size) = some GL.toArray.size ∧ (Lib.byteCells zeros).toArray.size = GL.toArray.size by rw [hGL, List.size_toArray, List.size_toArray, Lib.byteCells_length, Lib.byteCells_length, ho32]; exact ⟨digInfo, rfl⟩)
  have HGl := Lib.hid (show (Tryz.prog.info? 29).map (·.size) = some GL.length by rw [hGL, Lib.byteCells_length, ho32]; exact digInfo)
  have HG1 := Lib.hid (show GL.toArray.all (·.oneCell') = true by rw [hGL]; exact dig_one _)
  have HGz := Lib.hid (show ZL.toArray.size = GL.toArray.size by rw [hZL, hGL, List.size_toArray, List.size_toArray, Lib.byteCells_length, Lib.byteCells_length, ho32]; rfl)
  obtain ⟨w0, hw0⟩ : ∃ x, x = (w.alloc (.cells FL.toArray 29)).alloc (.cells (Lib.byteCells zeros).toArray 29) := ⟨_, rfl⟩
  have hb0 : Below w.heap.size w w0 := by rw [hw0]; exact ((Below.refl _ _).alloc (Nat.le_refl _) _).alloc (by simp) _
  have hz0 : w.heap.size + 2 ≤ w0.heap.size := by rw [hw0]; simp
  have hR0 : Arr w0 (w.heap.size + 1) 29 ZL := by
    rw [hw0, hZL]
    simpa using Arr.new (w.alloc (.cells FL.toArray 29)) 29 (Lib.byteCells zeros)
  have hF0 : Arr w0 w.heap.size 29 FL := by
    rw [hw0]
    exact (Arr.new w 29 FL).alloc _
  have Hget := Lib.hid (rget_any A n c L nm hsz nu w0 G (h.below hb0) hl o0 b0 0 hget GL hGL)
  have Hvs := Lib.hid h
  have HW0 := Lib.hid hw0
  have Hb0 := Lib.hid hb0
  have HZL := Lib.hid hZL
  have HGL := Lib.hid hGL
  have HFL := Lib.hid hFL
  have HG := Lib.hid hG
  have Hl := Lib.hid hl
  clear hw0 hZL hGL h hget hFL hG hb0 ho32 hl
  go_enter Tryz.func20, Tryz.ntmps20
  go_upto_region 1 with fail
  change Code.wp _ _ _ _ ((w.alloc (.cells FL.toArray 29)).alloc (.cells (Lib.byteCells zeros).toArray 29))
  rw [← HW0.out]
  clear HW0
  go_wp2_with fail
  refine Calls.mono Hget.out ?_
  rintro e w2 ⟨rfl, hb2⟩
  have hR2 := hR0.up hb2
  have hF2 := hF0.up hb2
  have hb2w : Below w.heap.size w w2 := Hb0.out.trans (hb2.mono Hb0.out.size)
  have hz2 : w.heap.size + 2 ≤ w2.heap.size := Nat.le_trans hz0 hb2.size
  clear hR0 hF0 hb2 Hget Hb0 hz0
  go_upto_region 2 with (first | (change wpList _ _ _ _ _ (w2.alloc (.cells (Lib.byteCells zeros).toArray 29)); refine wpList_store_row rfl _ _ _ rfl w2.heap.size GL.toArray rfl rfl 29 (Lib.byteCells zeros).toArray (heap_alloc_new w2 _) HGI.out.1 HGI.out.2 HG1.out ?_; obtain ⟨w3, hw3⟩ : ∃ x, x = (w2.alloc (.cells (Lib.byteCells zeros).toArray 29)).setRow w2.heap.size GL.toArray := ⟨_, rfl⟩; rw [← hw3]; obtain ⟨hP3, hb3⟩ := alloc_row w2 29 (Lib.byteCells zeros).toArray GL; rw [← hw3] at hP3 hb3; clear hw3))
  have hR3 := hR2.up hb3
  have hF3 := hF2.up hb3
  have hb3w : Below w.heap.size w w3 := hb2w.trans (hb3.mono hb2w.size)
  have hz3 : w.heap.size + 2 ≤ w3.heap.size := Nat.le_trans hz2 hb3.size
  have hwlt : w2.heap.size < w3.heap.size := hP3.lt
  have Hvs3 := Lib.hid (Hvs.out.below hb3w)
  clear hR2 hF2 hb2w hb3
  obtain ⟨b, off, rfl, hin, Ac, cc, a0, a1, a2, a3, hvx, hrow⟩ := Hvs3.out.at_ hLi
  have hcn : n ≤ c ∧ c ≤ 9223372036854775807 ∧ n ≤ 100000 := by
    obtain ⟨xs, hx, hn', hc, hm, _⟩ := Hvs.out
    have hl := Hl.out
    unfold maxLen at hm
    rw [← hx, List.length_map, hn'] at hl
    exact ⟨hc, by omega, hl⟩
  obtain ⟨YL, hYL⟩ : ∃ YL, YL = volC ⟨v, Ac, cc⟩ := ⟨_, rfl⟩
  have hYl : YL.length = 4 := by rw [hYL]; rfl
  rw [← hYL] at hrow
  obtain ⟨VZ, hVZ⟩ : ∃ CZ, CZ = [Value.string ⟨#[]⟩, .int .i64 0, .bool false, .slice none 0 0] := ⟨_, rfl⟩
  have HVZ := Lib.hid (fun w : World => show (zeroValue 71).run Tryz.prog w = .ok (.agg VZ.toArray) w by rw [hVZ]; exact vlZero12 w)
  have HYi := Lib.hid (show (Tryz.prog.info? 71).map (·.size) = some YL.length by rw [hYl]; exact vlSize)
  have HYj := Lib.hid (show (Tryz.prog.info? 71).map (·.size) = some YL.toArray.size by rw [List.size_toArray, hYl]; exact vlSize)
  have HY1 := Lib.hid (show YL.toArray.all (·.oneCell') = true by rw [hYL]; exact all_oneCell_toArray (volC_one _))
  have HYz := Lib.hid (show VZ.toArray.size = YL.toArray.size by rw [List.size_toArray, List.size_toArray, hYl, hVZ]; rfl)
  obtain ⟨w4, hw4⟩ : ∃ W, W = (w3.alloc (.cells VZ.toArray 71)).setRow w3.heap.size YL.toArray := ⟨_, rfl⟩
  obtain ⟨hY4, hb4⟩ := alloc_row w3 71 VZ.toArray YL
  rw [← hw4] at hY4 hb4
  have hR4 := hR3.up hb4
  have hF4 := hF3.up hb4
  have hP4 := hP3.up hb4
  have hb4w : Below w.heap.size w w4 := hb3w.trans (hb4.mono hb3w.size)
  have hz4 : w.heap.size + 2 ≤ w4.heap.size := Nat.le_trans hz3 hb4.size
  have hwlt4 : w3.heap.size < w4.heap.size := hY4.lt
  have hvx4 := hvx.keep hb4.size (fun b _ hlt => hb4.block b hlt) fun _ _ h => h
  obtain ⟨lx, hlx⟩ : ∃ z, v.cells.length = z := ⟨_, rfl⟩
  obtain ⟨vq, hvq⟩ : ∃ z, v.quota = z := ⟨_, rfl⟩
  have HY4 : Hid (∀ w', Arr w' w3.heap.size 71 YL → w'.cell? ⟨w3.heap.size, 1, none⟩ = some (.int .i64 (vq : Nat)) ∧ w'.cell? ⟨w3.heap.size, 2, none⟩ = some (.bool v.frozen) ∧ w'.cell? ⟨w3.heap.size, 3, none⟩ = some (.slice Ac lx cc)) := fun w' h => by
    rw [h.cell, h.cell, h.cell, hYL, ← hlx, ← hvq]
    exact ⟨rfl, rfl, rfl⟩
  obtain ⟨y1, y2, y3⟩ := HY4.out w4 hY4
  have hlc : lx ≤ cc ∧ cc ≤ 9223372036854775807 ∧ lx ≤ 1048576 := by
    have e1 : v.cells.length ≤ cc := hvx.le
    have e2 : cc ≤ maxLen := hvx.lim
    have e3 : v.cells.length ≤ 1048576 := hvx.len
    rw [hlx] at e1 e3
    unfold maxLen at e2
    omega
  have Hw4 := Lib.hid hw4
  have Hlx := Lib.hid hlx
  have Hvq := Lib.hid hvq
  have Hvx4 := Lib.hid hvx4
  have HY4a := Lib.hid hY4
  have Hb4 := Lib.hid hb4w
  have HF4 := Lib.hid hF4
  have Hf := Lib.hid (Hvs3.out.find nm hsz)
  have HLi := Lib.hid hLi
  rw [hi] at Hf
  clear hYL hYl hVZ hw4 hY4 hb4 hR3 hF3 hP3 hb3w hvx hvx4 hlx hvq a0 a1 a2 a3 hi hLi hF4 hb4w
  rw [hfr] at y2
  clear hfr
  go_wp2_with fail
  refine Calls.mono Hf.out ?_
  rintro e w' ⟨rfl, rfl⟩
  clear Hf
  go_upto_region 6 with (first
    | (refine wpList_load_mid rfl _ _ rfl b (off + i * 4) rfl YL _ hrow Tryz.underlying71 rfl HYi.out ?_)
    | (refine wpList_allocZV rfl 71 rfl VZ.toArray (HVZ.out _) ?_)
    | (refine wpList_store_row rfl _ _ _ rfl w3.heap.size YL.toArray rfl rfl 71 VZ.toArray (heap_alloc_new w3 _) HYj.out HYz.out HY1.out ?_; rw [← Hw4.out]))
  clear hrow
  go_wp2_with (first | (refine wpList_builtV rfl _ _ rfl [] rfl ZL.toArray HZb.out ?_) | (refine wpList_store_row rfl _ _ _ rfl (w.heap.size + 1) ZL.toArray rfl rfl 29 ZL.toArray hR4 HZi.out rfl HZ1.out ?_))
  have hset := hR4.setRow ZL
  have HE := Lib.hid (below_row Hb4.out (show w.heap.size ≤ w.heap.size + 1 by omega) ZL.toArray)
  (try simp only [Exit.inBlock, Exit.then])
  obtain ⟨V, hV⟩ : ∃ V, V = Value.tuple #[.slice (some ⟨b, off, none⟩) n c, .agg ZL.toArray, .bool false, .int .i64 10] := ⟨_, rfl⟩
  refine bodyPost_ret (v := V) ?hx1 ?h2 ?h3
  case hx1 => rw [hV]; exact results_tct (fn := Tryz.f20) (by rfl) _ _ (w.heap.size + 1) 29 ZL.toArray (0, 0) _ (by rfl) _ _ _ (by rfl) (by rfl) (by rfl) hset Tryz.underlying29 rfl HZi.out
  case h2 => rfl
  case h3 => exact ⟨_, _, _, by rw [hV, HZL.out], Hvs.out.grow HE.out, HE.out⟩

set_option maxHeartbeats 8000000 in
set_option maxRecDepth 100000 in
theorem rset_full (A : Option Addr) (n c : Nat) (L : List Vol) (nm : ByteArray) (hsz : nm.size ≤ maxLen) (nu : Int) (w : World) (G : Nat → Prop) (h : VSl w G A n c L) (hG : ∀ b, G b → b < w.heap.size) (hl : L.length ≤ 100000) (put : Bool) (f : List UInt8) (hf32 : f.length = 32) (FL : List Value) (hFL : FL = Lib.byteCells f) (o0 : List UInt8) (b0 : Bool) (k0 : Int) (hget : getL L nm nu = (o0, b0, k0)) (ho32 : o0.length = 32) (hk0 : k0 = 0) (i : Nat) (v : Vol) (hi : findI L nm = (i : Nat)) (hLi : L[i]? = some v) (hfr : v.frozen = false) (hput : put = true) (hb0' : b0 = false) (hq : v.quota ≤ v.cells.length) :
    Calls Tryz.prog 20 #[.slice A n c, .string nm, .int .i64 nu, .bool put, .agg FL.toArray] w fun e w' => ∃ A' n' c', e = .returned (.tuple #[.slice A' n' c', .agg (Lib.byteCells o0).toArray, .bool b0, .int .i64 8]) ∧ VSl w' (fun b => G b ∨ w.heap.size ≤ b) A' n' c' L ∧ Below w.heap.size w w' := by
  subst hk0 hput hb0'
  obtain ⟨ZL, hZL⟩ : ∃ ZL, ZL = Lib.byteCells zeros := ⟨_, rfl⟩
  have HZi := Lib.hid (show (Tryz.prog.info? 29).map (·.size) = some ZL.toArray.size by rw [hZL]; simpa [Lib.byteCells, zeros] using digInfo)
  have HZ1 := Lib.hid (show ZL.toArray.all (·.oneCell') = true by rw [hZL]; exact dig_one _)
  have HZb := Lib.hid (show Tryz.prog.built 29 [] = some ZL.toArray by rw [hZL]; exact digBuilt)
  have HFi := Lib.hid (show (Tryz.prog.info? 29).map (·.size) = some FL.toArray.size by rw [List.size_toArray, hFL, Lib.byteCells_length, hf32]; exact digInfo)
  obtain ⟨GL, hGL⟩ : ∃ GL, GL = Lib.byteCells o0 := ⟨_, rfl⟩
  have HGI := Lib.hid (show (Tryz.prog.info? 29).map (·.size) = some GL.toArray.size ∧ (Lib.byteCells zeros).toArray.size = GL.toArray.size by rw [hGL, List.size_toArray, List.size_toArray, Lib.byteCells_length, Lib.byteCells_length, ho32]; exact ⟨digInfo, rfl⟩)
  have HGl := Lib.hid (show (Tryz.prog.info? 29).map (·.size) = some GL.length by rw [hGL, Lib.byteCells_length, ho32]; exact digInfo)
  have HG1 := Lib.hid (show GL.toArray.all (·.oneCell') = true by rw [hGL]; exact dig_one _)
  have HGz := Lib.hid (show ZL.toArray.size = GL.toArray.size by rw [hZL, hGL, List.size_toArray, List.size_toArray, Lib.byteCells_length, Lib.byteCells_length, ho32]; rfl)
  obtain ⟨w0, hw0⟩ : ∃ x, x = (w.alloc (.cells FL.toArray 29)).alloc (.cells (Lib.byteCells zeros).toArray 29) := ⟨_, rfl⟩
  have hb0 : Below w.heap.size w w0 := by rw [hw0]; exact ((Below.refl _ _).alloc (Nat.le_refl _) _).alloc (by simp) _
  have hz0 : w.heap.size + 2 ≤ w0.heap.size := by rw [hw0]; simp
  have hR0 : Arr w0 (w.heap.size + 1) 29 ZL := by
    rw [hw0, hZL]
    simpa using Arr.new (w.alloc (.cells FL.toArray 29)) 29 (Lib.byteCells zeros)
  have hF0 : Arr w0 w.heap.size 29 FL := by
    rw [hw0]
    exact (Arr.new w 29 FL).alloc _
  have Hget := Lib.hid (rget_any A n c L nm hsz nu w0 G (h.below hb0) hl o0 false 0 hget GL hGL)
  have Hvs := Lib.hid h
  have HW0 := Lib.hid hw0
  have Hb0 := Lib.hid hb0
  have HZL := Lib.hid hZL
  have HGL := Lib.hid hGL
  have HFL := Lib.hid hFL
  have HG := Lib.hid hG
  have Hl := Lib.hid hl
  clear hw0 hZL hGL h hget hFL hG hb0 ho32 hl
  go_enter Tryz.func20, Tryz.ntmps20
  go_upto_region 1 with fail
  change Code.wp _ _ _ _ ((w.alloc (.cells FL.toArray 29)).alloc (.cells (Lib.byteCells zeros).toArray 29))
  rw [← HW0.out]
  clear HW0
  go_wp2_with fail
  refine Calls.mono Hget.out ?_
  rintro e w2 ⟨rfl, hb2⟩
  have hR2 := hR0.up hb2
  have hF2 := hF0.up hb2
  have hb2w : Below w.heap.size w w2 := Hb0.out.trans (hb2.mono Hb0.out.size)
  have hz2 : w.heap.size + 2 ≤ w2.heap.size := Nat.le_trans hz0 hb2.size
  clear hR0 hF0 hb2 Hget Hb0 hz0
  go_upto_region 2 with (first | (change wpList _ _ _ _ _ (w2.alloc (.cells (Lib.byteCells zeros).toArray 29)); refine wpList_store_row rfl _ _ _ rfl w2.heap.size GL.toArray rfl rfl 29 (Lib.byteCells zeros).toArray (heap_alloc_new w2 _) HGI.out.1 HGI.out.2 HG1.out ?_; obtain ⟨w3, hw3⟩ : ∃ x, x = (w2.alloc (.cells (Lib.byteCells zeros).toArray 29)).setRow w2.heap.size GL.toArray := ⟨_, rfl⟩; rw [← hw3]; obtain ⟨hP3, hb3⟩ := alloc_row w2 29 (Lib.byteCells zeros).toArray GL; rw [← hw3] at hP3 hb3; clear hw3))
  have hR3 := hR2.up hb3
  have hF3 := hF2.up hb3
  have hb3w : Below w.heap.size w w3 := hb2w.trans (hb3.mono hb2w.size)
  have hz3 : w.heap.size + 2 ≤ w3.heap.size := Nat.le_trans hz2 hb3.size
  have hwlt : w2.heap.size < w3.heap.size := hP3.lt
  have Hvs3 := Lib.hid (Hvs.out.below hb3w)
  clear hR2 hF2 hb2w hb3
  obtain ⟨b, off, rfl, hin, Ac, cc, a0, a1, a2, a3, hvx, hrow⟩ := Hvs3.out.at_ hLi
  have hcn : n ≤ c ∧ c ≤ 9223372036854775807 ∧ n ≤ 100000 := by
    obtain ⟨xs, hx, hn', hc, hm, _⟩ := Hvs.out
    have hl := Hl.out
    unfold maxLen at hm
    rw [← hx, List.length_map, hn'] at hl
    exact ⟨hc, by omega, hl⟩
  obtain ⟨YL, hYL⟩ : ∃ YL, YL = volC ⟨v, Ac, cc⟩ := ⟨_, rfl⟩
  have hYl : YL.length = 4 := by rw [hYL]; rfl
  rw [← hYL] at hrow
  obtain ⟨VZ, hVZ⟩ : ∃ CZ, CZ = [Value.string ⟨#[]⟩, .int .i64 0, .bool false, .slice none 0 0] := ⟨_, rfl⟩
  have HVZ := Lib.hid (fun w : World => show (zeroValue 71).run Tryz.prog w = .ok (.agg VZ.toArray) w by rw [hVZ]; exact vlZero12 w)
  have HYi := Lib.hid (show (Tryz.prog.info? 71).map (·.size) = some YL.length by rw [hYl]; exact vlSize)
  have HYj := Lib.hid (show (Tryz.prog.info? 71).map (·.size) = some YL.toArray.size by rw [List.size_toArray, hYl]; exact vlSize)
  have HY1 := Lib.hid (show YL.toArray.all (·.oneCell') = true by rw [hYL]; exact all_oneCell_toArray (volC_one _))
  have HYz := Lib.hid (show VZ.toArray.size = YL.toArray.size by rw [List.size_toArray, List.size_toArray, hYl, hVZ]; rfl)
  obtain ⟨w4, hw4⟩ : ∃ W, W = (w3.alloc (.cells VZ.toArray 71)).setRow w3.heap.size YL.toArray := ⟨_, rfl⟩
  obtain ⟨hY4, hb4⟩ := alloc_row w3 71 VZ.toArray YL
  rw [← hw4] at hY4 hb4
  have hR4 := hR3.up hb4
  have hF4 := hF3.up hb4
  have hP4 := hP3.up hb4
  have hb4w : Below w.heap.size w w4 := hb3w.trans (hb4.mono hb3w.size)
  have hz4 : w.heap.size + 2 ≤ w4.heap.size := Nat.le_trans hz3 hb4.size
  have hwlt4 : w3.heap.size < w4.heap.size := hY4.lt
  have hvx4 := hvx.keep hb4.size (fun b _ hlt => hb4.block b hlt) fun _ _ h => h
  obtain ⟨lx, hlx⟩ : ∃ z, v.cells.length = z := ⟨_, rfl⟩
  obtain ⟨vq, hvq⟩ : ∃ z, v.quota = z := ⟨_, rfl⟩
  have HY4 : Hid (∀ w', Arr w' w3.heap.size 71 YL → w'.cell? ⟨w3.heap.size, 1, none⟩ = some (.int .i64 (vq : Nat)) ∧ w'.cell? ⟨w3.heap.size, 2, none⟩ = some (.bool v.frozen) ∧ w'.cell? ⟨w3.heap.size, 3, none⟩ = some (.slice Ac lx cc)) := fun w' h => by
    rw [h.cell, h.cell, h.cell, hYL, ← hlx, ← hvq]
    exact ⟨rfl, rfl, rfl⟩
  obtain ⟨y1, y2, y3⟩ := HY4.out w4 hY4
  have hlc : lx ≤ cc ∧ cc ≤ 9223372036854775807 ∧ lx ≤ 1048576 := by
    have e1 : v.cells.length ≤ cc := hvx.le
    have e2 : cc ≤ maxLen := hvx.lim
    have e3 : v.cells.length ≤ 1048576 := hvx.len
    rw [hlx] at e1 e3
    unfold maxLen at e2
    omega
  have Hw4 := Lib.hid hw4
  have Hlx := Lib.hid hlx
  have Hvq := Lib.hid hvq
  have Hvx4 := Lib.hid hvx4
  have HY4a := Lib.hid hY4
  have Hb4 := Lib.hid hb4w
  have HF4 := Lib.hid hF4
  have Hf := Lib.hid (Hvs3.out.find nm hsz)
  have HLi := Lib.hid hLi
  rw [hi] at Hf
  clear hYL hYl hVZ hw4 hY4 hb4 hR3 hF3 hP3 hb3w hvx hvx4 hlx hvq a0 a1 a2 a3 hi hLi hF4 hb4w
  rw [hfr] at y2
  have hd : decide ((lx : Int) ≥ (vq : Int)) = true := by have := Hlx.out; have := Hvq.out; simp; omega
  have hd2 : decide (vq ≤ lx) = true := by have := Hlx.out; have := Hvq.out; simp; omega
  clear hfr hq
  go_wp2_with fail
  refine Calls.mono Hf.out ?_
  rintro e w' ⟨rfl, rfl⟩
  clear Hf
  go_upto_region 6 with (first
    | (refine wpList_load_mid rfl _ _ rfl b (off + i * 4) rfl YL _ hrow Tryz.underlying71 rfl HYi.out ?_)
    | (refine wpList_allocZV rfl 71 rfl VZ.toArray (HVZ.out _) ?_)
    | (refine wpList_store_row rfl _ _ _ rfl w3.heap.size YL.toArray rfl rfl 71 VZ.toArray (heap_alloc_new w3 _) HYj.out HYz.out HY1.out ?_; rw [← Hw4.out]))
  clear hrow
  go_upto_region 9 with fail
  clear y1 y2 y3
  have hRx := hR4
  have hPx := hP4
  refine wp_region_held_drew (S := fun w' => Arr w' w2.heap.size 29 GL) (by kernel_rfl) hPx (fun hHeld => ?_)
  refine anyH_take (i := 0) (v := .slice (some ⟨b, off, none⟩) n c) (some 62) rfl rfl (by kernel_rfl) (by kernel_rfl) (by kernel_rfl) (fun _ _ _ h => h) (Or.inl ⟨by rfl, fun w' hw => by (go_simp)⟩) (by assumption) ?_
  simp only [Act.put, List.setIfInBounds_toArray, List.set_cons_zero, List.set_cons_succ]
  refine anyH_take (i := 1) (some 63) rfl rfl (by kernel_rfl) (by kernel_rfl) (by kernel_rfl) (fun _ _ _ h => h) (yieldsIf_load_mid (by rfl) 29 (.tmp 14) rfl w2.heap.size 0 rfl GL _ (fun w' h => h.range) Tryz.underlying29 rfl HGl.out) (by assumption) ?_
  simp only [Act.put, List.setIfInBounds_toArray, List.set_cons_zero, List.set_cons_succ]
  refine anyH_take (i := 2) (v := .bool false) (some 64) rfl rfl (by kernel_rfl) (by kernel_rfl) (by kernel_rfl) (fun _ _ _ h => h) (Or.inl ⟨by rfl, fun w' hw => by (go_simp)⟩) (by assumption) ?_
  simp only [Act.put, List.setIfInBounds_toArray, List.set_cons_zero, List.set_cons_succ]
  refine anyH_take (i := 3) (v := .slice (some ⟨b, off, none⟩) n c) (some 10) rfl rfl (by kernel_rfl) (by kernel_rfl) (by kernel_rfl) (fun _ _ _ h => h) (Or.inl ⟨by rfl, fun w' hw => by (go_simp)⟩) (by assumption) ?_
  simp only [Act.put, List.setIfInBounds_toArray, List.set_cons_zero, List.set_cons_succ]
  refine wpAnyH_ready (rs := [4]) (by kernel_rfl) (by simp) ?_
  refine AllReadyH.cons rfl (fun K hK => ?_) AllReadyH.nil
  rw [if_pos (by rfl)]
  refine wp_store_row_to rfl _ _ _ rfl (w.heap.size + 1) GL.toArray rfl rfl 29 ZL.toArray hRx HGI.out.1 HGz.out HG1.out ?_
  refine hK.out _ _ (Arr.rowOther (show Arr (World.drewN _ 1) _ _ _ from hPx) (by omega) _) (fun hHeldy => ?_)
  clear hK K
  try simp only [Act.put, List.setIfInBounds_toArray, List.set_cons_zero, List.set_cons_succ]
  refine anyH_take (i := 5) (v := .bool false) (some 12) rfl rfl (by kernel_rfl) (by kernel_rfl) (by kernel_rfl) (fun _ _ _ h => h) (Or.inl ⟨by rfl, fun w' hw => by (go_simp)⟩) (by assumption) ?_
  simp only [Act.put, List.setIfInBounds_toArray, List.set_cons_zero, List.set_cons_succ]
  refine anyH_take (i := 6) (v := .int .i64 8) (some 13) rfl rfl (by kernel_rfl) (by kernel_rfl) (by kernel_rfl) (fun _ _ _ h => h) (Or.inl ⟨by rfl, fun w' hw => by (go_simp)⟩) (by assumption) ?_
  simp only [Act.put, List.setIfInBounds_toArray, List.set_cons_zero, List.set_cons_succ]
  refine wpAnyH_done (by kernel_rfl) ?_ _
  go_wp2_with fail
  have hset := (show Arr (World.drewN _ 1) (w.heap.size + 1) 29 ZL from hRx).setRow GL
  have HE := Lib.hid (below_row (Below.dN Hb4.out 1) (show w.heap.size ≤ w.heap.size + 1 by omega) GL.toArray)
  (try simp only [Exit.inBlock, Exit.then])
  obtain ⟨V, hV⟩ : ∃ V, V = Value.tuple #[.slice (some ⟨b, off, none⟩) n c, .agg GL.toArray, .bool false, .int .i64 8] := ⟨_, rfl⟩
  refine bodyPost_ret (v := V) ?hx1 ?h2 ?h3
  case hx1 => rw [hV]; exact results_tct (fn := Tryz.f20) (by rfl) _ _ (w.heap.size + 1) 29 GL.toArray (0, 0) _ (by rfl) _ _ _ (by rfl) (by rfl) (by rfl) hset Tryz.underlying29 rfl HGI.out.1
  case h2 => rfl
  case h3 => exact ⟨_, _, _, by rw [hV, HGL.out], Hvs.out.grow HE.out, HE.out⟩

set_option maxHeartbeats 16000000 in
set_option maxRecDepth 100000 in
theorem rset_good (A : Option Addr) (n c : Nat) (L : List Vol) (nm : ByteArray) (hsz : nm.size ≤ maxLen) (nu : Int) (w : World) (G : Nat → Prop) (h : VSl w G A n c L) (hG : ∀ b, G b → b < w.heap.size) (hl : L.length ≤ 100000) (put : Bool) (f : List UInt8) (hf32 : f.length = 32) (FL : List Value) (hFL : FL = Lib.byteCells f) (o0 : List UInt8) (b0 : Bool) (hget : getL L nm nu = (o0, b0, 0)) (ho32 : o0.length = 32) (i : Nat) (v : Vol) (hi : findI L nm = (i : Nat)) (hLi : L[i]? = some v) (hfr : v.frozen = false) (hq : put = false ∨ b0 = true ∨ v.cells.length < v.quota) (nn : Nat) (hnn : nu = (nn : Nat)) (hn20 : nn < 1048576) (hfin : (finC (accC nn f (!put) v.cells) nn f).length ≤ 1048576) :
    Calls Tryz.prog 20 #[.slice A n c, .string nm, .int .i64 nu, .bool put, .agg FL.toArray] w fun e w' => ∃ A' n' c', e = .returned (.tuple #[.slice A' n' c', .agg (Lib.byteCells o0).toArray, .bool b0, .int .i64 0]) ∧ VSl w' (fun b => G b ∨ w.heap.size ≤ b) A' n' c' (L.set i { v with cells := finC (accC nn f (!put) v.cells) nn f }) ∧ Below w.heap.size w w' := by
  subst hnn
  have Hf32 := Lib.hid hf32
  obtain ⟨ZL, hZL⟩ : ∃ ZL, ZL = Lib.byteCells zeros := ⟨_, rfl⟩
  have HZi := Lib.hid (show (Tryz.prog.info? 29).map (·.size) = some ZL.toArray.size by rw [hZL]; simpa [Lib.byteCells, zeros] using digInfo)
  have HZ1 := Lib.hid (show ZL.toArray.all (·.oneCell') = true by rw [hZL]; exact dig_one _)
  have HZb := Lib.hid (show Tryz.prog.built 29 [] = some ZL.toArray by rw [hZL]; exact digBuilt)
  have HFi := Lib.hid (show (Tryz.prog.info? 29).map (·.size) = some FL.toArray.size by rw [List.size_toArray, hFL, Lib.byteCells_length, hf32]; exact digInfo)
  obtain ⟨GL, hGL⟩ : ∃ GL, GL = Lib.byteCells o0 := ⟨_, rfl⟩
  have HGI := Lib.hid (show (Tryz.prog.info? 29).map (·.size) = some GL.toArray.size ∧ (Lib.byteCells zeros).toArray.size = GL.toArray.size by rw [hGL, List.size_toArray, List.size_toArray, Lib.byteCells_length, Lib.byteCells_length, ho32]; exact ⟨digInfo, rfl⟩)
  have HGl := Lib.hid (show (Tryz.prog.info? 29).map (·.size) = some GL.length by rw [hGL, Lib.byteCells_length, ho32]; exact digInfo)
  have HG1 := Lib.hid (show GL.toArray.all (·.oneCell') = true by rw [hGL]; exact dig_one _)
  have HGz := Lib.hid (show ZL.toArray.size = GL.toArray.size by rw [hZL, hGL, List.size_toArray, List.size_toArray, Lib.byteCells_length, Lib.byteCells_length, ho32]; rfl)
  obtain ⟨w0, hw0⟩ : ∃ x, x = (w.alloc (.cells FL.toArray 29)).alloc (.cells (Lib.byteCells zeros).toArray 29) := ⟨_, rfl⟩
  have hb0 : Below w.heap.size w w0 := by rw [hw0]; exact ((Below.refl _ _).alloc (Nat.le_refl _) _).alloc (by simp) _
  have hz0 : w.heap.size + 2 ≤ w0.heap.size := by rw [hw0]; simp
  have hR0 : Arr w0 (w.heap.size + 1) 29 ZL := by
    rw [hw0, hZL]
    simpa using Arr.new (w.alloc (.cells FL.toArray 29)) 29 (Lib.byteCells zeros)
  have hF0 : Arr w0 w.heap.size 29 FL := by
    rw [hw0]
    exact (Arr.new w 29 FL).alloc _
  have Hget := Lib.hid (rget_any A n c L nm hsz (nn : Nat) w0 G (h.below hb0) hl o0 b0 0 hget GL hGL)
  have Hvs := Lib.hid h
  have HW0 := Lib.hid hw0
  have Hb0 := Lib.hid hb0
  have HZL := Lib.hid hZL
  have HGL := Lib.hid hGL
  have HFL := Lib.hid hFL
  have HG := Lib.hid hG
  have Hl := Lib.hid hl
  clear hw0 hZL hGL h hget hFL hG hb0 ho32 hl
  go_enter Tryz.func20, Tryz.ntmps20
  go_upto_region 1 with fail
  change Code.wp _ _ _ _ ((w.alloc (.cells FL.toArray 29)).alloc (.cells (Lib.byteCells zeros).toArray 29))
  rw [← HW0.out]
  clear HW0
  go_wp2_with fail
  refine Calls.mono Hget.out ?_
  rintro e w2 ⟨rfl, hb2⟩
  have hR2 := hR0.up hb2
  have hF2 := hF0.up hb2
  have hb2w : Below w.heap.size w w2 := Hb0.out.trans (hb2.mono Hb0.out.size)
  have hz2 : w.heap.size + 2 ≤ w2.heap.size := Nat.le_trans hz0 hb2.size
  clear hR0 hF0 hb2 Hget Hb0 hz0
  go_upto_region 2 with (first | (change wpList _ _ _ _ _ (w2.alloc (.cells (Lib.byteCells zeros).toArray 29)); refine wpList_store_row rfl _ _ _ rfl w2.heap.size GL.toArray rfl rfl 29 (Lib.byteCells zeros).toArray (heap_alloc_new w2 _) HGI.out.1 HGI.out.2 HG1.out ?_; obtain ⟨w3, hw3⟩ : ∃ x, x = (w2.alloc (.cells (Lib.byteCells zeros).toArray 29)).setRow w2.heap.size GL.toArray := ⟨_, rfl⟩; rw [← hw3]; obtain ⟨hP3, hb3⟩ := alloc_row w2 29 (Lib.byteCells zeros).toArray GL; rw [← hw3] at hP3 hb3; clear hw3))
  have hR3 := hR2.up hb3
  have hF3 := hF2.up hb3
  have hb3w : Below w.heap.size w w3 := hb2w.trans (hb3.mono hb2w.size)
  have hz3 : w.heap.size + 2 ≤ w3.heap.size := Nat.le_trans hz2 hb3.size
  have hwlt : w2.heap.size < w3.heap.size := hP3.lt
  have Hvs3 := Lib.hid (Hvs.out.below hb3w)
  clear hR2 hF2 hb2w hb3
  obtain ⟨b, off, rfl, hin, Ac, cc, a0, a1, a2, a3, hvx, hrow⟩ := Hvs3.out.at_ hLi
  have hcn : n ≤ c ∧ c ≤ 9223372036854775807 ∧ n ≤ 100000 := by
    obtain ⟨xs, hx, hn', hc, hm, _⟩ := Hvs.out
    have hl := Hl.out
    unfold maxLen at hm
    rw [← hx, List.length_map, hn'] at hl
    exact ⟨hc, by omega, hl⟩
  obtain ⟨YL, hYL⟩ : ∃ YL, YL = volC ⟨v, Ac, cc⟩ := ⟨_, rfl⟩
  have hYl : YL.length = 4 := by rw [hYL]; rfl
  rw [← hYL] at hrow
  obtain ⟨VZ, hVZ⟩ : ∃ CZ, CZ = [Value.string ⟨#[]⟩, .int .i64 0, .bool false, .slice none 0 0] := ⟨_, rfl⟩
  have HVZ := Lib.hid (fun w : World => show (zeroValue 71).run Tryz.prog w = .ok (.agg VZ.toArray) w by rw [hVZ]; exact vlZero12 w)
  have HYi := Lib.hid (show (Tryz.prog.info? 71).map (·.size) = some YL.length by rw [hYl]; exact vlSize)
  have HYj := Lib.hid (show (Tryz.prog.info? 71).map (·.size) = some YL.toArray.size by rw [List.size_toArray, hYl]; exact vlSize)
  have HY1 := Lib.hid (show YL.toArray.all (·.oneCell') = true by rw [hYL]; exact all_oneCell_toArray (volC_one _))
  have HYz := Lib.hid (show VZ.toArray.size = YL.toArray.size by rw [List.size_toArray, List.size_toArray, hYl, hVZ]; rfl)
  obtain ⟨w4, hw4⟩ : ∃ W, W = (w3.alloc (.cells VZ.toArray 71)).setRow w3.heap.size YL.toArray := ⟨_, rfl⟩
  obtain ⟨hY4, hb4⟩ := alloc_row w3 71 VZ.toArray YL
  rw [← hw4] at hY4 hb4
  have hR4 := hR3.up hb4
  have hF4 := hF3.up hb4
  have hP4 := hP3.up hb4
  have hb4w : Below w.heap.size w w4 := hb3w.trans (hb4.mono hb3w.size)
  have hz4 : w.heap.size + 2 ≤ w4.heap.size := Nat.le_trans hz3 hb4.size
  have hwlt4 : w3.heap.size < w4.heap.size := hY4.lt
  have hvx4 := hvx.keep hb4.size (fun b _ hlt => hb4.block b hlt) fun _ _ h => h
  obtain ⟨lx, hlx⟩ : ∃ z, v.cells.length = z := ⟨_, rfl⟩
  obtain ⟨vq, hvq⟩ : ∃ z, v.quota = z := ⟨_, rfl⟩
  have HY4 : Hid (∀ w', Arr w' w3.heap.size 71 YL → w'.cell? ⟨w3.heap.size, 1, none⟩ = some (.int .i64 (vq : Nat)) ∧ w'.cell? ⟨w3.heap.size, 2, none⟩ = some (.bool v.frozen) ∧ w'.cell? ⟨w3.heap.size, 3, none⟩ = some (.slice Ac lx cc)) := fun w' h => by
    rw [h.cell, h.cell, h.cell, hYL, ← hlx, ← hvq]
    exact ⟨rfl, rfl, rfl⟩
  obtain ⟨y1, y2, y3⟩ := HY4.out w4 hY4
  have hlc : lx ≤ cc ∧ cc ≤ 9223372036854775807 ∧ lx ≤ 1048576 := by
    have e1 : v.cells.length ≤ cc := hvx.le
    have e2 : cc ≤ maxLen := hvx.lim
    have e3 : v.cells.length ≤ 1048576 := hvx.len
    rw [hlx] at e1 e3
    unfold maxLen at e2
    omega
  have Hw4 := Lib.hid hw4
  have Hlx := Lib.hid hlx
  have Hvq := Lib.hid hvq
  have Hvx4 := Lib.hid hvx4
  have HY4a := Lib.hid hY4
  have Hb4 := Lib.hid hb4w
  have HF4 := Lib.hid hF4
  have Hf := Lib.hid (Hvs3.out.find nm hsz)
  have HLi := Lib.hid hLi
  rw [hi] at Hf
  clear hYL hYl hVZ hw4 hY4 hb4 hR3 hF3 hP3 hb3w hvx hvx4 hlx hvq a0 a1 a2 a3 hi hLi hF4 hb4w
  rw [hfr] at y2
  have hqq : put = false ∨ b0 = true ∨ (lx < vq) := by rw [← Hlx.out, ← Hvq.out]; exact hq
  clear hfr hq
  go_wp2_with fail
  refine Calls.mono Hf.out ?_
  rintro e w' ⟨rfl, rfl⟩
  clear Hf
  go_upto_region 6 with (first
    | (refine wpList_load_mid rfl _ _ rfl b (off + i * 4) rfl YL _ hrow Tryz.underlying71 rfl HYi.out ?_)
    | (refine wpList_allocZV rfl 71 rfl VZ.toArray (HVZ.out _) ?_)
    | (refine wpList_store_row rfl _ _ _ rfl w3.heap.size YL.toArray rfl rfl 71 VZ.toArray (heap_alloc_new w3 _) HYj.out HYz.out HY1.out ?_; rw [← Hw4.out]))
  clear hrow
  go_upto_region 8 with fail
  go_cut [61] (fun s61 wx => s61 = .bool false ∧ wx = w4)
  case first =>
    cases put with
    | false =>
      go_wp2_with fail
      go_meet
      exact ⟨rfl, rfl⟩
    | true =>
      cases b0 with
      | true =>
        go_wp2_with fail
        go_meet
        exact ⟨rfl, rfl⟩
      | false =>
        have hlq : lx < vq := hqq.elim (fun h => by cases h) fun h => h.elim (fun h => by cases h) id
        have hd : decide ((lx : Int) ≥ (vq : Int)) = false := by simp; omega
        have hd2 : decide (vq ≤ lx) = false := by simp; omega
        go_wp2_with fail
        go_meet
        exact ⟨rfl, rfl⟩
  case rest =>
    obtain ⟨rfl, rfl⟩ := hcut
    clear y1 y2 hqq
    obtain ⟨wv, hwv⟩ : ∃ z, z = wc := ⟨_, rfl⟩
    subst hwv
    have hb5 : Below wv.heap.size wv (wv.alloc (.cells #[] 73)) := (Below.refl _ _).alloc (Nat.le_refl _) _
    have hC5 : CRow (wv.alloc (.cells #[] 73)) wv.heap.size (.slice (some ⟨wv.heap.size, 0, none⟩) 0 0) [] := CRow.empty wv wv.heap.size (Nat.le_refl _)
    have HC5 := Lib.hid hC5
    have Hb5 := Lib.hid hb5
    clear hb5 hC5
    obtain ⟨KZ, hKZ⟩ : ∃ CZ, CZ = clZ := ⟨_, rfl⟩
    have HKZ := Lib.hid (fun w : World => show (zeroValue 73).run Tryz.prog w = .ok (.agg KZ.toArray) w by rw [hKZ]; exact klZero w)
    have HKl := Lib.hid (show KZ.length = 33 by rw [hKZ]; rfl)
    have HB1 := Lib.hid (show Tryz.prog.built 73 [(0, .int .i64 (nn : Nat)), (1, .agg FL.toArray)] = some (Value.int .i64 (nn : Nat) :: FL).toArray from cl_built _ FL (by rw [HFL.out, Lib.byteCells_length]; exact Hf32.out))
    obtain ⟨NL, hNL⟩ : ∃ z, z = (Value.int .i64 (nn : Nat) :: FL) := ⟨_, rfl⟩
    have HNc : Hid (NL = cellC (nn, f)) := by rw [hNL, HFL.out]; rfl
    have HNl := Lib.hid (show NL.length = 33 by rw [hNL, List.length_cons, HFL.out, Lib.byteCells_length, Hf32.out])
    rw [← hNL] at HB1
    clear hKZ hNL
    have HR4 := Lib.hid hR4
    have HP4 := Lib.hid hP4
    clear hR4 hP4 y3
    go_upto_region 12 with fail
    obtain ⟨w5, hw5⟩ : ∃ z, z = wv.alloc (.cells #[] 73) := ⟨_, rfl⟩
    change Code.wp _ _ _ _ (wv.alloc (.cells #[] 73))
    rw [← hw5] at HC5 Hb5 ⊢
    clear hw5
    go_wp2_with fail
    go_loopw [19, 20, 21] (fun t d i wr => ∃ j : Nat, j ≤ lx ∧ i = .int .i64 j ∧ (∃ acc dn, d = .bool dn ∧ CRow wr wv.heap.size t acc ∧ Hid (accC nn f (!put) (v.cells.take j) = (acc, dn))) ∧ Below wv.heap.size wv wr) (fun _ _ i _ => lx - (Go.RowKit.intOf i).toNat)
    case atStart => exact ⟨0, Nat.zero_le _, rfl, ⟨[], !put, rfl, HC5.out, by rw [List.take_zero]; rfl⟩, Hb5.out⟩
    case round =>
      obtain ⟨j, hj, rfl, ⟨acc, dn, rfl, hC, Hacc⟩, hbr⟩ := hrel
      have hYr := HY4a.out.below hbr hwlt4
      obtain ⟨_, _, y3⟩ := HY4.out wr hYr
      clear hYr
      by_cases hjl : j < lx
      · have hd3 : decide ((j : Int) < (lx : Int)) = true := by simp; omega
        have hjx : j < v.cells.length := by rw [Hlx.out]; exact hjl
        obtain ⟨d, hdj⟩ : ∃ z, v.cells[j]? = some z := ⟨_, List.getElem?_eq_getElem hjx⟩
        obtain ⟨cb, coff, hax, hcb, hx32, hrx⟩ := Hvx4.out.cell (x := ⟨v, Ac, cc⟩) hdj
        have hax' : Ac = some ⟨cb, coff, none⟩ := hax
        obtain ⟨XL, hXL⟩ : ∃ z, z = cellC d := ⟨_, rfl⟩
        have hXl : XL.length = 33 := by rw [hXL, cellC_length hx32]
        have hrX : wr.rangeAt cb (coff + j * 33) XL := fun t u ht => by
          rw [hXL] at ht
          exact (World.cell?_of_block (hbr.block cb hcb)).trans (hrx t u ht)
        rw [hax'] at y3
        have HXi := Lib.hid (show (Tryz.prog.info? 73).map (·.size) = some XL.length by rw [hXl]; exact clSize)
        have HXj := Lib.hid (show (Tryz.prog.info? 73).map (·.size) = some XL.toArray.size by rw [List.size_toArray, hXl]; exact clSize)
        have HX1 := Lib.hid (show XL.toArray.all (·.oneCell') = true by rw [hXL]; exact all_oneCell_toArray (cellC_one _))
        have HXz := Lib.hid (show KZ.toArray.size = XL.toArray.size by rw [List.size_toArray, List.size_toArray, HKl.out, hXl])
        obtain ⟨wa, hwa⟩ : ∃ W, W = (wr.alloc (.cells KZ.toArray 73)).setRow wr.heap.size XL.toArray := ⟨_, rfl⟩
        obtain ⟨hXa, hba⟩ := alloc_row wr 73 KZ.toArray XL
        rw [← hwa] at hXa hba
        have hCa := hC.up hba
        have hbaw : Below wv.heap.size wv wa := hbr.trans (hba.mono hbr.size)
        have hltC : ∀ g, u19.ownBlock = some g → g < wr.heap.size := fun g hg => (hC.lt g hg).2
        obtain ⟨cn, hcn'⟩ : ∃ z, d.1 = z := ⟨_, rfl⟩
        have x0 : wa.cell? ⟨wr.heap.size, 0, none⟩ = some (.int .i64 (cn : Nat)) := by rw [hXa.cell, hXL, ← hcn']; rfl
        have hF5 : Arr wa w.heap.size 29 FL := HF4.out.below hbaw (by omega)
        have Hst := Lib.hid (show accC nn f (!put) (v.cells.take (j + 1)) = stepC nn f (acc, dn) d by
          obtain ⟨hl, he⟩ := List.getElem?_eq_some_iff.1 hdj
          rw [List.take_succ_eq_append_getElem hl, he, accC_snoc, Hacc.out])
        have Hal := Lib.hid (show acc.length ≤ 1048577 by
          have := (acc_length nn f (!put) (v.cells.take j)).1
          rw [Hacc.out] at this
          have h3 : acc.length ≤ (v.cells.take j).length + 1 := this
          rw [List.length_take] at h3
          have h2 := hlc.2.2
          omega)
        have hwa1 : wr.heap.size < wa.heap.size := hXa.lt
        have hwas := hbaw.size
        have Hwa := Lib.hid hwa
        have HXL := Lib.hid hXL
        have HXl := Lib.hid hXl
        have Hd32 := Lib.hid hx32
        have Hcn := Lib.hid hcn'
        clear hdj hax hax' hrx hXL hXl hwa hba hbr hC hcn' hx32 hjx hcb
        go_upto_region 16 with (first
          | (refine wpList_load_mid rfl _ _ rfl cb (coff + j * 33) rfl XL _ hrX Tryz.underlying73 rfl HXi.out ?_)
          | (refine wpList_allocZV rfl 73 rfl KZ.toArray (HKZ.out _) ?_)
          | (refine wpList_store_row rfl _ _ _ rfl wr.heap.size XL.toArray rfl rfl 73 KZ.toArray (heap_alloc_new wr _) HXj.out HXz.out HX1.out ?_; rw [← Hwa.out]))
        clear hrX y3
        cases dn with
        | true =>
          by_cases hcc : cn = nn
          · have hne : ((cn : Int) == (nn : Int)) = true := by simp; omega
            have hdc := Hcn.out
            have h1 : d.1 = nn := by omega
            have Hnew := Lib.hid (show accC nn f (!put) (v.cells.take (j + 1)) = (acc, true) by rw [Hst.out]; unfold stepC; simp [h1])
            clear h1 hdc hcc
            have hl6 : acc.length ≤ 2000000 := by have := Hal.out; omega
            go_wp2_with fail
            go_roundw
            case rel => exact ⟨j + 1, by omega, by go_num, ⟨acc, true, rfl, hCa, Hnew⟩, hbaw⟩
            case measure => simp [Go.RowKit.intOf]; omega
          · have hne : ((cn : Int) == (nn : Int)) = false := by simp; omega
            have hdc := Hcn.out
            have h1 : d.1 ≠ nn := by omega
            have Hnew := Lib.hid (show accC nn f (!put) (v.cells.take (j + 1)) = ((acc ++ [d]), true) by rw [Hst.out]; unfold stepC; simp [h1])
            clear h1 hdc hcc
            have hl6 : acc.length ≤ 2000000 := by have := Hal.out; omega
            have hb8 : Below wa.heap.size wa (wa.alloc (.cells XL.toArray 73)) := (Below.refl _ _).alloc (Nat.le_refl _) _
            have hC8 := hCa.up hb8
            have hA8 := Lib.hid (Arr.new wa 73 XL)
            have hs8 : wv.heap.size ≤ (wa.alloc (.cells XL.toArray 73)).heap.size := Nat.le_trans hwas hb8.size
            go_wp2_with (first
              | (refine wpList_load_row rfl _ _ rfl wr.heap.size rfl 73 XL.toArray (0, 0) _ hXa Tryz.underlying73 rfl HXj.out ?_)
              | (refine wpList_build_cl rfl _ rfl XL HXl.out rfl ?_)
              | (refine wpList_append_cl rfl _ _ rfl hC8 hs8 rfl _ _ rfl d Hd32.out XL HXL.out hA8.out hl6 ?_; intro v9 w9 hC9 hg9))
            have hb9 : Below wv.heap.size wv w9 := (hbaw.trans (hb8.mono hwas)).grown hg9 hs8 fun g hg => (hC8.lt g hg).1
            clear hg9 hC8 hA8 hs8 hb8
            go_wp2_with fail
            go_roundw
            case rel => exact ⟨j + 1, by omega, by go_num, ⟨(acc ++ [d]), true, rfl, hC9, Hnew⟩, hb9⟩
            case measure => simp [Go.RowKit.intOf]; omega
        | false =>
          by_cases hlt2 : cn < nn
          · have hge : decide ((cn : Int) ≥ (nn : Int)) = false := by simp; omega
            have hge2 : decide (nn ≤ cn) = false := by simp; omega
            have hne : ((cn : Int) == (nn : Int)) = false := by simp; omega
            have hdc := Hcn.out
            have h1 : d.1 ≠ nn := by omega
            have h2 : ¬ nn ≤ d.1 := by omega
            have Hnew := Lib.hid (show accC nn f (!put) (v.cells.take (j + 1)) = ((acc ++ [d]), false) by rw [Hst.out]; unfold stepC; simp [h1, h2])
            clear h1 hdc h2
            clear hlt2
            have hl6 : acc.length ≤ 2000000 := by have := Hal.out; omega
            have hb8 : Below wa.heap.size wa (wa.alloc (.cells XL.toArray 73)) := (Below.refl _ _).alloc (Nat.le_refl _) _
            have hC8 := hCa.up hb8
            have hA8 := Lib.hid (Arr.new wa 73 XL)
            have hs8 : wv.heap.size ≤ (wa.alloc (.cells XL.toArray 73)).heap.size := Nat.le_trans hwas hb8.size
            go_wp2_with (first
              | (refine wpList_load_row rfl _ _ rfl wr.heap.size rfl 73 XL.toArray (0, 0) _ hXa Tryz.underlying73 rfl HXj.out ?_)
              | (refine wpList_build_cl rfl _ rfl XL HXl.out rfl ?_)
              | (refine wpList_append_cl rfl _ _ rfl hC8 hs8 rfl _ _ rfl d Hd32.out XL HXL.out hA8.out hl6 ?_; intro v9 w9 hC9 hg9))
            have hb9 : Below wv.heap.size wv w9 := (hbaw.trans (hb8.mono hwas)).grown hg9 hs8 fun g hg => (hC8.lt g hg).1
            clear hg9 hC8 hA8 hs8 hb8
            go_wp2_with fail
            go_roundw
            case rel => exact ⟨j + 1, by omega, by go_num, ⟨(acc ++ [d]), false, rfl, hC9, Hnew⟩, hb9⟩
            case measure => simp [Go.RowKit.intOf]; omega
          · by_cases hcc : cn = nn
            · have hge : decide ((cn : Int) ≥ (nn : Int)) = true := by simp; omega
              have hge2 : decide (nn ≤ cn) = true := by simp; omega
              have hne : ((cn : Int) == (nn : Int)) = true := by simp; omega
              have hdc := Hcn.out
              have h1 : d.1 = nn := by omega
              have Hnew := Lib.hid (show accC nn f (!put) (v.cells.take (j + 1)) = ((acc ++ [(nn, f)]), true) by rw [Hst.out]; unfold stepC; simp [h1])
              clear h1 hdc hcc
              clear hlt2
              have hb6 : Below wa.heap.size wa (wa.alloc (.cells NL.toArray 73)) := (Below.refl _ _).alloc (Nat.le_refl _) _
              have hC6 := hCa.up hb6
              have hA6 := Lib.hid (Arr.new wa 73 NL)
              have hs6 : wv.heap.size ≤ (wa.alloc (.cells NL.toArray 73)).heap.size := Nat.le_trans hwas hb6.size
              have hl6 : acc.length ≤ 2000000 := by have := Hal.out; omega
              go_upto_region 19 with (first
                | (refine wpList_load_row rfl _ _ rfl w.heap.size rfl 29 FL.toArray (0, 0) _ hF5 Tryz.underlying29 rfl HFi.out ?_)
                | (refine wpList_builtV rfl _ _ rfl _ rfl NL.toArray HB1.out ?_)
                | (refine wpList_build_cl rfl _ rfl NL HNl.out rfl ?_)
                | (refine wpList_append_cl rfl _ _ rfl hC6 hs6 rfl _ _ rfl (nn, f) Hf32.out NL HNc.out hA6.out hl6 ?_; intro v7 w7 hC7 hg7))
              have hX7 : Arr w7 wr.heap.size 73 XL := (hg7.block _ (by simp; omega) fun e => by have := hltC _ e.symm; omega).trans (hXa.up hb6)
              have hb7 : Below wv.heap.size wv w7 := (hbaw.trans (hb6.mono hwas)).grown hg7 hs6 fun g hg => (hC6.lt g hg).1
              have x7 : w7.cell? ⟨wr.heap.size, 0, none⟩ = some (.int .i64 (cn : Nat)) := by rw [hX7.cell, HXL.out, ← Hcn.out]; rfl
              have hs7 := hb7.size
              have hl7 : (acc ++ [(nn, f)]).length ≤ 2000000 := by rw [List.length_append]; have := Hal.out; simp only [List.length_cons, List.length_nil]; omega
              have hw7lt : wr.heap.size < w7.heap.size := hX7.lt
              clear hg7 hC6 hA6 hs6 hb6
              go_wp2_with fail
              go_roundw
              case rel => exact ⟨j + 1, by omega, by go_num, ⟨(acc ++ [(nn, f)]), true, rfl, hC7, Hnew⟩, hb7⟩
              case measure => simp [Go.RowKit.intOf]; omega
            · have hge : decide ((cn : Int) ≥ (nn : Int)) = true := by simp; omega
              have hge2 : decide (nn ≤ cn) = true := by simp; omega
              have hne : ((cn : Int) == (nn : Int)) = false := by simp; omega
              have hdc := Hcn.out
              have h1 : d.1 ≠ nn := by omega
              have h2 : nn ≤ d.1 := by omega
              have Hnew := Lib.hid (show accC nn f (!put) (v.cells.take (j + 1)) = (((acc ++ [(nn, f)]) ++ [d]), true) by rw [Hst.out]; unfold stepC; simp [h1, h2])
              clear h1 hdc h2 hcc
              clear hlt2
              have hb6 : Below wa.heap.size wa (wa.alloc (.cells NL.toArray 73)) := (Below.refl _ _).alloc (Nat.le_refl _) _
              have hC6 := hCa.up hb6
              have hA6 := Lib.hid (Arr.new wa 73 NL)
              have hs6 : wv.heap.size ≤ (wa.alloc (.cells NL.toArray 73)).heap.size := Nat.le_trans hwas hb6.size
              have hl6 : acc.length ≤ 2000000 := by have := Hal.out; omega
              go_upto_region 19 with (first
                | (refine wpList_load_row rfl _ _ rfl w.heap.size rfl 29 FL.toArray (0, 0) _ hF5 Tryz.underlying29 rfl HFi.out ?_)
                | (refine wpList_builtV rfl _ _ rfl _ rfl NL.toArray HB1.out ?_)
                | (refine wpList_build_cl rfl _ rfl NL HNl.out rfl ?_)
                | (refine wpList_append_cl rfl _ _ rfl hC6 hs6 rfl _ _ rfl (nn, f) Hf32.out NL HNc.out hA6.out hl6 ?_; intro v7 w7 hC7 hg7))
              have hX7 : Arr w7 wr.heap.size 73 XL := (hg7.block _ (by simp; omega) fun e => by have := hltC _ e.symm; omega).trans (hXa.up hb6)
              have hb7 : Below wv.heap.size wv w7 := (hbaw.trans (hb6.mono hwas)).grown hg7 hs6 fun g hg => (hC6.lt g hg).1
              have x7 : w7.cell? ⟨wr.heap.size, 0, none⟩ = some (.int .i64 (cn : Nat)) := by rw [hX7.cell, HXL.out, ← Hcn.out]; rfl
              have hs7 := hb7.size
              have hl7 : (acc ++ [(nn, f)]).length ≤ 2000000 := by rw [List.length_append]; have := Hal.out; simp only [List.length_cons, List.length_nil]; omega
              have hw7lt : wr.heap.size < w7.heap.size := hX7.lt
              clear hg7 hC6 hA6 hs6 hb6
              have hb8 : Below w7.heap.size w7 (w7.alloc (.cells XL.toArray 73)) := (Below.refl _ _).alloc (Nat.le_refl _) _
              have hC8 := hC7.up hb8
              have hA8 := Lib.hid (Arr.new w7 73 XL)
              have hs8 : wv.heap.size ≤ (w7.alloc (.cells XL.toArray 73)).heap.size := Nat.le_trans hs7 hb8.size
              go_wp2_with (first
                | (refine wpList_load_row rfl _ _ rfl wr.heap.size rfl 73 XL.toArray (0, 0) _ hX7 Tryz.underlying73 rfl HXj.out ?_)
                | (refine wpList_build_cl rfl _ rfl XL HXl.out rfl ?_)
                | (refine wpList_append_cl rfl _ _ rfl hC8 hs8 rfl _ _ rfl d Hd32.out XL HXL.out hA8.out hl7 ?_; intro v9 w9 hC9 hg9))
              have hb9 : Below wv.heap.size wv w9 := (hb7.trans (hb8.mono hs7)).grown hg9 hs8 fun g hg => (hC8.lt g hg).1
              clear hg9 hC8 hA8 hs8 hb8
              go_wp2_with fail
              go_roundw
              case rel => exact ⟨j + 1, by omega, by go_num, ⟨((acc ++ [(nn, f)]) ++ [d]), true, rfl, hC9, Hnew⟩, hb9⟩
              case measure => simp [Go.RowKit.intOf]; omega
      · obtain rfl : j = lx := by omega
        have hd3 : decide (j < j) = false := by simp
        have Hfull := Lib.hid (show accC nn f (!put) v.cells = (acc, dn) by rw [← Hacc.out, List.take_of_length_le (by rw [Hlx.out]; exact Nat.le_refl _)])
        have Hal := Lib.hid (show acc.length ≤ 1048577 by
          have := (acc_length nn f (!put) v.cells).1
          rw [Hfull.out, Hlx.out] at this
          have h3 : acc.length ≤ j + 1 := this
          have h2 := hlc.2.2
          omega)
        have HC := Lib.hid hC
        have Hbr := Lib.hid hbr
        have hF6 : Arr wr w.heap.size 29 FL := HF4.out.below hbr (by omega)
        have hsz6 := hbr.size
        clear hC hbr
        go_upto_if 103 with (fail)
        clear y3
        obtain ⟨csf, hcsf⟩ : ∃ z, z = finC (accC nn f (!put) v.cells) nn f := ⟨_, rfl⟩
        have Hcsf := Lib.hid hcsf
        clear hcsf
        go_cut [19] (fun t wx => CRow wx wv.heap.size t csf ∧ Below wv.heap.size wv wx)
        case first =>
          cases dn with
          | true =>
            have hfe : csf = acc := by rw [Hcsf.out, Hfull.out]; rfl
            have HCf : Hid (CRow wr wv.heap.size u19 csf) := by rw [hfe]; exact HC
            clear hfe
            go_wp2_with fail
            go_meet
            exact ⟨HCf.out, Hbr.out⟩
          | false =>
            have hfe := Lib.hid (show csf = acc ++ [(nn, f)] by rw [Hcsf.out, Hfull.out]; rfl)
            have hb6 : Below wr.heap.size wr (wr.alloc (.cells NL.toArray 73)) := (Below.refl _ _).alloc (Nat.le_refl _) _
            have hC6 := HC.out.up hb6
            have hA6 := Lib.hid (Arr.new wr 73 NL)
            have hs6 : wv.heap.size ≤ (wr.alloc (.cells NL.toArray 73)).heap.size := Nat.le_trans hsz6 hb6.size
            have hl6 : acc.length ≤ 2000000 := by have := Hal.out; omega
            go_wp2_with (first
              | (refine wpList_load_row rfl _ _ rfl w.heap.size rfl 29 FL.toArray (0, 0) _ hF6 Tryz.underlying29 rfl HFi.out ?_)
              | (refine wpList_builtV rfl _ _ rfl _ rfl NL.toArray HB1.out ?_)
              | (refine wpList_build_cl rfl _ rfl NL HNl.out rfl ?_)
              | (refine wpList_append_cl rfl _ _ rfl hC6 hs6 rfl _ _ rfl (nn, f) Hf32.out NL HNc.out hA6.out hl6 ?_; intro v7 w7 hC7 hg7))
            have hb7 : Below wv.heap.size wv w7 := (Hbr.out.trans (hb6.mono hsz6)).grown hg7 hs6 fun g hg => (hC6.lt g hg).1
            rw [← hfe.out] at hC7
            clear hg7 hC6 hA6 hs6 hb6
            go_meet
            exact ⟨hC7, hb7⟩
        case rest =>
          obtain ⟨hC7, hb7⟩ := hcut
          have hb7w : Below w.heap.size w wc := Hb4.out.trans (hb7.mono Hb4.out.size)
          obtain ⟨A5, c5, h5e, h5c, h5m, h5at⟩ := hC7.slice2
          subst h5e
          obtain ⟨n5, hn5⟩ : ∃ z, csf.length = z := ⟨_, rfl⟩
          rw [hn5] at h5c hC7 ⊢
          have hR7 := HR4.out.below hb7 (by omega)
          have hP7 := HP4.out.below hb7 (by omega)
          have h7s : wv.heap.size ≤ wc.heap.size := hb7.size
          have HCr := Lib.hid hC7
          have H5at := Lib.hid h5at
          have Hn5 := Lib.hid hn5
          obtain ⟨xs, hxs, hxn, hnc7, hcm7, hVx, _⟩ := Hvs.out
          have hx : ∃ x, xs[i]? = some x ∧ x.v = v := by
            have e := HLi.out
            rw [← hxs, List.getElem?_map, Option.map_eq_some_iff] at e
            exact e
          obtain ⟨x, hxi, hxv⟩ := hx
          obtain ⟨wd, hwd⟩ : ∃ z, z = wc.alloc (.cells #[] 71) := ⟨_, rfl⟩
          have hbd : Below wc.heap.size wc wd := by rw [hwd]; exact (Below.refl _ _).alloc (Nat.le_refl _) _
          have hRd0 : VRow wd wv.heap.size G (.slice (some ⟨wc.heap.size, 0, none⟩) 0 0) [] := by rw [hwd]; exact VRow.empty wc wv.heap.size G hb7.size
          have hGv : ∀ b, G b → b < wv.heap.size := fun b hb => by have := HG.out b hb; omega
          have hbdw : Below w.heap.size w wd := hb7w.trans (hbd.mono hb7w.size)
          have hVd := hVx.below hbdw
          have hds : wv.heap.size ≤ wd.heap.size := Nat.le_trans h7s hbd.size
          have Hwd := Lib.hid hwd
          have Hxn := Lib.hid hxn
          have Hxs := Lib.hid hxs
          have Hxi := Lib.hid hxi
          have Hxv := Lib.hid hxv
          have hlim : ([] : List Vx).length + n ≤ 1000000 := by simp only [List.length_nil]; omega
          clear hwd hxn hxs hxi hxv hC7 hn5 h5at
          go_upto_region 24 with (first
            | (at_builtin; (try change wpList _ _ _ _ _ (wc.alloc (.cells #[] 71))); (try rw [← Hwd.out]); refine wpList_append_vls rfl _ _ rfl hRd0 hds rfl _ _ _ rfl xs Hxn.out hVd hGv hlim ?_; intro v8 w8 hV8 hg8))
          rw [List.nil_append] at hV8
          have hg8' : ∀ k, k < wd.heap.size → k ≠ wc.heap.size → w8.heap[k]? = wd.heap[k]? := fun k hk hne => hg8.block k hk fun e => hne (by
            rw [show (Value.slice (some ⟨wc.heap.size, 0, none⟩) 0 0).ownBlock = some wc.heap.size from rfl] at e
            injection e)
          have hb8 : Below wc.heap.size wc w8 := hbd.grown hg8 hbd.size fun g hg => by
            rw [show (Value.slice (some ⟨wc.heap.size, 0, none⟩) 0 0).ownBlock = some wc.heap.size from rfl] at hg
            injection hg with hg
            omega
          have hV8c := hV8
          rcases hV8.2.2 with ⟨hv8, hn8⟩ | ⟨g8, c8, cur8, hv8, hB8, hg8b, hle8, hcap8, hcs8, htk8⟩
          · rw [Hxn.out] at hn8
            omega
          rw [Hxn.out] at hv8
          subst hv8
          have hn8c : n ≤ c8 := by rw [← Hxn.out]; exact hle8
          have hi8 : i * 4 + 3 < cur8.size := by rw [hcs8]; omega
          have hc8m : c8 ≤ 9223372036854775807 := by unfold maxLen at hcap8; omega
          have hcell8 : w8.cell? ⟨g8, i * 4 + 3, none⟩ = some (cur8[i * 4 + 3]'hi8) := by rw [cell_of_row w8 g8 _ cur8 71 (0, 0) hg8b]; simp [hi8]
          have hfrz8 : w8.frozen? ⟨g8, i * 4 + 3, none⟩ = false := frozen_of_row w8 _ _ _ _ hg8b
          have hR8 := hR7.below hb8 (by omega)
          have hP8 := hP7.below hb8 (by omega)
          have hC8 := HCr.out.up hb8
          have hne8 := rows_apart hC8.2 hV8c.2 (by decide)
          obtain ⟨x', hx'⟩ : ∃ z : Vx, z = ⟨{ v with cells := csf }, A5, c5⟩ := ⟨_, rfl⟩
          have hok' : VxOk w8 (fun b => wv.heap.size ≤ b ∧ b ≠ g8) x' := by
            rw [hx']
            have hvx := Hvx4.out
            refine ⟨by show csf.length ≤ c5; rw [Hn5.out]; exact h5c, h5m, ?_, hvx.n20, hvx.q, ?_⟩
            · show CsAt w8 _ A5 csf
              exact H5at.out.keep hb8.size (fun b _ hlt => hb8.block b hlt) fun b hlt hb => ⟨hb.1, fun e => hne8 b (by rw [← Hn5.out]; exact hb.2) (by rw [e]; rfl)⟩
            · show csf.length ≤ 1048576
              rw [Hcsf.out]; exact hfin
          have hturn := VRow.turn (G' := fun b => wv.heap.size ≤ b) (by rw [Hxn.out]; exact hV8c) Hxi.out (x' := x') (by rw [hx', Hxv.out]) (by rw [hx', Hxv.out]) (by rw [hx', Hxv.out]) hok'
          have hterm : (Value.slice x'.adr x'.v.cells.length x'.cap) = .slice A5 n5 c5 := by rw [hx']; show Value.slice A5 csf.length c5 = _; rw [Hn5.out]
          rw [hterm] at hturn
          have hR9 := hR8.setOther (p := ⟨g8, i * 4 + 3, none⟩) (by show w.heap.size + 1 ≠ g8; omega) (.slice A5 n5 c5)
          have hP9 := hP8.setOther (p := ⟨g8, i * 4 + 3, none⟩) (by show w2.heap.size ≠ g8; omega) (.slice A5 n5 c5)
          have hb9 : Below w.heap.size w (w8.setCell ⟨g8, i * 4 + 3, none⟩ (.slice A5 n5 c5)) := (hb7w.trans (hb8.mono hb7w.size)).setCell (by show w.heap.size ≤ g8; omega) _
          have Hturn := Lib.hid hturn
          have Hset := Lib.hid (show (xs.set i x').map (·.v) = L.set i { v with cells := csf } by rw [List.map_set, Hxs.out, hx'])
          have Hlen := Lib.hid (show (xs.set i x').length = n by rw [List.length_set, Hxn.out])
          have Hcap8 := Lib.hid hcap8
          clear hturn hterm hok' hx' hC8 hne8 hg8 hg8' hg8b htk8 hcs8 hle8 hV8 hV8c hB8 hRd0 hVd hbd hbdw hb8 hVx hcap8 hR7 hP7 hR8 hP8
          go_upto_region 25 with fail
          obtain ⟨w9, hw9⟩ : ∃ z, z = w8.setCell ⟨g8, i * 4 + 3, none⟩ (.slice A5 n5 c5) := ⟨_, rfl⟩
          rw [← hw9] at hR9 hP9 hb9 Hturn ⊢
          clear hw9 hcell8 hfrz8
          have hRx := hR9
          have hPx := hP9
          refine wp_region_held_drew (S := fun w' => Arr w' w2.heap.size 29 GL) (by kernel_rfl) hPx (fun hHeld => ?_)
          refine anyH_take (i := 0) (v := .slice (some ⟨g8, 0, none⟩) n c8) (some 118) rfl rfl (by kernel_rfl) (by kernel_rfl) (by kernel_rfl) (fun _ _ _ h => h) (Or.inl ⟨by rfl, fun w' hw => by (go_simp)⟩) (by assumption) ?_
          simp only [Act.put, List.setIfInBounds_toArray, List.set_cons_zero, List.set_cons_succ]
          refine anyH_take (i := 1) (some 119) rfl rfl (by kernel_rfl) (by kernel_rfl) (by kernel_rfl) (fun _ _ _ h => h) (yieldsIf_load_mid (by rfl) 29 (.tmp 14) rfl w2.heap.size 0 rfl GL _ (fun w' h => h.range) Tryz.underlying29 rfl HGl.out) (by assumption) ?_
          simp only [Act.put, List.setIfInBounds_toArray, List.set_cons_zero, List.set_cons_succ]
          refine anyH_take (i := 2) (v := .bool b0) (some 120) rfl rfl (by kernel_rfl) (by kernel_rfl) (by kernel_rfl) (fun _ _ _ h => h) (Or.inl ⟨by rfl, fun w' hw => by (go_simp)⟩) (by assumption) ?_
          simp only [Act.put, List.setIfInBounds_toArray, List.set_cons_zero, List.set_cons_succ]
          refine anyH_take (i := 3) (v := .slice (some ⟨g8, 0, none⟩) n c8) (some 10) rfl rfl (by kernel_rfl) (by kernel_rfl) (by kernel_rfl) (fun _ _ _ h => h) (Or.inl ⟨by rfl, fun w' hw => by (go_simp)⟩) (by assumption) ?_
          simp only [Act.put, List.setIfInBounds_toArray, List.set_cons_zero, List.set_cons_succ]
          refine wpAnyH_ready (rs := [4]) (by kernel_rfl) (by simp) ?_
          refine AllReadyH.cons rfl (fun K hK => ?_) AllReadyH.nil
          rw [if_pos (by rfl)]
          refine wp_store_row_to rfl _ _ _ rfl (w.heap.size + 1) GL.toArray rfl rfl 29 ZL.toArray hRx HGI.out.1 HGz.out HG1.out ?_
          refine hK.out _ _ (Arr.rowOther (show Arr (World.drewN _ 1) _ _ _ from hPx) (by omega) _) (fun hHeldy => ?_)
          clear hK K
          try simp only [Act.put, List.setIfInBounds_toArray, List.set_cons_zero, List.set_cons_succ]
          refine anyH_take (i := 5) (v := .bool b0) (some 12) rfl rfl (by kernel_rfl) (by kernel_rfl) (by kernel_rfl) (fun _ _ _ h => h) (Or.inl ⟨by rfl, fun w' hw => by (go_simp)⟩) (by assumption) ?_
          simp only [Act.put, List.setIfInBounds_toArray, List.set_cons_zero, List.set_cons_succ]
          refine anyH_take (i := 6) (v := .int .i64 0) (some 13) rfl rfl (by kernel_rfl) (by kernel_rfl) (by kernel_rfl) (fun _ _ _ h => h) (Or.inl ⟨by rfl, fun w' hw => by (go_simp)⟩) (by assumption) ?_
          simp only [Act.put, List.setIfInBounds_toArray, List.set_cons_zero, List.set_cons_succ]
          refine wpAnyH_done (by kernel_rfl) ?_ _
          go_wp2_with fail
          have hset := (show Arr (World.drewN _ 1) (w.heap.size + 1) 29 ZL from hRx).setRow GL
          have HE := Lib.hid (below_row (Below.dN hb9 1) (show w.heap.size ≤ w.heap.size + 1 by omega) GL.toArray)
          have hvsl : VSl ((w9.drewN 1).setRow (w.heap.size + 1) GL.toArray) (fun b => G b ∨ w.heap.size ≤ b) (some ⟨g8, 0, none⟩) n c8 (L.set i { v with cells := csf }) := by
            refine ⟨xs.set i x', Hset.out, Hlen.out, hn8c, Hcap8.out, ?_, .inr ⟨g8, 0, rfl⟩⟩
            refine Hturn.out.keep (by simp) (fun b hb hlt => ?_) fun b _ hb => ?_
            · refine (setRow_other _ _ _ _ ?_).trans rfl
              rcases hb with hb | hb | hb
              · have := HG.out b hb; omega
              · omega
              · omega
            · rcases hb with hb | hb | hb
              · exact .inl hb
              · exact .inr (by omega)
              · exact .inr (by omega)
          rw [← Hcsf.out]
          (try simp only [Exit.inBlock, Exit.then])
          obtain ⟨V, hV⟩ : ∃ V, V = Value.tuple #[.slice (some ⟨g8, 0, none⟩) n c8, .agg GL.toArray, .bool b0, .int .i64 0] := ⟨_, rfl⟩
          refine bodyPost_ret (v := V) ?hx1 ?h2 ?h3
          case hx1 => rw [hV]; exact results_tct (fn := Tryz.f20) (by rfl) _ _ (w.heap.size + 1) 29 GL.toArray (0, 0) _ (by rfl) _ _ _ (by rfl) (by rfl) (by rfl) hset Tryz.underlying29 rfl HGI.out.1
          case h2 => rfl
          case h3 => exact ⟨_, _, _, by rw [hV, HGL.out], hvsl, HE.out⟩

end Go.Proofs.YtcajhndhjlfmaaaGreat

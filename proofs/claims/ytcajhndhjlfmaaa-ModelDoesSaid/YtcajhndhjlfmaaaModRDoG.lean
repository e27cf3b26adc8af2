/-
  The document's Do: snapshot and clone, made.
-/
import Derived.Test.YtcajhndhjlfmaaaModRDoC
namespace Go.Proofs.Ytcajhndhjlfmaaa
open Go.RowKit
set_option linter.unusedVariables false
set_option linter.unusedSimpArgs false
set_option maxRecDepth 100000

theorem yieldsIf_build {P : Program} {ops : Array Oper} {S : World → Prop} {op : Oper} {a : Act} (hw : Region.wanted op (yielded ops a.tmps) = true) (t : TypeId) (parts : Array (Nat × Operand)) (ho : op.op = .build t parts)
    (ps : List (Nat × Value)) (hp : parts.toList.map (fun x => (x.1, a.eval x.2)) = ps) (cells : Array Value) (hf : P.built t ps = some cells) : YieldsIf P ops S op (.agg cells) a :=
  .inl ⟨hw, fun w hw' => by
    unfold execOp
    simp only [ho, Sem.run_bind, run_build w t _ cells (show P.built t (parts.map fun (i, x) => (i, a.eval x)).toList = some cells by rw [← hf, ← hp]; simp), Result.andThen_ok, Sem.run_pure]⟩
theorem cell_ltC {W : World} {p : Addr} {v : Value} (h : W.cell? p = some v) : p.block < W.heap.size := by
  rcases Nat.lt_or_ge p.block W.heap.size with h1 | h1
  · exact h1
  · simp [World.cell?, Array.getElem?_eq_none h1] at h

theorem ans_b (AL : List Value) (h : AL = ansC 0 false (Lib.byteCells zB) nilS) : Try.prog.built 47 [] = some AL.toArray := by rw [h, ans_fill]; rfl

set_option maxHeartbeats 32000000 in
theorem rdo_cpgood (A : Option Addr) (n c : Nat) (L : List Vol) (o : Op15) (ho : OpOk o) (OL : List Value) (hOL : OL = opC o) (w : World) (G : Nat → Prop) (h : VSl w G A n c L) (hG : ∀ b, G b → b < w.heap.size) (hl : L.length ≤ 100000) (hrise : RiseV L) (hok : ∀ v ∈ L, ImgOk v) (h1 : o.kind = 6 ∨ o.kind = 7) (v : Vol) (hf : findV L o.name = some v) (hmy : (namedB o.other.data.toList && quotaB (cpQ L o)) = true) (hno : hasV L o.other = false) (hle : ¬ cpQ L o < v.cells.length) :
    Calls Try.prog 15 #[.slice A n c, .agg OL.toArray] w fun e w' => RDoPost o w G L e w' := by
  obtain ⟨hk0, hk1, hk2, hk3, hk4⟩ := opC_at hOL
  obtain ⟨W1, hW1⟩ : ∃ z, z = w.alloc (.cells OL.toArray 44) := ⟨_, rfl⟩
  have hb1 : Below w.heap.size w W1 := by rw [hW1]; exact (Below.refl _ _).alloc (Nat.le_refl _) _
  have hA1 : Arr W1 w.heap.size 44 OL := by rw [hW1]; exact Arr.new w _ _
  have hs1 : W1.heap.size = w.heap.size + 1 := by rw [hW1]; simp
  obtain ⟨AZ, hAZ⟩ : ∃ z, z = ansZ := ⟨_, rfl⟩
  obtain ⟨W0, hW0⟩ : ∃ z, z = W1.alloc (.cells AZ.toArray 47) := ⟨_, rfl⟩
  have hAn : Arr W0 (w.heap.size + 1) 47 AZ := by rw [hW0, ← hs1]; exact Arr.new W1 _ _
  have hb0 : Below W1.heap.size W1 W0 := by rw [hW0]; exact (Below.refl _ _).alloc (Nat.le_refl _) _
  have HWx : Hid (W0 = (w.alloc (.cells OL.toArray 44)).alloc (.cells ansZ.toArray 47)) := Lib.hid (by rw [hW0, hW1, hAZ])
  replace hA1 := hA1.up hb0
  replace hb1 := hb1.trans (hb0.mono hb1.size)
  obtain ⟨g, hg⟩ : ∃ z, z = w.heap.size := ⟨_, rfl⟩
  rw [← hg] at hA1 hAn
  have hgl : w.heap.size ≤ g + 1 := by omega
  have hg1 := hAn.lt
  obtain ⟨nm, hnm⟩ : ∃ z, z = o.name := ⟨_, rfl⟩
  obtain ⟨ot, hot⟩ : ∃ z, z = o.other := ⟨_, rfl⟩
  obtain ⟨kd, hkd⟩ : ∃ z, z = o.kind := ⟨_, rfl⟩
  obtain ⟨qt, hqt⟩ : ∃ z, z = o.quota := ⟨_, rfl⟩
  obtain ⟨nu, hnu⟩ : ∃ z, z = o.num := ⟨_, rfl⟩
  have hsz := ho.n1
  have hsz2 := ho.n2
  have hkr := ho.i3
  rw [← hkd] at hkr
  rw [← hnm] at hk1 hsz
  rw [← hot] at hk2 hsz2
  rw [← hkd] at hk0
  rw [← hqt] at hk4
  rw [← hnu] at hk3
  have hc0 : W0.cell? ⟨g, 0, none⟩ = some (.int .i64 kd) := by rw [hA1.cell]; exact hk0
  have hc1 : W0.cell? ⟨g, 1, none⟩ = some (.string nm) := by rw [hA1.cell]; exact hk1
  have hc2 : W0.cell? ⟨g, 2, none⟩ = some (.string ot) := by rw [hA1.cell]; exact hk2
  have hc3 : W0.cell? ⟨g, 3, none⟩ = some (.int .i64 nu) := by rw [hA1.cell]; exact hk3
  have hc4 : W0.cell? ⟨g, 4, none⟩ = some (.int .i64 qt) := by rw [hA1.cell]; exact hk4
  have HAi := Lib.hid (fun (k : Int) (AL : List Value) (h : AL = ansC k false (Lib.byteCells zB) nilS) => show ((Try.prog.info? 47).map (·.size) = some AL.toArray.size ∧ AZ.toArray.size = AL.toArray.size) ∧ AL.toArray.all (·.oneCell') = true ∧ Try.prog.built 47 [(0, .int .i64 k)] = some AL.toArray by
    subst h
    rw [List.size_toArray, List.size_toArray, ansC_length (by simp [Lib.byteCells, zB]), hAZ]
    exact ⟨⟨ansSize, rfl⟩, ansC_one rfl, ans_b0 k⟩)
  have HAn := Lib.hid hAn
  have HA1 := Lib.hid hA1
  have Hb1 := Lib.hid hb1
  have Ho := Lib.hid ho
  have HOL := Lib.hid hOL
  have HV0 := Lib.hid (h.below hb1)
  have Hf := Lib.hid ((h.below hb1).find nm hsz)
  have HV := Lib.hid h
  have HG := Lib.hid hG
  have HG0 := Lib.hid (show ∀ b, G b → b < W0.heap.size from fun b hb => Nat.lt_of_lt_of_le (hG b hb) hb1.size)
  have Hg := Lib.hid hg
  have Hl := Lib.hid hl
  have Hrise := Lib.hid hrise
  have Hok := Lib.hid hok
  have Hkd := Lib.hid hkd
  have Hnm := Lib.hid hnm
  have Hnu := Lib.hid hnu
  have Hqt := Lib.hid hqt
  have Hot := Lib.hid hot
  have Hfin := Lib.hid (fun (w5 : World) (hb : Below W0.heap.size W0 w5) (A' : Option Addr) (n' c' : Nat) (L' : List Vol) (hv : VSl w5 (fun b => G b ∨ W0.heap.size ≤ b) A' n' c' L') (AL : List Value) => fin_vs hb1 hgl (by omega) hG hb hv AL)
  have Hdo := Lib.hid (show doL L o = (if kd = 1 then ePair (createL L nm qt) else if kd = 2 then ePair (deleteL L nm) else if kd = 3 then ePair (writeL L nm nu o.blk) else if kd = 4 then ePair (trimL L nm nu) else if kd = 5 then (L, readL L nm nu) else if kd = 6 then ePair (copyL L nm ot (quotaL L nm) true) else if kd = 7 then ePair (copyL L nm ot qt false) else if kd = 8 then (L, ⟨0, false, zB, L.map (·.name)⟩) else (L, aE 1)) by rw [hkd, hnm, hot, hqt, hnu]; rfl)
  have HAZ := Lib.hid hAZ
  clear hnm hot hkd hqt hnu hk0 hk1 hk2 hk3 hk4 hOL ho h hl hb1 hA1 hb0 hs1 hW0 hW1 hAn hg hG hrise hok hgl hAZ
  have hqy := quotaB_yes (Bool.and_eq_true_iff.1 hmy).2
  obtain ⟨qn, hq⟩ := Int.eq_ofNat_of_zero_le hqy.1
  rw [hq] at hqy hmy hle
  have hq20 := hqy.2
  rw [← Hot.out] at hmy hno
  have Hmay := Lib.hid (rmay_any ot hsz2 (qn : Nat) W0 true hmy)
  have Hf2 := Lib.hid (HV0.out.find ot hsz2)
  rw [findI_has.2 hno] at Hf2
  have hdj : decide ((-1 : Int) ≥ 0) = false := by simp
  obtain ⟨i, hfi, hLi⟩ := findI_at (show findV L nm = some v by rw [Hnm.out]; exact hf)
  rw [hfi] at Hf
  have hneg : decide (((i : Nat) : Int) < 0) = false := by simp
  have hneg2 : decide (((i : Nat) : Int) ≥ 0) = true := by simp
  obtain ⟨b, off, rfl, hin, Ac, cc, a0, a1', a2, a3', hvx, hrow⟩ := HV.out.at_ hLi
  have hbw : b < w.heap.size := cell_ltC a0
  have hbW : b < W0.heap.size := Nat.lt_of_lt_of_le hbw Hb1.out.size
  have a1 := (World.cell?_of_block (Hb1.out.block b hbw)).trans a1'
  have a3 := (World.cell?_of_block (Hb1.out.block b hbw)).trans a3'
  have hcn : n ≤ c ∧ c ≤ 9223372036854775807 ∧ n ≤ 100000 := by
    obtain ⟨xs, hx, hn', hc, hm, _⟩ := HV.out
    have hl := Hl.out
    unfold maxLen at hm
    rw [← hx, List.length_map, hn'] at hl
    exact ⟨hc, by omega, hl⟩
  have hnz : ¬ qn < v.cells.length := by omega
  have hdz : decide (qn < v.cells.length) = false := by simpa using hnz
  have hdy : decide ((v.cells.length : Int) > (qn : Nat)) = false := by simp; omega
  have hq6 : kd = 6 → qn = v.quota := fun e => by
    have := hq
    unfold cpQ quotaL at this
    rw [if_pos (by rw [← Hkd.out]; exact e), hf] at this
    simp only at this
    omega
  have hq7 : kd = 7 → qt = (qn : Nat) := fun e => by rw [← hq]; unfold cpQ; rw [if_neg (by rw [← Hkd.out]; omega), Hqt.out]
  have hbg : b ≠ g + 1 := by have := Hg.out; omega
  have hgg : g < W0.heap.size := by omega
  have HS := Lib.hid (fun (w' : World) (hk : ∀ k, k < W0.heap.size → k ≠ g + 1 → w'.heap[k]? = W0.heap[k]?) => show w'.cell? ⟨g, 0, none⟩ = some (.int .i64 kd) ∧ w'.cell? ⟨g, 2, none⟩ = some (.string ot) ∧ w'.cell? ⟨b, off + i * 4 + 3, none⟩ = some (.slice Ac v.cells.length cc) from
    ⟨(World.cell?_of_block (hk g hgg (by omega))).trans hc0, (World.cell?_of_block (hk g hgg (by omega))).trans hc2, (World.cell?_of_block (hk b hbW hbg)).trans a3⟩)
  obtain ⟨fr, hfr⟩ : ∃ z, decide (o.kind = 6) = z := ⟨_, rfl⟩
  have Hr := Lib.hid (show doL L o = (insV ⟨ot, qn, fr, v.cells⟩ L, aE 0) by
    rw [doL_copy h1, hq, hfr]
    unfold copyL ePair
    rw [← Hot.out, hmy, if_neg (by simp), hf]
    dsimp only
    rw [hno, if_neg (by simp), if_neg hle]
    rfl)
  have hnoK : ∀ u ∈ L, vkey u ≠ ot.data.toList := fun u hu e => hasV_no hno u hu (ba_ext e)
  obtain ⟨VL, hVL⟩ : ∃ VL, VL = volC ⟨⟨ot, qn, fr, v.cells⟩, Ac, cc⟩ := ⟨_, rfl⟩
  have HB := Lib.hid (show Try.prog.built 106 [(0, .string ot), (1, .int .i64 (qn : Nat)), (2, .bool fr), (3, .slice Ac v.cells.length cc)] = some VL.toArray by rw [hVL]; exact vl_built ot (qn : Nat) fr Ac v.cells.length cc)
  have hvx0 : VxOk (W0.drewN 1) G ⟨⟨ot, qn, fr, v.cells⟩, Ac, cc⟩ := ⟨hvx.le, hvx.lim, (hvx.keep Hb1.out.size (fun b _ hlt => Hb1.out.block b hlt) (fun _ _ h => h)).cs, hsz2, by show qn ≤ 1048576; omega, hvx.len⟩
  have Hadd := Lib.hid (add12_any (some ⟨b, off, none⟩) n c L ⟨⟨ot, qn, fr, v.cells⟩, Ac, cc⟩ VL hVL (W0.drewN 1) G (HV0.out.below (Below.dN (Below.refl _ _) 1)) HG0.out hvx0 Hl.out hnoK)
  obtain ⟨AL, hAL⟩ : ∃ z, z = ansC 0 false (Lib.byteCells zB) nilS := ⟨_, rfl⟩
  obtain ⟨⟨ha1, ha2⟩, ha3, ha4⟩ := HAi.out 0 AL hAL
  have Ha1 := Lib.hid ha1
  have Ha2 := Lib.hid ha2
  have Ha3 := Lib.hid ha3
  have Ha4 := Lib.hid (ans_b AL hAL)
  have HAL := Lib.hid hAL
  rw [← Hkd.out] at h1 hfr
  have Hfr := Lib.hid hfr
  clear a0 a1' a2 a3' hvx hrow hfi hLi hf hmy hno hq hle hqy hnoK hVL hvx0 hAL ha1 ha2 ha3 ha4 hfr
  have hn1 : ¬ kd = 1 := by omega
  have hb1 : (kd == 1) = false := by simpa using hn1
  have hn8 : ¬ kd = 8 := by omega
  have hb8 : (kd == 8) = false := by simpa using hn8
  rcases h1 with h6 | h7
  · have hb6 : (kd == 6) = true := by simpa using h6
    have hft : fr = true := by rw [← Hfr.out]; simpa using h6
    have hqv := hq6 h6
    subst hqv
    subst hft
    clear hq6 hq7 h6
    go_enter Try.func15, Try.ntmps15
    go_upto_region 1 with fail
    change Code.wp _ _ _ _ ((w.alloc (.cells OL.toArray 44)).alloc (.cells ansZ.toArray 47))
    rw [← HWx.out, ← Hg.out]
    clear HWx
    go_wp2_with fail
    refine Calls.mono Hf.out ?_
    rintro e w' ⟨rfl, rfl⟩
    clear Hf
    go_wp2_with fail
    refine Calls.mono Hmay.out ?_
    rintro e w' ⟨rfl, rfl⟩
    clear Hmay
    go_wp2_with fail
    refine Calls.mono Hf2.out ?_
    rintro e w' ⟨rfl, rfl⟩
    clear Hf2
    go_upto_region 29 with fail
    clear hc0 hc1 hc2 hc3 hc4 a1 a3
    refine wp_region_held_drew (S := (fun w' => w'.cell? ⟨g, 0, none⟩ = some (.int .i64 kd) ∧ w'.cell? ⟨g, 2, none⟩ = some (.string ot) ∧ w'.cell? ⟨b, off + i * 4 + 3, none⟩ = some (.slice Ac v.cells.length cc))) (by kernel_rfl) (HS.out W0 fun _ _ _ => rfl) (fun hHeld => ?_)
    refine anyH_take (i := 0) (v := .slice (some ⟨b, off, none⟩) n c) (some 114) rfl rfl (by kernel_rfl) (by kernel_rfl) (by kernel_rfl) (fun _ _ _ h => h) (Or.inl ⟨by rfl, fun w' hw => by (go_simp)⟩) (by assumption) ?_
    simp only [Act.put, List.setIfInBounds_toArray, List.set_cons_zero, List.set_cons_succ]
    refine anyH_take (i := 1) (v := .pointer (some ⟨g, 2, none⟩)) (some 115) rfl rfl (by kernel_rfl) (by kernel_rfl) (by kernel_rfl) (fun _ _ _ h => h) (Or.inl ⟨by rfl, fun w' hw => by (go_simp)⟩) (by assumption) ?_
    simp only [Act.put, List.setIfInBounds_toArray, List.set_cons_zero, List.set_cons_succ]
    refine anyH_take (i := 2) (v := .string ot) (some 116) rfl rfl (by kernel_rfl) (by kernel_rfl) (by kernel_rfl) (fun _ _ _ h => h) (Or.inl ⟨by rfl, fun w' hw => by (have hcc := hw.2.1; go_simp)⟩) (by assumption) ?_
    simp only [Act.put, List.setIfInBounds_toArray, List.set_cons_zero, List.set_cons_succ]
    refine anyH_take (i := 3) (v := .int .i64 (v.quota : Nat)) (some 117) rfl rfl (by kernel_rfl) (by kernel_rfl) (by kernel_rfl) (fun _ _ _ h => h) (Or.inl ⟨by rfl, fun w' hw => by (go_simp)⟩) (by assumption) ?_
    simp only [Act.put, List.setIfInBounds_toArray, List.set_cons_zero, List.set_cons_succ]
    refine anyH_take (i := 4) (v := .pointer (some ⟨g, 0, none⟩)) (some 118) rfl rfl (by kernel_rfl) (by kernel_rfl) (by kernel_rfl) (fun _ _ _ h => h) (Or.inl ⟨by rfl, fun w' hw => by (go_simp)⟩) (by assumption) ?_
    simp only [Act.put, List.setIfInBounds_toArray, List.set_cons_zero, List.set_cons_succ]
    refine anyH_take (i := 5) (v := .int .i64 kd) (some 119) rfl rfl (by kernel_rfl) (by kernel_rfl) (by kernel_rfl) (fun _ _ _ h => h) (Or.inl ⟨by rfl, fun w' hw => by (have hcc := hw.1; go_simp)⟩) (by assumption) ?_
    simp only [Act.put, List.setIfInBounds_toArray, List.set_cons_zero, List.set_cons_succ]
    refine anyH_take (i := 6) (v := .bool true) (some 120) rfl rfl (by kernel_rfl) (by kernel_rfl) (by kernel_rfl) (fun _ _ _ h => h) (Or.inl ⟨by rfl, fun w' hw => by (go_simp)⟩) (by assumption) ?_
    simp only [Act.put, List.setIfInBounds_toArray, List.set_cons_zero, List.set_cons_succ]
    refine anyH_take (i := 7) (v := .slice (some ⟨b, off, none⟩) n c) (some 121) rfl rfl (by kernel_rfl) (by kernel_rfl) (by kernel_rfl) (fun _ _ _ h => h) (Or.inl ⟨by rfl, fun w' hw => by (go_simp)⟩) (by assumption) ?_
    simp only [Act.put, List.setIfInBounds_toArray, List.set_cons_zero, List.set_cons_succ]
    refine anyH_take (i := 8) (v := .int .i64 (i : Nat)) (some 122) rfl rfl (by kernel_rfl) (by kernel_rfl) (by kernel_rfl) (fun _ _ _ h => h) (Or.inl ⟨by rfl, fun w' hw => by (go_simp)⟩) (by assumption) ?_
    simp only [Act.put, List.setIfInBounds_toArray, List.set_cons_zero, List.set_cons_succ]
    refine anyH_take (i := 9) (v := .pointer (some ⟨b, off + i * 4, none⟩)) (some 123) rfl rfl (by kernel_rfl) (by kernel_rfl) (by kernel_rfl) (fun _ _ _ h => h) (Or.inl ⟨by rfl, fun w' hw => by (go_simp; try (intro h; omega))⟩) (by assumption) ?_
    simp only [Act.put, List.setIfInBounds_toArray, List.set_cons_zero, List.set_cons_succ]
    refine anyH_take (i := 10) (v := .pointer (some ⟨b, off + i * 4 + 3, none⟩)) (some 124) rfl rfl (by kernel_rfl) (by kernel_rfl) (by kernel_rfl) (fun _ _ _ h => h) (Or.inl ⟨by rfl, fun w' hw => by (go_simp)⟩) (by assumption) ?_
    simp only [Act.put, List.setIfInBounds_toArray, List.set_cons_zero, List.set_cons_succ]
    refine anyH_take (i := 11) (v := .slice Ac v.cells.length cc) (some 125) rfl rfl (by kernel_rfl) (by kernel_rfl) (by kernel_rfl) (fun _ _ _ h => h) (Or.inl ⟨by rfl, fun w' hw => by (have hcc := hw.2.2; go_simp)⟩) (by assumption) ?_
    simp only [Act.put, List.setIfInBounds_toArray, List.set_cons_zero, List.set_cons_succ]
    refine anyH_take (i := 12) (some 126) rfl rfl (by kernel_rfl) (by kernel_rfl) (by kernel_rfl) (fun _ _ _ h => h) (yieldsIf_build (by rfl) 106 _ rfl [(0, .string ot), (1, .int .i64 (v.quota : Nat)), (2, .bool true), (3, .slice Ac v.cells.length cc)] rfl VL.toArray HB.out) (by assumption) ?_
    simp only [Act.put, List.setIfInBounds_toArray, List.set_cons_zero, List.set_cons_succ]
    refine anyH_take (i := 14) (some 128) rfl rfl (by kernel_rfl) (by kernel_rfl) (by kernel_rfl) (fun _ _ _ h => h) (yieldsIf_build (by rfl) 47 _ rfl [] rfl AL.toArray Ha4.out) (by assumption) ?_
    simp only [Act.put, List.setIfInBounds_toArray, List.set_cons_zero, List.set_cons_succ]
    refine wpAnyH_ready (rs := [13]) (by kernel_rfl) (by simp) ?_
    refine AllReadyH.cons rfl (fun K hK => ?_) AllReadyH.nil
    go_simp
    go_at_call 48
    refine Calls.mono Hadd.out ?_
    rintro e w5 ⟨A1, n1, c1, rfl, hvs, hb5⟩
    have hb5' : Below W0.heap.size W0 w5 := (Below.dN (Below.refl _ W0) 1).trans hb5
    refine hK.out _ _ (HS.out w5 fun k hk _ => hb5'.block k hk) (fun hHeldx => ?_)
    clear hK K
    try simp only [Act.put, List.setIfInBounds_toArray, List.set_cons_zero, List.set_cons_succ]
    have Hend := Lib.hid (Hfin.out w5 hb5' _ _ _ _ hvs AL)
    have hAn5 : Arr w5 (g + 1) 47 AZ := HAn.out.up hb5'
    have Hset := Lib.hid (hAn5.setRow AL)
    have HAn5 := Lib.hid hAn5
    have HS5 := Lib.hid (HS.out (w5.setRow (g + 1) AL.toArray) fun k hk hkg => (((Only.refl (fun k => k = g + 1) w5).setRow (.inl rfl) AL.toArray).block k (Nat.lt_of_lt_of_le hk hb5'.size) hkg).trans (hb5'.block k hk))
    clear hvs hb5 hb5' hAn5 Hadd
    refine anyH_take (i := 15) (v := .slice A1 n1 c1) (some 4) rfl rfl (by kernel_rfl) (by kernel_rfl) (by kernel_rfl) (fun _ _ _ h => h) (Or.inl ⟨by rfl, fun w' hw => by (go_simp)⟩) (by assumption) ?_
    simp only [Act.put, List.setIfInBounds_toArray, List.set_cons_zero, List.set_cons_succ]
    refine wpAnyH_ready (rs := [16]) (by kernel_rfl) (by simp) ?_
    refine AllReadyH.cons rfl (fun K hK => ?_) AllReadyH.nil
    rw [if_pos (by rfl)]
    refine wp_store_row_to rfl _ _ _ rfl (g + 1) AL.toArray rfl rfl 47 AZ.toArray HAn5.out Ha1.out Ha2.out Ha3.out ?_
    refine hK.out _ _ HS5.out (fun hHeldy => ?_)
    clear hK K
    try simp only [Act.put, List.setIfInBounds_toArray, List.set_cons_zero, List.set_cons_succ]
    refine wpAnyH_done (by kernel_rfl) ?_ _
    go_wp2_with fail
    (try simp only [Exit.inBlock, Exit.then])
    exact bodyPost_ret (v := .tuple #[.slice A1 n1 c1, .agg AL.toArray]) (results_tc (by rfl) _ _ (g + 1) 47 AL.toArray (0, 0) _ (by rfl) _ (by rfl) Hset.out Try.underlying47 rfl Ha1.out) rfl (rdo_post Hr.out HAL.out Hend.out.1 Hend.out.2)
  · have hb7 : (kd == 7) = true := by simpa using h7
    have hn6 : ¬ kd = 6 := by omega
    have hb6 : (kd == 6) = false := by simpa using hn6
    have hft : fr = false := by rw [← Hfr.out]; simpa using hn6
    obtain rfl := hq7 h7
    subst hft
    clear hq6 hq7 h7
    go_enter Try.func15, Try.ntmps15
    go_upto_region 1 with fail
    change Code.wp _ _ _ _ ((w.alloc (.cells OL.toArray 44)).alloc (.cells ansZ.toArray 47))
    rw [← HWx.out, ← Hg.out]
    clear HWx
    go_wp2_with fail
    refine Calls.mono Hf.out ?_
    rintro e w' ⟨rfl, rfl⟩
    clear Hf
    go_wp2_with fail
    refine Calls.mono Hmay.out ?_
    rintro e w' ⟨rfl, rfl⟩
    clear Hmay
    go_wp2_with fail
    refine Calls.mono Hf2.out ?_
    rintro e w' ⟨rfl, rfl⟩
    clear Hf2
    go_upto_region 29 with fail
    clear hc0 hc1 hc2 hc3 hc4 a1 a3
    refine wp_region_held_drew (S := (fun w' => w'.cell? ⟨g, 0, none⟩ = some (.int .i64 kd) ∧ w'.cell? ⟨g, 2, none⟩ = some (.string ot) ∧ w'.cell? ⟨b, off + i * 4 + 3, none⟩ = some (.slice Ac v.cells.length cc))) (by kernel_rfl) (HS.out W0 fun _ _ _ => rfl) (fun hHeld => ?_)
    refine anyH_take (i := 0) (v := .slice (some ⟨b, off, none⟩) n c) (some 114) rfl rfl (by kernel_rfl) (by kernel_rfl) (by kernel_rfl) (fun _ _ _ h => h) (Or.inl ⟨by rfl, fun w' hw => by (go_simp)⟩) (by assumption) ?_
    simp only [Act.put, List.setIfInBounds_toArray, List.set_cons_zero, List.set_cons_succ]
    refine anyH_take (i := 1) (v := .pointer (some ⟨g, 2, none⟩)) (some 115) rfl rfl (by kernel_rfl) (by kernel_rfl) (by kernel_rfl) (fun _ _ _ h => h) (Or.inl ⟨by rfl, fun w' hw => by (go_simp)⟩) (by assumption) ?_
    simp only [Act.put, List.setIfInBounds_toArray, List.set_cons_zero, List.set_cons_succ]
    refine anyH_take (i := 2) (v := .string ot) (some 116) rfl rfl (by kernel_rfl) (by kernel_rfl) (by kernel_rfl) (fun _ _ _ h => h) (Or.inl ⟨by rfl, fun w' hw => by (have hcc := hw.2.1; go_simp)⟩) (by assumption) ?_
    simp only [Act.put, List.setIfInBounds_toArray, List.set_cons_zero, List.set_cons_succ]
    refine anyH_take (i := 3) (v := .int .i64 (qn : Nat)) (some 117) rfl rfl (by kernel_rfl) (by kernel_rfl) (by kernel_rfl) (fun _ _ _ h => h) (Or.inl ⟨by rfl, fun w' hw => by (go_simp)⟩) (by assumption) ?_
    simp only [Act.put, List.setIfInBounds_toArray, List.set_cons_zero, List.set_cons_succ]
    refine anyH_take (i := 4) (v := .pointer (some ⟨g, 0, none⟩)) (some 118) rfl rfl (by kernel_rfl) (by kernel_rfl) (by kernel_rfl) (fun _ _ _ h => h) (Or.inl ⟨by rfl, fun w' hw => by (go_simp)⟩) (by assumption) ?_
    simp only [Act.put, List.setIfInBounds_toArray, List.set_cons_zero, List.set_cons_succ]
    refine anyH_take (i := 5) (v := .int .i64 kd) (some 119) rfl rfl (by kernel_rfl) (by kernel_rfl) (by kernel_rfl) (fun _ _ _ h => h) (Or.inl ⟨by rfl, fun w' hw => by (have hcc := hw.1; go_simp)⟩) (by assumption) ?_
    simp only [Act.put, List.setIfInBounds_toArray, List.set_cons_zero, List.set_cons_succ]
    refine anyH_take (i := 6) (v := .bool false) (some 120) rfl rfl (by kernel_rfl) (by kernel_rfl) (by kernel_rfl) (fun _ _ _ h => h) (Or.inl ⟨by rfl, fun w' hw => by (go_simp)⟩) (by assumption) ?_
    simp only [Act.put, List.setIfInBounds_toArray, List.set_cons_zero, List.set_cons_succ]
    refine anyH_take (i := 7) (v := .slice (some ⟨b, off, none⟩) n c) (some 121) rfl rfl (by kernel_rfl) (by kernel_rfl) (by kernel_rfl) (fun _ _ _ h => h) (Or.inl ⟨by rfl, fun w' hw => by (go_simp)⟩) (by assumption) ?_
    simp only [Act.put, List.setIfInBounds_toArray, List.set_cons_zero, List.set_cons_succ]
    refine anyH_take (i := 8) (v := .int .i64 (i : Nat)) (some 122) rfl rfl (by kernel_rfl) (by kernel_rfl) (by kernel_rfl) (fun _ _ _ h => h) (Or.inl ⟨by rfl, fun w' hw => by (go_simp)⟩) (by assumption) ?_
    simp only [Act.put, List.setIfInBounds_toArray, List.set_cons_zero, List.set_cons_succ]
    refine anyH_take (i := 9) (v := .pointer (some ⟨b, off + i * 4, none⟩)) (some 123) rfl rfl (by kernel_rfl) (by kernel_rfl) (by kernel_rfl) (fun _ _ _ h => h) (Or.inl ⟨by rfl, fun w' hw => by (go_simp; try (intro h; omega))⟩) (by assumption) ?_
    simp only [Act.put, List.setIfInBounds_toArray, List.set_cons_zero, List.set_cons_succ]
    refine anyH_take (i := 10) (v := .pointer (some ⟨b, off + i * 4 + 3, none⟩)) (some 124) rfl rfl (by kernel_rfl) (by kernel_rfl) (by kernel_rfl) (fun _ _ _ h => h) (Or.inl ⟨by rfl, fun w' hw => by (go_simp)⟩) (by assumption) ?_
    simp only [Act.put, List.setIfInBounds_toArray, List.set_cons_zero, List.set_cons_succ]
    refine anyH_take (i := 11) (v := .slice Ac v.cells.length cc) (some 125) rfl rfl (by kernel_rfl) (by kernel_rfl) (by kernel_rfl) (fun _ _ _ h => h) (Or.inl ⟨by rfl, fun w' hw => by (have hcc := hw.2.2; go_simp)⟩) (by assumption) ?_
    simp only [Act.put, List.setIfInBounds_toArray, List.set_cons_zero, List.set_cons_succ]
    refine anyH_take (i := 12) (some 126) rfl rfl (by kernel_rfl) (by kernel_rfl) (by kernel_rfl) (fun _ _ _ h => h) (yieldsIf_build (by rfl) 106 _ rfl [(0, .string ot), (1, .int .i64 (qn : Nat)), (2, .bool false), (3, .slice Ac v.cells.length cc)] rfl VL.toArray HB.out) (by assumption) ?_
    simp only [Act.put, List.setIfInBounds_toArray, List.set_cons_zero, List.set_cons_succ]
    refine anyH_take (i := 14) (some 128) rfl rfl (by kernel_rfl) (by kernel_rfl) (by kernel_rfl) (fun _ _ _ h => h) (yieldsIf_build (by rfl) 47 _ rfl [] rfl AL.toArray Ha4.out) (by assumption) ?_
    simp only [Act.put, List.setIfInBounds_toArray, List.set_cons_zero, List.set_cons_succ]
    refine wpAnyH_ready (rs := [13]) (by kernel_rfl) (by simp) ?_
    refine AllReadyH.cons rfl (fun K hK => ?_) AllReadyH.nil
    go_simp
    go_at_call 48
    refine Calls.mono Hadd.out ?_
    rintro e w5 ⟨A1, n1, c1, rfl, hvs, hb5⟩
    have hb5' : Below W0.heap.size W0 w5 := (Below.dN (Below.refl _ W0) 1).trans hb5
    refine hK.out _ _ (HS.out w5 fun k hk _ => hb5'.block k hk) (fun hHeldx => ?_)
    clear hK K
    try simp only [Act.put, List.setIfInBounds_toArray, List.set_cons_zero, List.set_cons_succ]
    have Hend := Lib.hid (Hfin.out w5 hb5' _ _ _ _ hvs AL)
    have hAn5 : Arr w5 (g + 1) 47 AZ := HAn.out.up hb5'
    have Hset := Lib.hid (hAn5.setRow AL)
    have HAn5 := Lib.hid hAn5
    have HS5 := Lib.hid (HS.out (w5.setRow (g + 1) AL.toArray) fun k hk hkg => (((Only.refl (fun k => k = g + 1) w5).setRow (.inl rfl) AL.toArray).block k (Nat.lt_of_lt_of_le hk hb5'.size) hkg).trans (hb5'.block k hk))
    clear hvs hb5 hb5' hAn5 Hadd
    refine anyH_take (i := 15) (v := .slice A1 n1 c1) (some 4) rfl rfl (by kernel_rfl) (by kernel_rfl) (by kernel_rfl) (fun _ _ _ h => h) (Or.inl ⟨by rfl, fun w' hw => by (go_simp)⟩) (by assumption) ?_
    simp only [Act.put, List.setIfInBounds_toArray, List.set_cons_zero, List.set_cons_succ]
    refine wpAnyH_ready (rs := [16]) (by kernel_rfl) (by simp) ?_
    refine AllReadyH.cons rfl (fun K hK => ?_) AllReadyH.nil
    rw [if_pos (by rfl)]
    refine wp_store_row_to rfl _ _ _ rfl (g + 1) AL.toArray rfl rfl 47 AZ.toArray HAn5.out Ha1.out Ha2.out Ha3.out ?_
    refine hK.out _ _ HS5.out (fun hHeldy => ?_)
    clear hK K
    try simp only [Act.put, List.setIfInBounds_toArray, List.set_cons_zero, List.set_cons_succ]
    refine wpAnyH_done (by kernel_rfl) ?_ _
    go_wp2_with fail
    (try simp only [Exit.inBlock, Exit.then])
    exact bodyPost_ret (v := .tuple #[.slice A1 n1 c1, .agg AL.toArray]) (results_tc (by rfl) _ _ (g + 1) 47 AL.toArray (0, 0) _ (by rfl) _ (by rfl) Hset.out Try.underlying47 rfl Ha1.out) rfl (rdo_post Hr.out HAL.out Hend.out.1 Hend.out.2)

end Go.Proofs.Ytcajhndhjlfmaaa

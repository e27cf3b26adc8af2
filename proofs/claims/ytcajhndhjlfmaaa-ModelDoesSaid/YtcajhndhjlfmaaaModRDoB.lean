/-
  The document's Do: what is answered with an error before a volume is looked at.
-/
import Derived.Test.YtcajhndhjlfmaaaModRDoA
namespace Go.Proofs.Ytcajhndhjlfmaaa
open Go.RowKit
set_option linter.unusedVariables false
set_option linter.unusedSimpArgs false
set_option maxRecDepth 100000

theorem doL_none {L : List Vol} {o : Op15} (h1 : 2 ≤ o.kind) (h2 : o.kind ≤ 5) (hf : findV L o.name = none) : doL L o = (L, aE 5) := by
  have hh : hasV L o.name = false := by rw [hasV_find, hf]; rfl
  have e : o.kind = 2 ∨ o.kind = 3 ∨ o.kind = 4 ∨ o.kind = 5 := by omega
  unfold doL ePair
  rcases e with e | e | e | e
  · rw [if_neg (by omega), if_pos e]; unfold deleteL; rw [hh, if_neg (by simp)]
  · rw [if_neg (by omega), if_neg (by omega), if_pos e]; unfold writeL ofE; rw [hf]; simp
  · rw [if_neg (by omega), if_neg (by omega), if_neg (by omega), if_pos e]; unfold trimL ofE; rw [hf]; simp
  · rw [if_neg (by omega), if_neg (by omega), if_neg (by omega), if_neg (by omega), if_pos e]; unfold readL ofE; rw [hf]; simp
theorem doL_range {L : List Vol} {o : Op15} {v : Vol} (h1 : 3 ≤ o.kind) (h2 : o.kind ≤ 5) (hf : findV L o.name = some v) (hn : numB o.num = false) : doL L o = (L, aE 2) := by
  have e : o.kind = 3 ∨ o.kind = 4 ∨ o.kind = 5 := by omega
  unfold doL ePair
  rcases e with e | e | e
  · rw [if_neg (by omega), if_neg (by omega), if_pos e]; unfold writeL ofE; rw [hf]; simp [hn]
  · rw [if_neg (by omega), if_neg (by omega), if_neg (by omega), if_pos e]; unfold trimL ofE; rw [hf]; simp [hn]
  · rw [if_neg (by omega), if_neg (by omega), if_neg (by omega), if_neg (by omega), if_pos e]; unfold readL ofE; rw [hf]; simp [hn]

set_option maxHeartbeats 16000000 in
theorem rdo_bad (A : Option Addr) (n c : Nat) (L : List Vol) (o : Op15) (ho : OpOk o) (OL : List Value) (hOL : OL = opC o) (w : World) (G : Nat → Prop) (h : VSl w G A n c L) (hG : ∀ b, G b → b < w.heap.size) (hl : L.length ≤ 100000) (hrise : RiseV L) (hok : ∀ v ∈ L, ImgOk v) (h1 : o.kind < 1 ∨ 8 < o.kind) :
    Calls Try.prog 15 #[.slice A n c, .agg OL.toArray] w fun e w' => RDoPost o w G L e w' := by
  obtain ⟨hk0, hk1, hk2, hk3, hk4⟩ := opC_at hOL
  obtain ⟨W1, hW1⟩ : ∃ z, z = w.alloc (.cells OL.toArray 44) := ⟨_, rfl⟩
  have hb1 : Below w.heap.size w W1 := by rw [hW1]; exact (Below.refl _ _).alloc (Nat.le_refl _) _
  have hA1 : Arr W1 w.heap.size 44 OL := by rw [hW1]; exact Arr.new w _ _
  have hs1 : W1.heap.size = w.heap.size + 1 := by rw [hW1]; simp
  obtain ⟨AZ, hAZ⟩ : ∃ z, z = ansZ := ⟨_, rfl⟩
  obtain ⟨W0, hW0⟩ : ∃ z, z = W1.alloc (.cells AZ.toArray 47) := ⟨_, rfl⟩
  have hAn : Arr W0 (w.heap.size + 1) 47 AZ := by rw [hW0, ← hs1]; exact Arr.new W1 _ _
  have hb0 : Below W1.heap.size W1 W0 := by rw [hW0]; exact (Below.refl _ _).alloc (Nat.le_refl _) _
  have HWx : Hid (W0 = (w.alloc (.cells OL.toArray 44)).alloc (.cells ansZ.toArray 47)) := Lib.hid (by rw [hW0, hW1, hAZ])
  replace hA1 := hA1.up hb0
  replace hb1 := hb1.trans (hb0.mono hb1.size)
  obtain ⟨g, hg⟩ : ∃ z, z = w.heap.size := ⟨_, rfl⟩
  rw [← hg] at hA1 hAn
  have hgl : w.heap.size ≤ g + 1 := by omega
  have hg1 := hAn.lt
  obtain ⟨nm, hnm⟩ : ∃ z, z = o.name := ⟨_, rfl⟩
  obtain ⟨ot, hot⟩ : ∃ z, z = o.other := ⟨_, rfl⟩
  obtain ⟨kd, hkd⟩ : ∃ z, z = o.kind := ⟨_, rfl⟩
  obtain ⟨qt, hqt⟩ : ∃ z, z = o.quota := ⟨_, rfl⟩
  obtain ⟨nu, hnu⟩ : ∃ z, z = o.num := ⟨_, rfl⟩
  have hsz := ho.n1
  have hsz2 := ho.n2
  have hkr := ho.i3
  rw [← hkd] at hkr
  rw [← hnm] at hk1 hsz
  rw [← hot] at hk2 hsz2
  rw [← hkd] at hk0
  rw [← hqt] at hk4
  rw [← hnu] at hk3
  have hc0 : W0.cell? ⟨g, 0, none⟩ = some (.int .i64 kd) := by rw [hA1.cell]; exact hk0
  have hc1 : W0.cell? ⟨g, 1, none⟩ = some (.string nm) := by rw [hA1.cell]; exact hk1
  have hc2 : W0.cell? ⟨g, 2, none⟩ = some (.string ot) := by rw [hA1.cell]; exact hk2
  have hc3 : W0.cell? ⟨g, 3, none⟩ = some (.int .i64 nu) := by rw [hA1.cell]; exact hk3
  have hc4 : W0.cell? ⟨g, 4, none⟩ = some (.int .i64 qt) := by rw [hA1.cell]; exact hk4
  have HAi := Lib.hid (fun (k : Int) (AL : List Value) (h : AL = ansC k false (Lib.byteCells zB) nilS) => show ((Try.prog.info? 47).map (·.size) = some AL.toArray.size ∧ AZ.toArray.size = AL.toArray.size) ∧ AL.toArray.all (·.oneCell') = true ∧ Try.prog.built 47 [(0, .int .i64 k)] = some AL.toArray by
    subst h
    rw [List.size_toArray, List.size_toArray, ansC_length (by simp [Lib.byteCells, zB]), hAZ]
    exact ⟨⟨ansSize, rfl⟩, ansC_one rfl, ans_b0 k⟩)
  have HAn := Lib.hid hAn
  have HA1 := Lib.hid hA1
  have Hb1 := Lib.hid hb1
  have Ho := Lib.hid ho
  have HOL := Lib.hid hOL
  have HV0 := Lib.hid (h.below hb1)
  have Hf := Lib.hid ((h.below hb1).find nm hsz)
  have HV := Lib.hid h
  have HG := Lib.hid hG
  have HG0 := Lib.hid (show ∀ b, G b → b < W0.heap.size from fun b hb => Nat.lt_of_lt_of_le (hG b hb) hb1.size)
  have Hg := Lib.hid hg
  have Hl := Lib.hid hl
  have Hrise := Lib.hid hrise
  have Hok := Lib.hid hok
  have Hkd := Lib.hid hkd
  have Hnm := Lib.hid hnm
  have Hnu := Lib.hid hnu
  have Hqt := Lib.hid hqt
  have Hot := Lib.hid hot
  have Hfin := Lib.hid (fun (w5 : World) (hb : Below W0.heap.size W0 w5) (A' : Option Addr) (n' c' : Nat) (L' : List Vol) (hv : VSl w5 (fun b => G b ∨ W0.heap.size ≤ b) A' n' c' L') (AL : List Value) => fin_vs hb1 hgl (by omega) hG hb hv AL)
  have Hdo := Lib.hid (show doL L o = (if kd = 1 then ePair (createL L nm qt) else if kd = 2 then ePair (deleteL L nm) else if kd = 3 then ePair (writeL L nm nu o.blk) else if kd = 4 then ePair (trimL L nm nu) else if kd = 5 then (L, readL L nm nu) else if kd = 6 then ePair (copyL L nm ot (quotaL L nm) true) else if kd = 7 then ePair (copyL L nm ot qt false) else if kd = 8 then (L, ⟨0, false, zB, L.map (·.name)⟩) else (L, aE 1)) by rw [hkd, hnm, hot, hqt, hnu]; rfl)
  have HAZ := Lib.hid hAZ
  clear hnm hot hkd hqt hnu hk0 hk1 hk2 hk3 hk4 hOL ho h hl hb1 hA1 hb0 hs1 hW0 hW1 hAn hg hG hrise hok hgl hAZ
  rw [← Hkd.out] at h1
  have hn1 : ¬ kd = 1 := by omega
  have hd1 : decide (kd = 1) = false := by simpa using hn1
  have hb1 : (kd == 1) = false := by simpa using hn1
  have hn8 : ¬ kd = 8 := by omega
  have hd8 : decide (kd = 8) = false := by simpa using hn8
  have hb8 : (kd == 8) = false := by simpa using hn8
  have hn6 : ¬ kd = 6 := by omega
  have hd6 : decide (kd = 6) = false := by simpa using hn6
  have hb6 : (kd == 6) = false := by simpa using hn6
  have hn7 : ¬ kd = 7 := by omega
  have hd7 : decide (kd = 7) = false := by simpa using hn7
  have hb7 : (kd == 7) = false := by simpa using hn7
  have Hr := Lib.hid (show doL L o = (L, aE 1) by rw [Hdo.out]; repeat' (rw [if_neg (by omega)]))
  obtain ⟨fi, hfi⟩ : ∃ z, findI L nm = z := ⟨_, rfl⟩
  rw [hfi] at Hf
  clear hfi
  by_cases hlo : kd < 1
  · have hdl : decide (kd < 1) = true := by simpa using hlo
    clear hlo h1
    go_enter Try.func15, Try.ntmps15
    go_upto_region 1 with fail
    change Code.wp _ _ _ _ ((w.alloc (.cells OL.toArray 44)).alloc (.cells ansZ.toArray 47))
    rw [← HWx.out, ← Hg.out]
    clear HWx
    go_wp2_with fail
    refine Calls.mono Hf.out ?_
    rintro e w' ⟨rfl, rfl⟩
    clear Hf
    go_upto_region 31 with fail
    obtain ⟨AL, hAL⟩ : ∃ z, z = ansC 1 false (Lib.byteCells zB) nilS := ⟨_, rfl⟩
    obtain ⟨⟨ha1, ha2⟩, ha3, ha4⟩ := HAi.out 1 AL hAL
    have Ha1 := Lib.hid ha1
    have Ha2 := Lib.hid ha2
    have Ha3 := Lib.hid ha3
    have Ha4 := Lib.hid ha4
    have HAL := Lib.hid hAL
    have Hend := Lib.hid (Hfin.out W0 (Below.refl _ _) _ _ _ _ (HV0.out.grow (Below.refl _ _)) AL)
    have HAn5 := Lib.hid (show Arr W0 (g + 1) 47 AZ from HAn.out)
    have Hset := Lib.hid (HAn5.out.setRow AL)
    clear hAL ha1 ha2 ha3 ha4 hc0 hc1 hc2 hc3 hc4
    go_wp2_with (first | (refine wpList_builtV rfl _ _ rfl _ rfl AL.toArray Ha4.out ?_) | (refine wpList_store_row rfl _ _ _ rfl (g + 1) AL.toArray rfl rfl 47 AZ.toArray HAn5.out Ha1.out Ha2.out Ha3.out ?_))
    (try simp only [Exit.inBlock, Exit.then])
    exact bodyPost_ret (v := .tuple #[.slice A n c, .agg AL.toArray]) (results_tc (by rfl) _ _ (g + 1) 47 AL.toArray (0, 0) _ (by rfl) _ (by rfl) Hset.out Try.underlying47 rfl Ha1.out) rfl (rdo_post Hr.out HAL.out Hend.out.1 Hend.out.2)
  · have hdl : decide (kd < 1) = false := by simpa using hlo
    have hdh : decide (kd > 8) = true := by simp; omega
    clear hlo h1
    go_enter Try.func15, Try.ntmps15
    go_upto_region 1 with fail
    change Code.wp _ _ _ _ ((w.alloc (.cells OL.toArray 44)).alloc (.cells ansZ.toArray 47))
    rw [← HWx.out, ← Hg.out]
    clear HWx
    go_wp2_with fail
    refine Calls.mono Hf.out ?_
    rintro e w' ⟨rfl, rfl⟩
    clear Hf
    go_upto_region 31 with fail
    obtain ⟨AL, hAL⟩ : ∃ z, z = ansC 1 false (Lib.byteCells zB) nilS := ⟨_, rfl⟩
    obtain ⟨⟨ha1, ha2⟩, ha3, ha4⟩ := HAi.out 1 AL hAL
    have Ha1 := Lib.hid ha1
    have Ha2 := Lib.hid ha2
    have Ha3 := Lib.hid ha3
    have Ha4 := Lib.hid ha4
    have HAL := Lib.hid hAL
    have Hend := Lib.hid (Hfin.out W0 (Below.refl _ _) _ _ _ _ (HV0.out.grow (Below.refl _ _)) AL)
    have HAn5 := Lib.hid (show Arr W0 (g + 1) 47 AZ from HAn.out)
    have Hset := Lib.hid (HAn5.out.setRow AL)
    clear hAL ha1 ha2 ha3 ha4 hc0 hc1 hc2 hc3 hc4
    go_wp2_with (first | (refine wpList_builtV rfl _ _ rfl _ rfl AL.toArray Ha4.out ?_) | (refine wpList_store_row rfl _ _ _ rfl (g + 1) AL.toArray rfl rfl 47 AZ.toArray HAn5.out Ha1.out Ha2.out Ha3.out ?_))
    (try simp only [Exit.inBlock, Exit.then])
    exact bodyPost_ret (v := .tuple #[.slice A n c, .agg AL.toArray]) (results_tc (by rfl) _ _ (g + 1) 47 AL.toArray (0, 0) _ (by rfl) _ (by rfl) Hset.out Try.underlying47 rfl Ha1.out) rfl (rdo_post Hr.out HAL.out Hend.out.1 Hend.out.2)

set_option maxHeartbeats 16000000 in
theorem rdo_none (A : Option Addr) (n c : Nat) (L : List Vol) (o : Op15) (ho : OpOk o) (OL : List Value) (hOL : OL = opC o) (w : World) (G : Nat → Prop) (h : VSl w G A n c L) (hG : ∀ b, G b → b < w.heap.size) (hl : L.length ≤ 100000) (hrise : RiseV L) (hok : ∀ v ∈ L, ImgOk v) (h1 : 2 ≤ o.kind ∧ o.kind ≤ 5) (hf : findV L o.name = none) :
    Calls Try.prog 15 #[.slice A n c, .agg OL.toArray] w fun e w' => RDoPost o w G L e w' := by
  obtain ⟨hk0, hk1, hk2, hk3, hk4⟩ := opC_at hOL
  obtain ⟨W1, hW1⟩ : ∃ z, z = w.alloc (.cells OL.toArray 44) := ⟨_, rfl⟩
  have hb1 : Below w.heap.size w W1 := by rw [hW1]; exact (Below.refl _ _).alloc (Nat.le_refl _) _
  have hA1 : Arr W1 w.heap.size 44 OL := by rw [hW1]; exact Arr.new w _ _
  have hs1 : W1.heap.size = w.heap.size + 1 := by rw [hW1]; simp
  obtain ⟨AZ, hAZ⟩ : ∃ z, z = ansZ := ⟨_, rfl⟩
  obtain ⟨W0, hW0⟩ : ∃ z, z = W1.alloc (.cells AZ.toArray 47) := ⟨_, rfl⟩
  have hAn : Arr W0 (w.heap.size + 1) 47 AZ := by rw [hW0, ← hs1]; exact Arr.new W1 _ _
  have hb0 : Below W1.heap.size W1 W0 := by rw [hW0]; exact (Below.refl _ _).alloc (Nat.le_refl _) _
  have HWx : Hid (W0 = (w.alloc (.cells OL.toArray 44)).alloc (.cells ansZ.toArray 47)) := Lib.hid (by rw [hW0, hW1, hAZ])
  replace hA1 := hA1.up hb0
  replace hb1 := hb1.trans (hb0.mono hb1.size)
  obtain ⟨g, hg⟩ : ∃ z, z = w.heap.size := ⟨_, rfl⟩
  rw [← hg] at hA1 hAn
  have hgl : w.heap.size ≤ g + 1 := by omega
  have hg1 := hAn.lt
  obtain ⟨nm, hnm⟩ : ∃ z, z = o.name := ⟨_, rfl⟩
  obtain ⟨ot, hot⟩ : ∃ z, z = o.other := ⟨_, rfl⟩
  obtain ⟨kd, hkd⟩ : ∃ z, z = o.kind := ⟨_, rfl⟩
  obtain ⟨qt, hqt⟩ : ∃ z, z = o.quota := ⟨_, rfl⟩
  obtain ⟨nu, hnu⟩ : ∃ z, z = o.num := ⟨_, rfl⟩
  have hsz := ho.n1
  have hsz2 := ho.n2
  have hkr := ho.i3
  rw [← hkd] at hkr
  rw [← hnm] at hk1 hsz
  rw [← hot] at hk2 hsz2
  rw [← hkd] at hk0
  rw [← hqt] at hk4
  rw [← hnu] at hk3
  have hc0 : W0.cell? ⟨g, 0, none⟩ = some (.int .i64 kd) := by rw [hA1.cell]; exact hk0
  have hc1 : W0.cell? ⟨g, 1, none⟩ = some (.string nm) := by rw [hA1.cell]; exact hk1
  have hc2 : W0.cell? ⟨g, 2, none⟩ = some (.string ot) := by rw [hA1.cell]; exact hk2
  have hc3 : W0.cell? ⟨g, 3, none⟩ = some (.int .i64 nu) := by rw [hA1.cell]; exact hk3
  have hc4 : W0.cell? ⟨g, 4, none⟩ = some (.int .i64 qt) := by rw [hA1.cell]; exact hk4
  have HAi := Lib.hid (fun (k : Int) (AL : List Value) (h : AL = ansC k false (Lib.byteCells zB) nilS) => show ((Try.prog.info? 47).map (·.size) = some AL.toArray.size ∧ AZ.toArray.size = AL.toArray.size) ∧ AL.toArray.all (·.oneCell') = true ∧ Try.prog.built 47 [(0, .int .i64 k)] = some AL.toArray by
    subst h
    rw [List.size_toArray, List.size_toArray, ansC_length (by simp [Lib.byteCells, zB]), hAZ]
    exact ⟨⟨ansSize, rfl⟩, ansC_one rfl, ans_b0 k⟩)
  have HAn := Lib.hid hAn
  have HA1 := Lib.hid hA1
  have Hb1 := Lib.hid hb1
  have Ho := Lib.hid ho
  have HOL := Lib.hid hOL
  have HV0 := Lib.hid (h.below hb1)
  have Hf := Lib.hid ((h.below hb1).find nm hsz)
  have HV := Lib.hid h
  have HG := Lib.hid hG
  have HG0 := Lib.hid (show ∀ b, G b → b < W0.heap.size from fun b hb => Nat.lt_of_lt_of_le (hG b hb) hb1.size)
  have Hg := Lib.hid hg
  have Hl := Lib.hid hl
  have Hrise := Lib.hid hrise
  have Hok := Lib.hid hok
  have Hkd := Lib.hid hkd
  have Hnm := Lib.hid hnm
  have Hnu := Lib.hid hnu
  have Hqt := Lib.hid hqt
  have Hot := Lib.hid hot
  have Hfin := Lib.hid (fun (w5 : World) (hb : Below W0.heap.size W0 w5) (A' : Option Addr) (n' c' : Nat) (L' : List Vol) (hv : VSl w5 (fun b => G b ∨ W0.heap.size ≤ b) A' n' c' L') (AL : List Value) => fin_vs hb1 hgl (by omega) hG hb hv AL)
  have Hdo := Lib.hid (show doL L o = (if kd = 1 then ePair (createL L nm qt) else if kd = 2 then ePair (deleteL L nm) else if kd = 3 then ePair (writeL L nm nu o.blk) else if kd = 4 then ePair (trimL L nm nu) else if kd = 5 then (L, readL L nm nu) else if kd = 6 then ePair (copyL L nm ot (quotaL L nm) true) else if kd = 7 then ePair (copyL L nm ot qt false) else if kd = 8 then (L, ⟨0, false, zB, L.map (·.name)⟩) else (L, aE 1)) by rw [hkd, hnm, hot, hqt, hnu]; rfl)
  have HAZ := Lib.hid hAZ
  clear hnm hot hkd hqt hnu hk0 hk1 hk2 hk3 hk4 hOL ho h hl hb1 hA1 hb0 hs1 hW0 hW1 hAn hg hG hrise hok hgl hAZ
  rw [← Hkd.out] at h1
  have hn1 : ¬ kd = 1 := by omega
  have hd1 : decide (kd = 1) = false := by simpa using hn1
  have hb1 : (kd == 1) = false := by simpa using hn1
  have hn8 : ¬ kd = 8 := by omega
  have hd8 : decide (kd = 8) = false := by simpa using hn8
  have hb8 : (kd == 8) = false := by simpa using hn8
  have hn6 : ¬ kd = 6 := by omega
  have hd6 : decide (kd = 6) = false := by simpa using hn6
  have hb6 : (kd == 6) = false := by simpa using hn6
  have hn7 : ¬ kd = 7 := by omega
  have hd7 : decide (kd = 7) = false := by simpa using hn7
  have hb7 : (kd == 7) = false := by simpa using hn7
  have hdl : decide (kd < 1) = false := by simp; omega
  have hdh : decide (kd > 8) = false := by simp; omega
  have Hr := Lib.hid (show doL L o = (L, aE 5) from doL_none (by rw [← Hkd.out]; omega) (by rw [← Hkd.out]; omega) hf)
  have hfi : findI L nm = -1 := by rw [findI_has, hasV_find, Hnm.out, hf]; rfl
  rw [hfi] at Hf
  have hneg : decide ((-1 : Int) < 0) = true := by simp
  clear hfi hf
  go_enter Try.func15, Try.ntmps15
  go_upto_region 1 with fail
  change Code.wp _ _ _ _ ((w.alloc (.cells OL.toArray 44)).alloc (.cells ansZ.toArray 47))
  rw [← HWx.out, ← Hg.out]
  clear HWx
  go_wp2_with fail
  refine Calls.mono Hf.out ?_
  rintro e w' ⟨rfl, rfl⟩
  clear Hf
  go_upto_region 33 with fail
  obtain ⟨AL, hAL⟩ : ∃ z, z = ansC 5 false (Lib.byteCells zB) nilS := ⟨_, rfl⟩
  obtain ⟨⟨ha1, ha2⟩, ha3, ha4⟩ := HAi.out 5 AL hAL
  have Ha1 := Lib.hid ha1
  have Ha2 := Lib.hid ha2
  have Ha3 := Lib.hid ha3
  have Ha4 := Lib.hid ha4
  have HAL := Lib.hid hAL
  have Hend := Lib.hid (Hfin.out W0 (Below.refl _ _) _ _ _ _ (HV0.out.grow (Below.refl _ _)) AL)
  have HAn5 := Lib.hid (show Arr W0 (g + 1) 47 AZ from HAn.out)
  have Hset := Lib.hid (HAn5.out.setRow AL)
  clear hAL ha1 ha2 ha3 ha4 hc0 hc1 hc2 hc3 hc4
  go_wp2_with (first | (refine wpList_builtV rfl _ _ rfl _ rfl AL.toArray Ha4.out ?_) | (refine wpList_store_row rfl _ _ _ rfl (g + 1) AL.toArray rfl rfl 47 AZ.toArray HAn5.out Ha1.out Ha2.out Ha3.out ?_))
  (try simp only [Exit.inBlock, Exit.then])
  exact bodyPost_ret (v := .tuple #[.slice A n c, .agg AL.toArray]) (results_tc (by rfl) _ _ (g + 1) 47 AL.toArray (0, 0) _ (by rfl) _ (by rfl) Hset.out Try.underlying47 rfl Ha1.out) rfl (rdo_post Hr.out HAL.out Hend.out.1 Hend.out.2)

set_option maxHeartbeats 16000000 in
theorem rdo_range (A : Option Addr) (n c : Nat) (L : List Vol) (o : Op15) (ho : OpOk o) (OL : List Value) (hOL : OL = opC o) (w : World) (G : Nat → Prop) (h : VSl w G A n c L) (hG : ∀ b, G b → b < w.heap.size) (hl : L.length ≤ 100000) (hrise : RiseV L) (hok : ∀ v ∈ L, ImgOk v) (h1 : 3 ≤ o.kind ∧ o.kind ≤ 5) (v : Vol) (hf : findV L o.name = some v) (hn : numB o.num = false) :
    Calls Try.prog 15 #[.slice A n c, .agg OL.toArray] w fun e w' => RDoPost o w G L e w' := by
  obtain ⟨hk0, hk1, hk2, hk3, hk4⟩ := opC_at hOL
  obtain ⟨W1, hW1⟩ : ∃ z, z = w.alloc (.cells OL.toArray 44) := ⟨_, rfl⟩
  have hb1 : Below w.heap.size w W1 := by rw [hW1]; exact (Below.refl _ _).alloc (Nat.le_refl _) _
  have hA1 : Arr W1 w.heap.size 44 OL := by rw [hW1]; exact Arr.new w _ _
  have hs1 : W1.heap.size = w.heap.size + 1 := by rw [hW1]; simp
  obtain ⟨AZ, hAZ⟩ : ∃ z, z = ansZ := ⟨_, rfl⟩
  obtain ⟨W0, hW0⟩ : ∃ z, z = W1.alloc (.cells AZ.toArray 47) := ⟨_, rfl⟩
  have hAn : Arr W0 (w.heap.size + 1) 47 AZ := by rw [hW0, ← hs1]; exact Arr.new W1 _ _
  have hb0 : Below W1.heap.size W1 W0 := by rw [hW0]; exact (Below.refl _ _).alloc (Nat.le_refl _) _
  have HWx : Hid (W0 = (w.alloc (.cells OL.toArray 44)).alloc (.cells ansZ.toArray 47)) := Lib.hid (by rw [hW0, hW1, hAZ])
  replace hA1 := hA1.up hb0
  replace hb1 := hb1.trans (hb0.mono hb1.size)
  obtain ⟨g, hg⟩ : ∃ z, z = w.heap.size := ⟨_, rfl⟩
  rw [← hg] at hA1 hAn
  have hgl : w.heap.size ≤ g + 1 := by omega
  have hg1 := hAn.lt
  obtain ⟨nm, hnm⟩ : ∃ z, z = o.name := ⟨_, rfl⟩
  obtain ⟨ot, hot⟩ : ∃ z, z = o.other := ⟨_, rfl⟩
  obtain ⟨kd, hkd⟩ : ∃ z, z = o.kind := ⟨_, rfl⟩
  obtain ⟨qt, hqt⟩ : ∃ z, z = o.quota := ⟨_, rfl⟩
  obtain ⟨nu, hnu⟩ : ∃ z, z = o.num := ⟨_, rfl⟩
  have hsz := ho.n1
  have hsz2 := ho.n2
  have hkr := ho.i3
  rw [← hkd] at hkr
  rw [← hnm] at hk1 hsz
  rw [← hot] at hk2 hsz2
  rw [← hkd] at hk0
  rw [← hqt] at hk4
  rw [← hnu] at hk3
  have hc0 : W0.cell? ⟨g, 0, none⟩ = some (.int .i64 kd) := by rw [hA1.cell]; exact hk0
  have hc1 : W0.cell? ⟨g, 1, none⟩ = some (.string nm) := by rw [hA1.cell]; exact hk1
  have hc2 : W0.cell? ⟨g, 2, none⟩ = some (.string ot) := by rw [hA1.cell]; exact hk2
  have hc3 : W0.cell? ⟨g, 3, none⟩ = some (.int .i64 nu) := by rw [hA1.cell]; exact hk3
  have hc4 : W0.cell? ⟨g, 4, none⟩ = some (.int .i64 qt) := by rw [hA1.cell]; exact hk4
  have HAi := Lib.hid (fun (k : Int) (AL : List Value) (h : AL = ansC k false (Lib.byteCells zB) nilS) => show ((Try.prog.info? 47).map (·.size) = some AL.toArray.size ∧ AZ.toArray.size = AL.toArray.size) ∧ AL.toArray.all (·.oneCell') = true ∧ Try.prog.built 47 [(0, .int .i64 k)] = some AL.toArray by
    subst h
    rw [List.size_toArray, List.size_toArray, ansC_length (by simp [Lib.byteCells, zB]), hAZ]
    exact ⟨⟨ansSize, rfl⟩, ansC_one rfl, ans_b0 k⟩)
  have HAn := Lib.hid hAn
  have HA1 := Lib.hid hA1
  have Hb1 := Lib.hid hb1
  have Ho := Lib.hid ho
  have HOL := Lib.hid hOL
  have HV0 := Lib.hid (h.below hb1)
  have Hf := Lib.hid ((h.below hb1).find nm hsz)
  have HV := Lib.hid h
  have HG := Lib.hid hG
  have HG0 := Lib.hid (show ∀ b, G b → b < W0.heap.size from fun b hb => Nat.lt_of_lt_of_le (hG b hb) hb1.size)
  have Hg := Lib.hid hg
  have Hl := Lib.hid hl
  have Hrise := Lib.hid hrise
  have Hok := Lib.hid hok
  have Hkd := Lib.hid hkd
  have Hnm := Lib.hid hnm
  have Hnu := Lib.hid hnu
  have Hqt := Lib.hid hqt
  have Hot := Lib.hid hot
  have Hfin := Lib.hid (fun (w5 : World) (hb : Below W0.heap.size W0 w5) (A' : Option Addr) (n' c' : Nat) (L' : List Vol) (hv : VSl w5 (fun b => G b ∨ W0.heap.size ≤ b) A' n' c' L') (AL : List Value) => fin_vs hb1 hgl (by omega) hG hb hv AL)
  have Hdo := Lib.hid (show doL L o = (if kd = 1 then ePair (createL L nm qt) else if kd = 2 then ePair (deleteL L nm) else if kd = 3 then ePair (writeL L nm nu o.blk) else if kd = 4 then ePair (trimL L nm nu) else if kd = 5 then (L, readL L nm nu) else if kd = 6 then ePair (copyL L nm ot (quotaL L nm) true) else if kd = 7 then ePair (copyL L nm ot qt false) else if kd = 8 then (L, ⟨0, false, zB, L.map (·.name)⟩) else (L, aE 1)) by rw [hkd, hnm, hot, hqt, hnu]; rfl)
  have HAZ := Lib.hid hAZ
  clear hnm hot hkd hqt hnu hk0 hk1 hk2 hk3 hk4 hOL ho h hl hb1 hA1 hb0 hs1 hW0 hW1 hAn hg hG hrise hok hgl hAZ
  rw [← Hkd.out] at h1
  have hn1 : ¬ kd = 1 := by omega
  have hd1 : decide (kd = 1) = false := by simpa using hn1
  have hb1 : (kd == 1) = false := by simpa using hn1
  have hn8 : ¬ kd = 8 := by omega
  have hd8 : decide (kd = 8) = false := by simpa using hn8
  have hb8 : (kd == 8) = false := by simpa using hn8
  have hn6 : ¬ kd = 6 := by omega
  have hd6 : decide (kd = 6) = false := by simpa using hn6
  have hb6 : (kd == 6) = false := by simpa using hn6
  have hn7 : ¬ kd = 7 := by omega
  have hd7 : decide (kd = 7) = false := by simpa using hn7
  have hb7 : (kd == 7) = false := by simpa using hn7
  have hdl : decide (kd < 1) = false := by simp; omega
  have hdh : decide (kd > 8) = false := by simp; omega
  have hn2 : ¬ kd = 2 := by omega
  have hd2 : decide (kd = 2) = false := by simpa using hn2
  have hb2 : (kd == 2) = false := by simpa using hn2
  have Hr := Lib.hid (show doL L o = (L, aE 2) from doL_range (by rw [← Hkd.out]; omega) (by rw [← Hkd.out]; omega) hf hn)
  obtain ⟨i, hfi, _⟩ := findI_at (show findV L nm = some v by rw [Hnm.out]; exact hf)
  rw [hfi] at Hf
  have hneg : decide (((i : Nat) : Int) < 0) = false := by simp
  rw [← Hnu.out] at hn
  by_cases hlo : nu < 0
  · have hx1 : decide (nu < 0) = true := by simpa using hlo
    clear hfi hf hn
    go_enter Try.func15, Try.ntmps15
    go_upto_region 1 with fail
    change Code.wp _ _ _ _ ((w.alloc (.cells OL.toArray 44)).alloc (.cells ansZ.toArray 47))
    rw [← HWx.out, ← Hg.out]
    clear HWx
    go_wp2_with fail
    refine Calls.mono Hf.out ?_
    rintro e w' ⟨rfl, rfl⟩
    clear Hf
    go_upto_region 37 with fail
    obtain ⟨AL, hAL⟩ : ∃ z, z = ansC 2 false (Lib.byteCells zB) nilS := ⟨_, rfl⟩
    obtain ⟨⟨ha1, ha2⟩, ha3, ha4⟩ := HAi.out 2 AL hAL
    have Ha1 := Lib.hid ha1
    have Ha2 := Lib.hid ha2
    have Ha3 := Lib.hid ha3
    have Ha4 := Lib.hid ha4
    have HAL := Lib.hid hAL
    have Hend := Lib.hid (Hfin.out W0 (Below.refl _ _) _ _ _ _ (HV0.out.grow (Below.refl _ _)) AL)
    have HAn5 := Lib.hid (show Arr W0 (g + 1) 47 AZ from HAn.out)
    have Hset := Lib.hid (HAn5.out.setRow AL)
    clear hAL ha1 ha2 ha3 ha4 hc0 hc1 hc2 hc3 hc4
    go_wp2_with (first | (refine wpList_builtV rfl _ _ rfl _ rfl AL.toArray Ha4.out ?_) | (refine wpList_store_row rfl _ _ _ rfl (g + 1) AL.toArray rfl rfl 47 AZ.toArray HAn5.out Ha1.out Ha2.out Ha3.out ?_))
    (try simp only [Exit.inBlock, Exit.then])
    exact bodyPost_ret (v := .tuple #[.slice A n c, .agg AL.toArray]) (results_tc (by rfl) _ _ (g + 1) 47 AL.toArray (0, 0) _ (by rfl) _ (by rfl) Hset.out Try.underlying47 rfl Ha1.out) rfl (rdo_post Hr.out HAL.out Hend.out.1 Hend.out.2)
  · have hx1 : decide (nu < 0) = false := by simpa using hlo
    have hx2 : decide (nu ≥ 1048576) = true := by
      have := numB_no hn
      simp; omega
    clear hfi hf hn
    go_enter Try.func15, Try.ntmps15
    go_upto_region 1 with fail
    change Code.wp _ _ _ _ ((w.alloc (.cells OL.toArray 44)).alloc (.cells ansZ.toArray 47))
    rw [← HWx.out, ← Hg.out]
    clear HWx
    go_wp2_with fail
    refine Calls.mono Hf.out ?_
    rintro e w' ⟨rfl, rfl⟩
    clear Hf
    go_upto_region 37 with fail
    obtain ⟨AL, hAL⟩ : ∃ z, z = ansC 2 false (Lib.byteCells zB) nilS := ⟨_, rfl⟩
    obtain ⟨⟨ha1, ha2⟩, ha3, ha4⟩ := HAi.out 2 AL hAL
    have Ha1 := Lib.hid ha1
    have Ha2 := Lib.hid ha2
    have Ha3 := Lib.hid ha3
    have Ha4 := Lib.hid ha4
    have HAL := Lib.hid hAL
    have Hend := Lib.hid (Hfin.out W0 (Below.refl _ _) _ _ _ _ (HV0.out.grow (Below.refl _ _)) AL)
    have HAn5 := Lib.hid (show Arr W0 (g + 1) 47 AZ from HAn.out)
    have Hset := Lib.hid (HAn5.out.setRow AL)
    clear hAL ha1 ha2 ha3 ha4 hc0 hc1 hc2 hc3 hc4
    go_wp2_with (first | (refine wpList_builtV rfl _ _ rfl _ rfl AL.toArray Ha4.out ?_) | (refine wpList_store_row rfl _ _ _ rfl (g + 1) AL.toArray rfl rfl 47 AZ.toArray HAn5.out Ha1.out Ha2.out Ha3.out ?_))
    (try simp only [Exit.inBlock, Exit.then])
    exact bodyPost_ret (v := .tuple #[.slice A n c, .agg AL.toArray]) (results_tc (by rfl) _ _ (g + 1) 47 AL.toArray (0, 0) _ (by rfl) _ (by rfl) Hset.out Try.underlying47 rfl Ha1.out) rfl (rdo_post Hr.out HAL.out Hend.out.1 Hend.out.2)

end Go.Proofs.Ytcajhndhjlfmaaa

/-
  The document's Do: snapshot and clone.
-/
import Derived.Test.YtcajhndhjlfmaaaModRDoA
namespace Go.Proofs.Ytcajhndhjlfmaaa
open Go.RowKit
set_option linter.unusedVariables false
set_option linter.unusedSimpArgs false
set_option maxRecDepth 100000

/-- A copy's quota. -/
def cpQ (L : List Vol) (o : Op15) : Int := if o.kind = 6 then quotaL L o.name else o.quota
theorem doL_copy {L : List Vol} {o : Op15} (h : o.kind = 6 ∨ o.kind = 7) : doL L o = ePair (copyL L o.name o.other (cpQ L o) (decide (o.kind = 6))) := by
  unfold doL cpQ
  rcases h with e | e
  · rw [if_neg (by omega), if_neg (by omega), if_neg (by omega), if_neg (by omega), if_neg (by omega), if_pos e, if_pos e, decide_eq_true e]
  · rw [if_neg (by omega), if_neg (by omega), if_neg (by omega), if_neg (by omega), if_neg (by omega), if_neg (by omega), if_pos e, if_neg (by omega), decide_eq_false (by omega)]

set_option maxHeartbeats 16000000 in
theorem rdo_cpnone (A : Option Addr) (n c : Nat) (L : List Vol) (o : Op15) (ho : OpOk o) (OL : List Value) (hOL : OL = opC o) (w : World) (G : Nat → Prop) (h : VSl w G A n c L) (hG : ∀ b, G b → b < w.heap.size) (hl : L.length ≤ 100000) (hrise : RiseV L) (hok : ∀ v ∈ L, ImgOk v) (h1 : o.kind = 6 ∨ o.kind = 7) (hf : findV L o.name = none) :
    Calls Try.prog 15 #[.slice A n c, .agg OL.toArray] w fun e w' => RDoPost o w G L e w' := by
  obtain ⟨hk0, hk1, hk2, hk3, hk4⟩ := opC_at hOL
  obtain ⟨W1, hW1⟩ : ∃ z, z = w.alloc (.cells OL.toArray 44) := ⟨_, rfl⟩
  have hb1 : Below w.heap.size w W1 := by rw [hW1]; exact (Below.refl _ _).alloc (Nat.le_refl _) _
  have hA1 : Arr W1 w.heap.size 44 OL := by rw [hW1]; exact Arr.new w _ _
  have hs1 : W1.heap.size = w.heap.size + 1 := by rw [hW1]; simp
  obtain ⟨AZ, hAZ⟩ : ∃ z, z = ansZ := ⟨_, rfl⟩
  obtain ⟨W0, hW0⟩ : ∃ z, z = W1.alloc (.cells AZ.toArray 47) := ⟨_, rfl⟩
  have hAn : Arr W0 (w.heap.size + 1) 47 AZ := by rw [hW0, ← hs1]; exact Arr.new W1 _ _
  have hb0 : Below W1.heap.size W1 W0 := by rw [hW0]; exact (Below.refl _ _).alloc (Nat.le_refl _) _
  have HWx : Hid (W0 = (w.alloc (.cells OL.toArray 44)).alloc (.cells ansZ.toArray 47)) := Lib.hid (by rw [hW0, hW1, hAZ])
  replace hA1 := hA1.up hb0
  replace hb1 := hb1.trans (hb0.mono hb1.size)
  obtain ⟨g, hg⟩ : ∃ z, z = w.heap.size := ⟨_, rfl⟩
  rw [← hg] at hA1 hAn
  have hgl : w.heap.size ≤ g + 1 := by omega
  have hg1 := hAn.lt
  obtain ⟨nm, hnm⟩ : ∃ z, z = o.name := ⟨_, rfl⟩
  obtain ⟨ot, hot⟩ : ∃ z, z = o.other := ⟨_, rfl⟩
  obtain ⟨kd, hkd⟩ : ∃ z, z = o.kind := ⟨_, rfl⟩
  obtain ⟨qt, hqt⟩ : ∃ z, z = o.quota := ⟨_, rfl⟩
  obtain ⟨nu, hnu⟩ : ∃ z, z = o.num := ⟨_, rfl⟩
  have hsz := ho.n1
  have hsz2 := ho.n2
  have hkr := ho.i3
  rw [← hkd] at hkr
  rw [← hnm] at hk1 hsz
  rw [← hot] at hk2 hsz2
  rw [← hkd] at hk0
  rw [← hqt] at hk4
  rw [← hnu] at hk3
  have hc0 : W0.cell? ⟨g, 0, none⟩ = some (.int .i64 kd) := by rw [hA1.cell]; exact hk0
  have hc1 : W0.cell? ⟨g, 1, none⟩ = some (.string nm) := by rw [hA1.cell]; exact hk1
  have hc2 : W0.cell? ⟨g, 2, none⟩ = some (.string ot) := by rw [hA1.cell]; exact hk2
  have hc3 : W0.cell? ⟨g, 3, none⟩ = some (.int .i64 nu) := by rw [hA1.cell]; exact hk3
  have hc4 : W0.cell? ⟨g, 4, none⟩ = some (.int .i64 qt) := by rw [hA1.cell]; exact hk4
  have HAi := Lib.hid (fun (k : Int) (AL : List Value) (h : AL = ansC k false (Lib.byteCells zB) nilS) => show ((Try.prog.info? 47).map (·.size) = some AL.toArray.size ∧ AZ.toArray.size = AL.toArray.size) ∧ AL.toArray.all (·.oneCell') = true ∧ Try.prog.built 47 [(0, .int .i64 k)] = some AL.toArray by
    subst h
    rw [List.size_toArray, List.size_toArray, ansC_length (by simp [Lib.byteCells, zB]), hAZ]
    exact ⟨⟨ansSize, rfl⟩, ansC_one rfl, ans_b0 k⟩)
  have HAn := Lib.hid hAn
  have HA1 := Lib.hid hA1
  have Hb1 := Lib.hid hb1
  have Ho := Lib.hid ho
  have HOL := Lib.hid hOL
  have HV0 := Lib.hid (h.below hb1)
  have Hf := Lib.hid ((h.below hb1).find nm hsz)
  have HV := Lib.hid h
  have HG := Lib.hid hG
  have HG0 := Lib.hid (show ∀ b, G b → b < W0.heap.size from fun b hb => Nat.lt_of_lt_of_le (hG b hb) hb1.size)
  have Hg := Lib.hid hg
  have Hl := Lib.hid hl
  have Hrise := Lib.hid hrise
  have Hok := Lib.hid hok
  have Hkd := Lib.hid hkd
  have Hnm := Lib.hid hnm
  have Hnu := Lib.hid hnu
  have Hqt := Lib.hid hqt
  have Hot := Lib.hid hot
  have Hfin := Lib.hid (fun (w5 : World) (hb : Below W0.heap.size W0 w5) (A' : Option Addr) (n' c' : Nat) (L' : List Vol) (hv : VSl w5 (fun b => G b ∨ W0.heap.size ≤ b) A' n' c' L') (AL : List Value) => fin_vs hb1 hgl (by omega) hG hb hv AL)
  have Hdo := Lib.hid (show doL L o = (if kd = 1 then ePair (createL L nm qt) else if kd = 2 then ePair (deleteL L nm) else if kd = 3 then ePair (writeL L nm nu o.blk) else if kd = 4 then ePair (trimL L nm nu) else if kd = 5 then (L, readL L nm nu) else if kd = 6 then ePair (copyL L nm ot (quotaL L nm) true) else if kd = 7 then ePair (copyL L nm ot qt false) else if kd = 8 then (L, ⟨0, false, zB, L.map (·.name)⟩) else (L, aE 1)) by rw [hkd, hnm, hot, hqt, hnu]; rfl)
  have HAZ := Lib.hid hAZ
  clear hnm hot hkd hqt hnu hk0 hk1 hk2 hk3 hk4 hOL ho h hl hb1 hA1 hb0 hs1 hW0 hW1 hAn hg hG hrise hok hgl hAZ
  obtain ⟨q, hq⟩ : ∃ z, cpQ L o = z := ⟨_, rfl⟩
  obtain ⟨mb, hmb⟩ : ∃ z, (namedB ot.data.toList && quotaB q) = z := ⟨_, rfl⟩
  have Hmay := Lib.hid (rmay_any ot hsz2 q W0 mb hmb)
  have hfi : findI L nm = -1 := by rw [findI_has, hasV_find, Hnm.out, hf]; rfl
  rw [hfi] at Hf
  have hneg : decide ((-1 : Int) < 0) = true := by simp
  have hneg2 : decide ((-1 : Int) ≥ 0) = false := by simp
  have Hr := Lib.hid (show doL L o = (L, aE (if mb = false then 1 else 5)) by
    rw [doL_copy h1, hq]
    unfold copyL ePair
    rw [← Hot.out, hmb, hf]
    cases mb <;> simp)
  have hq6 : kd = 6 → q = 0 := fun e => by rw [← hq]; unfold cpQ quotaL; rw [if_pos (by rw [← Hkd.out]; exact e), hf]
  have hq7 : kd = 7 → q = qt := fun e => by rw [← hq]; unfold cpQ; rw [if_neg (by rw [← Hkd.out]; omega), Hqt.out]
  clear hfi hf hmb hq
  rw [← Hkd.out] at h1
  have hn1 : ¬ kd = 1 := by omega
  have hb1 : (kd == 1) = false := by simpa using hn1
  have hn8 : ¬ kd = 8 := by omega
  have hb8 : (kd == 8) = false := by simpa using hn8
  rcases h1 with h6 | h7
  · have hb6 : (kd == 6) = true := by simpa using h6
    obtain rfl := hq6 h6
    clear hq6 hq7 h6
    go_enter Try.func15, Try.ntmps15
    go_upto_region 1 with fail
    change Code.wp _ _ _ _ ((w.alloc (.cells OL.toArray 44)).alloc (.cells ansZ.toArray 47))
    rw [← HWx.out, ← Hg.out]
    clear HWx
    go_wp2_with fail
    refine Calls.mono Hf.out ?_
    rintro e w' ⟨rfl, rfl⟩
    clear Hf
    go_wp2_with fail
    refine Calls.mono Hmay.out ?_
    rintro e w' ⟨rfl, rfl⟩
    clear Hmay
    cases mb with
    | false =>
      obtain ⟨AL, hAL⟩ : ∃ z, z = ansC 1 false (Lib.byteCells zB) nilS := ⟨_, rfl⟩
      obtain ⟨⟨ha1, ha2⟩, ha3, ha4⟩ := HAi.out 1 AL hAL
      have Ha1 := Lib.hid ha1
      have Ha2 := Lib.hid ha2
      have Ha3 := Lib.hid ha3
      have Ha4 := Lib.hid ha4
      have HAL := Lib.hid hAL
      have Hend := Lib.hid (Hfin.out W0 (Below.refl _ _) _ _ _ _ (HV0.out.grow (Below.refl _ _)) AL)
      have HAn5 := Lib.hid (show Arr W0 (g + 1) 47 AZ from HAn.out)
      have Hset := Lib.hid (HAn5.out.setRow AL)
      clear hAL ha1 ha2 ha3 ha4 hc0 hc1 hc2 hc3 hc4
      go_wp2_with (first | (refine wpList_builtV rfl _ _ rfl _ rfl AL.toArray Ha4.out ?_) | (refine wpList_store_row rfl _ _ _ rfl (g + 1) AL.toArray rfl rfl 47 AZ.toArray HAn5.out Ha1.out Ha2.out Ha3.out ?_))
      (try simp only [Exit.inBlock, Exit.then])
      exact bodyPost_ret (v := .tuple #[.slice A n c, .agg AL.toArray]) (results_tc (by rfl) _ _ (g + 1) 47 AL.toArray (0, 0) _ (by rfl) _ (by rfl) Hset.out Try.underlying47 rfl Ha1.out) rfl (rdo_post Hr.out HAL.out Hend.out.1 Hend.out.2)
    | true =>
      obtain ⟨AL, hAL⟩ : ∃ z, z = ansC 5 false (Lib.byteCells zB) nilS := ⟨_, rfl⟩
      obtain ⟨⟨ha1, ha2⟩, ha3, ha4⟩ := HAi.out 5 AL hAL
      have Ha1 := Lib.hid ha1
      have Ha2 := Lib.hid ha2
      have Ha3 := Lib.hid ha3
      have Ha4 := Lib.hid ha4
      have HAL := Lib.hid hAL
      have Hend := Lib.hid (Hfin.out W0 (Below.refl _ _) _ _ _ _ (HV0.out.grow (Below.refl _ _)) AL)
      have HAn5 := Lib.hid (show Arr W0 (g + 1) 47 AZ from HAn.out)
      have Hset := Lib.hid (HAn5.out.setRow AL)
      clear hAL ha1 ha2 ha3 ha4 hc0 hc1 hc2 hc3 hc4
      go_wp2_with (first | (refine wpList_builtV rfl _ _ rfl _ rfl AL.toArray Ha4.out ?_) | (refine wpList_store_row rfl _ _ _ rfl (g + 1) AL.toArray rfl rfl 47 AZ.toArray HAn5.out Ha1.out Ha2.out Ha3.out ?_))
      (try simp only [Exit.inBlock, Exit.then])
      exact bodyPost_ret (v := .tuple #[.slice A n c, .agg AL.toArray]) (results_tc (by rfl) _ _ (g + 1) 47 AL.toArray (0, 0) _ (by rfl) _ (by rfl) Hset.out Try.underlying47 rfl Ha1.out) rfl (rdo_post Hr.out HAL.out Hend.out.1 Hend.out.2)
  · have hb7 : (kd == 7) = true := by simpa using h7
    have hn6 : ¬ kd = 6 := by omega
    have hb6 : (kd == 6) = false := by simpa using hn6
    obtain rfl := hq7 h7
    clear hq6 hq7 h7
    go_enter Try.func15, Try.ntmps15
    go_upto_region 1 with fail
    change Code.wp _ _ _ _ ((w.alloc (.cells OL.toArray 44)).alloc (.cells ansZ.toArray 47))
    rw [← HWx.out, ← Hg.out]
    clear HWx
    go_wp2_with fail
    refine Calls.mono Hf.out ?_
    rintro e w' ⟨rfl, rfl⟩
    clear Hf
    go_wp2_with fail
    refine Calls.mono Hmay.out ?_
    rintro e w' ⟨rfl, rfl⟩
    clear Hmay
    cases mb with
    | false =>
      obtain ⟨AL, hAL⟩ : ∃ z, z = ansC 1 false (Lib.byteCells zB) nilS := ⟨_, rfl⟩
      obtain ⟨⟨ha1, ha2⟩, ha3, ha4⟩ := HAi.out 1 AL hAL
      have Ha1 := Lib.hid ha1
      have Ha2 := Lib.hid ha2
      have Ha3 := Lib.hid ha3
      have Ha4 := Lib.hid ha4
      have HAL := Lib.hid hAL
      have Hend := Lib.hid (Hfin.out W0 (Below.refl _ _) _ _ _ _ (HV0.out.grow (Below.refl _ _)) AL)
      have HAn5 := Lib.hid (show Arr W0 (g + 1) 47 AZ from HAn.out)
      have Hset := Lib.hid (HAn5.out.setRow AL)
      clear hAL ha1 ha2 ha3 ha4 hc0 hc1 hc2 hc3 hc4
      go_wp2_with (first | (refine wpList_builtV rfl _ _ rfl _ rfl AL.toArray Ha4.out ?_) | (refine wpList_store_row rfl _ _ _ rfl (g + 1) AL.toArray rfl rfl 47 AZ.toArray HAn5.out Ha1.out Ha2.out Ha3.out ?_))
      (try simp only [Exit.inBlock, Exit.then])
      exact bodyPost_ret (v := .tuple #[.slice A n c, .agg AL.toArray]) (results_tc (by rfl) _ _ (g + 1) 47 AL.toArray (0, 0) _ (by rfl) _ (by rfl) Hset.out Try.underlying47 rfl Ha1.out) rfl (rdo_post Hr.out HAL.out Hend.out.1 Hend.out.2)
    | true =>
      obtain ⟨AL, hAL⟩ : ∃ z, z = ansC 5 false (Lib.byteCells zB) nilS := ⟨_, rfl⟩
      obtain ⟨⟨ha1, ha2⟩, ha3, ha4⟩ := HAi.out 5 AL hAL
      have Ha1 := Lib.hid ha1
      have Ha2 := Lib.hid ha2
      have Ha3 := Lib.hid ha3
      have Ha4 := Lib.hid ha4
      have HAL := Lib.hid hAL
      have Hend := Lib.hid (Hfin.out W0 (Below.refl _ _) _ _ _ _ (HV0.out.grow (Below.refl _ _)) AL)
      have HAn5 := Lib.hid (show Arr W0 (g + 1) 47 AZ from HAn.out)
      have Hset := Lib.hid (HAn5.out.setRow AL)
      clear hAL ha1 ha2 ha3 ha4 hc0 hc1 hc2 hc3 hc4
      go_wp2_with (first | (refine wpList_builtV rfl _ _ rfl _ rfl AL.toArray Ha4.out ?_) | (refine wpList_store_row rfl _ _ _ rfl (g + 1) AL.toArray rfl rfl 47 AZ.toArray HAn5.out Ha1.out Ha2.out Ha3.out ?_))
      (try simp only [Exit.inBlock, Exit.then])
      exact bodyPost_ret (v := .tuple #[.slice A n c, .agg AL.toArray]) (results_tc (by rfl) _ _ (g + 1) 47 AL.toArray (0, 0) _ (by rfl) _ (by rfl) Hset.out Try.underlying47 rfl Ha1.out) rfl (rdo_post Hr.out HAL.out Hend.out.1 Hend.out.2)

end Go.Proofs.Ytcajhndhjlfmaaa

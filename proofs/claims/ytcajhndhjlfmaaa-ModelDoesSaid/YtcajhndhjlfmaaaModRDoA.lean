/-
  The document's Do: what its answers are; create.
-/
import Derived.Test.YtcajhndhjlfmaaaModRDoM
namespace Go.Proofs.Ytcajhndhjlfmaaa
open Go.RowKit
set_option linter.unusedVariables false
set_option linter.unusedSimpArgs false
set_option maxRecDepth 100000

theorem below_row {a w : World} (h : Below a.heap.size a w) {g : Nat} (hg : a.heap.size ≤ g) (cs : Array Value) : Below a.heap.size a (w.setRow g cs) :=
  h.trans (((Only.refl (fun b => b = g) w).setRow (.inl rfl) cs).below h.size (by rintro i rfl; exact hg))
theorem hasV_no {L : List Vol} {nm : ByteArray} (h : hasV L nm = false) : ∀ v ∈ L, v.name ≠ nm := fun v hv e => by
  unfold hasV at h
  have := List.any_eq_false.1 h v hv
  rw [decide_eq_true_eq] at this
  exact this (by rw [vkey, e])

/-- What the document's Do leaves behind. -/
def RDoPost (o : Op15) (w : World) (G : Nat → Prop) (L : List Vol) (e : Ending) (w' : World) : Prop :=
  ∃ A' n' c' nv, e = .returned (.tuple #[.slice A' n' c', .agg (ansV (doL L o).2 nv).toArray]) ∧ VSl w' (fun b => G b ∨ w.heap.size ≤ b) A' n' c' (doL L o).1 ∧ NmsAt w' w.heap.size nv (doL L o).2.nms ∧ Below w.heap.size w w'
theorem rdo_post {o : Op15} {w w' : World} {G : Nat → Prop} {L L' : List Vol} {k : Int} {A' : Option Addr} {n' c' : Nat} {AL : List Value} (hdo : doL L o = (L', aE k)) (hAL : AL = ansC k false (Lib.byteCells zB) nilS) (h1 : VSl w' (fun b => G b ∨ w.heap.size ≤ b) A' n' c' L') (h2 : Below w.heap.size w w') : RDoPost o w G L (.returned (.tuple #[.slice A' n' c', .agg AL.toArray])) w' := by
  refine ⟨A', n', c', nilS, ?_, ?_, ?_, h2⟩
  · rw [hdo, hAL]; rfl
  · rw [hdo]; exact h1
  · rw [hdo]; exact nms_nil _ _
theorem fin_vs {w W0 w5 : World} {G : Nat → Prop} {g n' c' : Nat} {A' : Option Addr} {L' : List Vol} (hb1 : Below w.heap.size w W0) (hgl : w.heap.size ≤ g + 1) (hg1 : g + 1 < W0.heap.size ∧ g = w.heap.size) (hG : ∀ b, G b → b < w.heap.size) (hb : Below W0.heap.size W0 w5) (hv : VSl w5 (fun b => G b ∨ W0.heap.size ≤ b) A' n' c' L') (AL : List Value) :
    VSl (w5.setRow (g + 1) AL.toArray) (fun b => G b ∨ w.heap.size ≤ b) A' n' c' L' ∧ Below w.heap.size w (w5.setRow (g + 1) AL.toArray) := by
  refine ⟨?_, below_row (hb1.trans (hb.mono hb1.size)) hgl AL.toArray⟩
  have hO := (Only.refl (fun k => k = g + 1) w5).setRow (g := g + 1) (.inl rfl) AL.toArray
  refine (hv.only hO fun b hb e => ?_).more fun b _ hb => ?_
  · rcases hb with hb | hb
    · have := hG b hb; omega
    · omega
  · rcases hb with hb | hb
    · exact .inl hb
    · have := hb1.size; exact .inr (by omega)

set_option maxHeartbeats 16000000 in
theorem rdo_create (A : Option Addr) (n c : Nat) (L : List Vol) (o : Op15) (ho : OpOk o) (OL : List Value) (hOL : OL = opC o) (w : World) (G : Nat → Prop) (h : VSl w G A n c L) (hG : ∀ b, G b → b < w.heap.size) (hl : L.length ≤ 100000) (hrise : RiseV L) (hok : ∀ v ∈ L, ImgOk v) (h1 : o.kind = 1) :
    Calls Try.prog 15 #[.slice A n c, .agg OL.toArray] w fun e w' => RDoPost o w G L e w' := by
  obtain ⟨hk0, hk1, hk2, hk3, hk4⟩ := opC_at hOL
  obtain ⟨W1, hW1⟩ : ∃ z, z = w.alloc (.cells OL.toArray 44) := ⟨_, rfl⟩
  have hb1 : Below w.heap.size w W1 := by rw [hW1]; exact (Below.refl _ _).alloc (Nat.le_refl _) _
  have hA1 : Arr W1 w.heap.size 44 OL := by rw [hW1]; exact Arr.new w _ _
  have hs1 : W1.heap.size = w.heap.size + 1 := by rw [hW1]; simp
  obtain ⟨AZ, hAZ⟩ : ∃ z, z = ansZ := ⟨_, rfl⟩
  obtain ⟨W0, hW0⟩ : ∃ z, z = W1.alloc (.cells AZ.toArray 47) := ⟨_, rfl⟩
  have hAn : Arr W0 (w.heap.size + 1) 47 AZ := by rw [hW0, ← hs1]; exact Arr.new W1 _ _
  have hb0 : Below W1.heap.size W1 W0 := by rw [hW0]; exact (Below.refl _ _).alloc (Nat.le_refl _) _
  have HWx : Hid (W0 = (w.alloc (.cells OL.toArray 44)).alloc (.cells ansZ.toArray 47)) := Lib.hid (by rw [hW0, hW1, hAZ])
  replace hA1 := hA1.up hb0
  replace hb1 := hb1.trans (hb0.mono hb1.size)
  obtain ⟨g, hg⟩ : ∃ z, z = w.heap.size := ⟨_, rfl⟩
  rw [← hg] at hA1 hAn
  have hgl : w.heap.size ≤ g + 1 := by omega
  have hg1 := hAn.lt
  obtain ⟨nm, hnm⟩ : ∃ z, z = o.name := ⟨_, rfl⟩
  obtain ⟨ot, hot⟩ : ∃ z, z = o.other := ⟨_, rfl⟩
  obtain ⟨kd, hkd⟩ : ∃ z, z = o.kind := ⟨_, rfl⟩
  obtain ⟨qt, hqt⟩ : ∃ z, z = o.quota := ⟨_, rfl⟩
  obtain ⟨nu, hnu⟩ : ∃ z, z = o.num := ⟨_, rfl⟩
  have hsz := ho.n1
  have hsz2 := ho.n2
  have hkr := ho.i3
  rw [← hkd] at hkr
  rw [← hnm] at hk1 hsz
  rw [← hot] at hk2 hsz2
  rw [← hkd] at hk0
  rw [← hqt] at hk4
  rw [← hnu] at hk3
  have hc0 : W0.cell? ⟨g, 0, none⟩ = some (.int .i64 kd) := by rw [hA1.cell]; exact hk0
  have hc1 : W0.cell? ⟨g, 1, none⟩ = some (.string nm) := by rw [hA1.cell]; exact hk1
  have hc2 : W0.cell? ⟨g, 2, none⟩ = some (.string ot) := by rw [hA1.cell]; exact hk2
  have hc3 : W0.cell? ⟨g, 3, none⟩ = some (.int .i64 nu) := by rw [hA1.cell]; exact hk3
  have hc4 : W0.cell? ⟨g, 4, none⟩ = some (.int .i64 qt) := by rw [hA1.cell]; exact hk4
  have HAi := Lib.hid (fun (k : Int) (AL : List Value) (h : AL = ansC k false (Lib.byteCells zB) nilS) => show ((Try.prog.info? 47).map (·.size) = some AL.toArray.size ∧ AZ.toArray.size = AL.toArray.size) ∧ AL.toArray.all (·.oneCell') = true ∧ Try.prog.built 47 [(0, .int .i64 k)] = some AL.toArray by
    subst h
    rw [List.size_toArray, List.size_toArray, ansC_length (by simp [Lib.byteCells, zB]), hAZ]
    exact ⟨⟨ansSize, rfl⟩, ansC_one rfl, ans_b0 k⟩)
  have HAn := Lib.hid hAn
  have HA1 := Lib.hid hA1
  have Hb1 := Lib.hid hb1
  have Ho := Lib.hid ho
  have HOL := Lib.hid hOL
  have HV0 := Lib.hid (h.below hb1)
  have Hf := Lib.hid ((h.below hb1).find nm hsz)
  have HV := Lib.hid h
  have HG := Lib.hid hG
  have HG0 := Lib.hid (show ∀ b, G b → b < W0.heap.size from fun b hb => Nat.lt_of_lt_of_le (hG b hb) hb1.size)
  have Hg := Lib.hid hg
  have Hl := Lib.hid hl
  have Hrise := Lib.hid hrise
  have Hok := Lib.hid hok
  have Hkd := Lib.hid hkd
  have Hnm := Lib.hid hnm
  have Hnu := Lib.hid hnu
  have Hqt := Lib.hid hqt
  have Hot := Lib.hid hot
  have Hfin := Lib.hid (fun (w5 : World) (hb : Below W0.heap.size W0 w5) (A' : Option Addr) (n' c' : Nat) (L' : List Vol) (hv : VSl w5 (fun b => G b ∨ W0.heap.size ≤ b) A' n' c' L') (AL : List Value) => fin_vs hb1 hgl (by omega) hG hb hv AL)
  have Hdo := Lib.hid (show doL L o = (if kd = 1 then ePair (createL L nm qt) else if kd = 2 then ePair (deleteL L nm) else if kd = 3 then ePair (writeL L nm nu o.blk) else if kd = 4 then ePair (trimL L nm nu) else if kd = 5 then (L, readL L nm nu) else if kd = 6 then ePair (copyL L nm ot (quotaL L nm) true) else if kd = 7 then ePair (copyL L nm ot qt false) else if kd = 8 then (L, ⟨0, false, zB, L.map (·.name)⟩) else (L, aE 1)) by rw [hkd, hnm, hot, hqt, hnu]; rfl)
  have HAZ := Lib.hid hAZ
  clear hnm hot hkd hqt hnu hk0 hk1 hk2 hk3 hk4 hOL ho h hl hb1 hA1 hb0 hs1 hW0 hW1 hAn hg hG hrise hok hgl hAZ
  rw [← Hkd.out] at h1
  have hd1 : decide (kd = 1) = true := by simpa using h1
  obtain ⟨mb, hmb⟩ : ∃ z, (namedB nm.data.toList && quotaB qt) = z := ⟨_, rfl⟩
  have Hmay := Lib.hid (rmay_any nm hsz qt W0 mb hmb)
  have Hmb := Lib.hid hmb
  obtain ⟨fi, hfi⟩ : ∃ z, findI L nm = z := ⟨_, rfl⟩
  have Hfi := Lib.hid hfi
  rw [hfi] at Hf
  clear hmb hfi
  go_enter Try.func15, Try.ntmps15
  go_upto_region 1 with fail
  change Code.wp _ _ _ _ ((w.alloc (.cells OL.toArray 44)).alloc (.cells ansZ.toArray 47))
  rw [← HWx.out, ← Hg.out]
  clear HWx
  go_wp2_with fail
  refine Calls.mono Hf.out ?_
  rintro e w' ⟨rfl, rfl⟩
  clear Hf
  go_wp2_with fail
  refine Calls.mono Hmay.out ?_
  rintro e w' ⟨rfl, rfl⟩
  clear Hmay
  cases mb with
  | false =>
    have Hr := Lib.hid (show doL L o = (L, aE 1) by rw [Hdo.out, if_pos h1]; unfold createL; rw [Hmb.out, if_pos rfl]; rfl)
    obtain ⟨AL, hAL⟩ : ∃ z, z = ansC 1 false (Lib.byteCells zB) nilS := ⟨_, rfl⟩
    obtain ⟨⟨ha1, ha2⟩, ha3, ha4⟩ := HAi.out 1 AL hAL
    have Ha1 := Lib.hid ha1
    have Ha2 := Lib.hid ha2
    have Ha3 := Lib.hid ha3
    have Ha4 := Lib.hid ha4
    have HAL := Lib.hid hAL
    have Hend := Lib.hid (Hfin.out W0 (Below.refl _ _) _ _ _ _ (HV0.out.grow (Below.refl _ _)) AL)
    have HAn5 := Lib.hid (show Arr W0 (g + 1) 47 AZ from HAn.out)
    have Hset := Lib.hid (HAn5.out.setRow AL)
    clear hAL ha1 ha2 ha3 ha4 hc0 hc1 hc2 hc3 hc4
    go_wp2_with (first | (refine wpList_builtV rfl _ _ rfl _ rfl AL.toArray Ha4.out ?_) | (refine wpList_store_row rfl _ _ _ rfl (g + 1) AL.toArray rfl rfl 47 AZ.toArray HAn5.out Ha1.out Ha2.out Ha3.out ?_))
    (try simp only [Exit.inBlock, Exit.then])
    exact bodyPost_ret (v := .tuple #[.slice A n c, .agg AL.toArray]) (results_tc (by rfl) _ _ (g + 1) 47 AL.toArray (0, 0) _ (by rfl) _ (by rfl) Hset.out Try.underlying47 rfl Ha1.out) rfl (rdo_post Hr.out HAL.out Hend.out.1 Hend.out.2)
  | true =>
    by_cases hneg : fi < 0
    · have hhas : hasV L nm = false := by
        cases hh : hasV L nm with
        | false => rfl
        | true => obtain ⟨i, hi⟩ := findI_pos hh; rw [← Hfi.out, hi] at hneg; omega
      have hd2 : decide (fi ≥ 0) = false := by simpa using hneg
      have Hr := Lib.hid (show doL L o = (insV ⟨nm, qt.toNat, false, []⟩ L, aE 0) by rw [Hdo.out, if_pos h1]; unfold createL; rw [Hmb.out, if_neg (by simp), hhas, if_neg (by simp)]; rfl)
      have hno : ∀ v ∈ L, vkey v ≠ nm.data.toList := fun v hv e => hasV_no hhas v hv (ba_ext e)
      have hqy := quotaB_yes (Bool.and_eq_true_iff.1 Hmb.out).2
      obtain ⟨qn, hqn⟩ := Int.eq_ofNat_of_zero_le hqy.1
      have hq20 := hqy.2
      subst hqn
      obtain ⟨VL, hVL⟩ : ∃ VL, VL = volC ⟨⟨nm, qn, false, []⟩, none, 0⟩ := ⟨_, rfl⟩
      have HB := Lib.hid (show Try.prog.built 106 [(0, .string nm), (1, .int .i64 (qn : Nat))] = some VL.toArray by rw [hVL]; exact vl_built2 nm qn)
      have Hadd := Lib.hid (add12_any A n c L ⟨⟨nm, qn, false, []⟩, none, 0⟩ VL hVL W0 G HV0.out HG0.out (VxOk.fresh hsz (by omega)) Hl.out hno)
      clear hhas hno hVL hqy
      go_upto_region 7 with fail
      go_wp2_with (refine wpList_builtV rfl _ _ rfl _ rfl VL.toArray HB.out ?_)
      refine Calls.mono Hadd.out ?_
      rintro e w5 ⟨A', n', c', rfl, hvs, hb5⟩
      have Hvs := Lib.hid hvs
      have Hb5 := Lib.hid hb5
      clear hvs Hadd hb5
      obtain ⟨AL, hAL⟩ : ∃ z, z = ansC 0 false (Lib.byteCells zB) nilS := ⟨_, rfl⟩
      obtain ⟨⟨ha1, ha2⟩, ha3, ha4⟩ := HAi.out 0 AL hAL
      have Ha1 := Lib.hid ha1
      have Ha2 := Lib.hid ha2
      have Ha3 := Lib.hid ha3
      have Ha4 := Lib.hid ha4
      have HAL := Lib.hid hAL
      have Hend := Lib.hid (Hfin.out w5 Hb5.out _ _ _ _ Hvs.out AL)
      have HAn5 := Lib.hid (show Arr w5 (g + 1) 47 AZ from HAn.out.up Hb5.out)
      have Hset := Lib.hid (HAn5.out.setRow AL)
      clear hAL ha1 ha2 ha3 ha4 hc0 hc1 hc2 hc3 hc4
      go_wp2_with (first | (refine wpList_builtV rfl _ _ rfl _ rfl AL.toArray Ha4.out ?_) | (refine wpList_store_row rfl _ _ _ rfl (g + 1) AL.toArray rfl rfl 47 AZ.toArray HAn5.out Ha1.out Ha2.out Ha3.out ?_))
      (try simp only [Exit.inBlock, Exit.then])
      exact bodyPost_ret (v := .tuple #[_, .agg AL.toArray]) (results_tc (by rfl) _ _ (g + 1) 47 AL.toArray (0, 0) _ (by rfl) _ (by rfl) Hset.out Try.underlying47 rfl Ha1.out) rfl (rdo_post Hr.out HAL.out Hend.out.1 Hend.out.2)
    · have hhas : hasV L nm = true := by
        cases hh : hasV L nm with
        | true => rfl
        | false => have := findI_has.2 hh; rw [Hfi.out] at this; omega
      have hd2 : decide (fi ≥ 0) = true := by simpa using hneg
      have Hr := Lib.hid (show doL L o = (L, aE 6) by rw [Hdo.out, if_pos h1]; unfold createL; rw [Hmb.out, if_neg (by simp), hhas, if_pos rfl]; rfl)
      obtain ⟨AL, hAL⟩ : ∃ z, z = ansC 6 false (Lib.byteCells zB) nilS := ⟨_, rfl⟩
      obtain ⟨⟨ha1, ha2⟩, ha3, ha4⟩ := HAi.out 6 AL hAL
      have Ha1 := Lib.hid ha1
      have Ha2 := Lib.hid ha2
      have Ha3 := Lib.hid ha3
      have Ha4 := Lib.hid ha4
      have HAL := Lib.hid hAL
      have Hend := Lib.hid (Hfin.out W0 (Below.refl _ _) _ _ _ _ (HV0.out.grow (Below.refl _ _)) AL)
      have HAn5 := Lib.hid (show Arr W0 (g + 1) 47 AZ from HAn.out)
      have Hset := Lib.hid (HAn5.out.setRow AL)
      clear hAL ha1 ha2 ha3 ha4 hc0 hc1 hc2 hc3 hc4
      go_wp2_with (first | (refine wpList_builtV rfl _ _ rfl _ rfl AL.toArray Ha4.out ?_) | (refine wpList_store_row rfl _ _ _ rfl (g + 1) AL.toArray rfl rfl 47 AZ.toArray HAn5.out Ha1.out Ha2.out Ha3.out ?_))
      (try simp only [Exit.inBlock, Exit.then])
      exact bodyPost_ret (v := .tuple #[.slice A n c, .agg AL.toArray]) (results_tc (by rfl) _ _ (g + 1) 47 AL.toArray (0, 0) _ (by rfl) _ (by rfl) Hset.out Try.underlying47 rfl Ha1.out) rfl (rdo_post Hr.out HAL.out Hend.out.1 Hend.out.2)

end Go.Proofs.Ytcajhndhjlfmaaa

/-
  The document's Do: where the block's number is looked for; a frozen volume.
-/
import Derived.Test.YtcajhndhjlfmaaaModRDoB
import Derived.Test.YtcajhndhjlfmaaaModRDoG
namespace Go.Proofs.Ytcajhndhjlfmaaa
open Go.RowKit
set_option linter.unusedVariables false
set_option linter.unusedSimpArgs false
set_option maxRecDepth 100000

/-- The last of the first k blocks that has the number; -1: none has. -/
def hadI (cs : List Cl) (nu : Int) : Nat → Int
  | 0 => -1
  | k + 1 => match cs[k]? with
    | some c => if (c.1 : Int) = nu then (k : Nat) else hadI cs nu k
    | none => hadI cs nu k
theorem hadI_yes {cs : List Cl} {nu : Int} {k : Nat} {c : Cl} (h : cs[k]? = some c) (e : (c.1 : Int) = nu) : hadI cs nu (k + 1) = (k : Nat) := by
  unfold hadI; rw [h]; exact if_pos e
theorem hadI_no {cs : List Cl} {nu : Int} {k : Nat} {c : Cl} (h : cs[k]? = some c) (e : ¬ (c.1 : Int) = nu) : hadI cs nu (k + 1) = hadI cs nu k := by
  conv => lhs; unfold hadI
  rw [h]; exact if_neg e
theorem doL_frozen {L : List Vol} {o : Op15} {v : Vol} (h1 : o.kind = 3 ∨ o.kind = 4) (hf : findV L o.name = some v) (hn : numB o.num = true) (hz : v.frozen = true) : doL L o = (L, aE 10) := by
  unfold doL ePair
  rcases h1 with e | e
  · rw [if_neg (by omega), if_neg (by omega), if_pos e]; unfold writeL ofE; rw [hf]; simp [hn, hz]
  · rw [if_neg (by omega), if_neg (by omega), if_neg (by omega), if_pos e]; unfold trimL ofE; rw [hf]; simp [hn, hz]

set_option maxHeartbeats 32000000 in
theorem rdo_frozen (A : Option Addr) (n c : Nat) (L : List Vol) (o : Op15) (ho : OpOk o) (OL : List Value) (hOL : OL = opC o) (w : World) (G : Nat → Prop) (h : VSl w G A n c L) (hG : ∀ b, G b → b < w.heap.size) (hl : L.length ≤ 100000) (hrise : RiseV L) (hok : ∀ v ∈ L, ImgOk v) (h1 : o.kind = 3 ∨ o.kind = 4) (v : Vol) (hf : findV L o.name = some v) (hn : numB o.num = true) (hz : v.frozen = true) :
    Calls Try.prog 15 #[.slice A n c, .agg OL.toArray] w fun e w' => RDoPost o w G L e w' := by
  obtain ⟨hk0, hk1, hk2, hk3, hk4⟩ := opC_at hOL
  obtain ⟨W1, hW1⟩ : ∃ z, z = w.alloc (.cells OL.toArray 44) := ⟨_, rfl⟩
  have hb1 : Below w.heap.size w W1 := by rw [hW1]; exact (Below.refl _ _).alloc (Nat.le_refl _) _
  have hA1 : Arr W1 w.heap.size 44 OL := by rw [hW1]; exact Arr.new w _ _
  have hs1 : W1.heap.size = w.heap.size + 1 := by rw [hW1]; simp
  obtain ⟨AZ, hAZ⟩ : ∃ z, z = ansZ := ⟨_, rfl⟩
  obtain ⟨W0, hW0⟩ : ∃ z, z = W1.alloc (.cells AZ.toArray 47) := ⟨_, rfl⟩
  have hAn : Arr W0 (w.heap.size + 1) 47 AZ := by rw [hW0, ← hs1]; exact Arr.new W1 _ _
  have hb0 : Below W1.heap.size W1 W0 := by rw [hW0]; exact (Below.refl _ _).alloc (Nat.le_refl _) _
  have HWx : Hid (W0 = (w.alloc (.cells OL.toArray 44)).alloc (.cells ansZ.toArray 47)) := Lib.hid (by rw [hW0, hW1, hAZ])
  replace hA1 := hA1.up hb0
  replace hb1 := hb1.trans (hb0.mono hb1.size)
  obtain ⟨g, hg⟩ : ∃ z, z = w.heap.size := ⟨_, rfl⟩
  rw [← hg] at hA1 hAn
  have hgl : w.heap.size ≤ g + 1 := by omega
  have hg1 := hAn.lt
  obtain ⟨nm, hnm⟩ : ∃ z, z = o.name := ⟨_, rfl⟩
  obtain ⟨ot, hot⟩ : ∃ z, z = o.other := ⟨_, rfl⟩
  obtain ⟨kd, hkd⟩ : ∃ z, z = o.kind := ⟨_, rfl⟩
  obtain ⟨qt, hqt⟩ : ∃ z, z = o.quota := ⟨_, rfl⟩
  obtain ⟨nu, hnu⟩ : ∃ z, z = o.num := ⟨_, rfl⟩
  have hsz := ho.n1
  have hsz2 := ho.n2
  have hkr := ho.i3
  rw [← hkd] at hkr
  rw [← hnm] at hk1 hsz
  rw [← hot] at hk2 hsz2
  rw [← hkd] at hk0
  rw [← hqt] at hk4
  rw [← hnu] at hk3
  have hc0 : W0.cell? ⟨g, 0, none⟩ = some (.int .i64 kd) := by rw [hA1.cell]; exact hk0
  have hc1 : W0.cell? ⟨g, 1, none⟩ = some (.string nm) := by rw [hA1.cell]; exact hk1
  have hc2 : W0.cell? ⟨g, 2, none⟩ = some (.string ot) := by rw [hA1.cell]; exact hk2
  have hc3 : W0.cell? ⟨g, 3, none⟩ = some (.int .i64 nu) := by rw [hA1.cell]; exact hk3
  have hc4 : W0.cell? ⟨g, 4, none⟩ = some (.int .i64 qt) := by rw [hA1.cell]; exact hk4
  have HAi := Lib.hid (fun (k : Int) (AL : List Value) (h : AL = ansC k false (Lib.byteCells zB) nilS) => show ((Try.prog.info? 47).map (·.size) = some AL.toArray.size ∧ AZ.toArray.size = AL.toArray.size) ∧ AL.toArray.all (·.oneCell') = true ∧ Try.prog.built 47 [(0, .int .i64 k)] = some AL.toArray by
    subst h
    rw [List.size_toArray, List.size_toArray, ansC_length (by simp [Lib.byteCells, zB]), hAZ]
    exact ⟨⟨ansSize, rfl⟩, ansC_one rfl, ans_b0 k⟩)
  have HAn := Lib.hid hAn
  have HA1 := Lib.hid hA1
  have Hb1 := Lib.hid hb1
  have Ho := Lib.hid ho
  have HOL := Lib.hid hOL
  have HV0 := Lib.hid (h.below hb1)
  have Hf := Lib.hid ((h.below hb1).find nm hsz)
  have HV := Lib.hid h
  have HG := Lib.hid hG
  have HG0 := Lib.hid (show ∀ b, G b → b < W0.heap.size from fun b hb => Nat.lt_of_lt_of_le (hG b hb) hb1.size)
  have Hg := Lib.hid hg
  have Hl := Lib.hid hl
  have Hrise := Lib.hid hrise
  have Hok := Lib.hid hok
  have Hkd := Lib.hid hkd
  have Hnm := Lib.hid hnm
  have Hnu := Lib.hid hnu
  have Hqt := Lib.hid hqt
  have Hot := Lib.hid hot
  have Hfin := Lib.hid (fun (w5 : World) (hb : Below W0.heap.size W0 w5) (A' : Option Addr) (n' c' : Nat) (L' : List Vol) (hv : VSl w5 (fun b => G b ∨ W0.heap.size ≤ b) A' n' c' L') (AL : List Value) => fin_vs hb1 hgl (by omega) hG hb hv AL)
  have Hdo := Lib.hid (show doL L o = (if kd = 1 then ePair (createL L nm qt) else if kd = 2 then ePair (deleteL L nm) else if kd = 3 then ePair (writeL L nm nu o.blk) else if kd = 4 then ePair (trimL L nm nu) else if kd = 5 then (L, readL L nm nu) else if kd = 6 then ePair (copyL L nm ot (quotaL L nm) true) else if kd = 7 then ePair (copyL L nm ot qt false) else if kd = 8 then (L, ⟨0, false, zB, L.map (·.name)⟩) else (L, aE 1)) by rw [hkd, hnm, hot, hqt, hnu]; rfl)
  have HAZ := Lib.hid hAZ
  clear hnm hot hkd hqt hnu hk0 hk1 hk2 hk3 hk4 hOL ho h hl hb1 hA1 hb0 hs1 hW0 hW1 hAn hg hG hrise hok hgl hAZ
  obtain ⟨i, hfi, hLi⟩ := findI_at (show findV L nm = some v by rw [Hnm.out]; exact hf)
  rw [hfi] at Hf
  have hneg : decide (((i : Nat) : Int) < 0) = false := by simp
  obtain ⟨b, off, rfl, hin, Ac, cc, a0, a1', a2', a3', hvx, hrow⟩ := HV.out.at_ hLi
  have hbw : b < w.heap.size := cell_ltC a0
  have a1 := (World.cell?_of_block (Hb1.out.block b hbw)).trans a1'
  have a2 := (World.cell?_of_block (Hb1.out.block b hbw)).trans a2'
  have a3 := (World.cell?_of_block (Hb1.out.block b hbw)).trans a3'
  have hcn : n ≤ c ∧ c ≤ 9223372036854775807 ∧ n ≤ 100000 := by
    obtain ⟨xs, hx, hn', hc, hm, _⟩ := HV.out
    have hl := Hl.out
    unfold maxLen at hm
    rw [← hx, List.length_map, hn'] at hl
    exact ⟨hc, by omega, hl⟩
  have hny := numB_yes (show numB nu = true by rw [Hnu.out]; exact hn)
  have hx1 : decide (nu < 0) = false := by simp; omega
  have hx2 : decide (nu ≥ 1048576) = false := by simp; omega
  rw [← Hkd.out] at h1
  have hn1 : ¬ kd = 1 := by omega
  have hb1 : (kd == 1) = false := by simpa using hn1
  have hn8 : ¬ kd = 8 := by omega
  have hb8 : (kd == 8) = false := by simpa using hn8
  have hn6 : ¬ kd = 6 := by omega
  have hb6 : (kd == 6) = false := by simpa using hn6
  have hn7 : ¬ kd = 7 := by omega
  have hb7 : (kd == 7) = false := by simpa using hn7
  have hn2 : ¬ kd = 2 := by omega
  have hb2 : (kd == 2) = false := by simpa using hn2
  have hdl : decide (kd < 1) = false := by simp; omega
  have hdh : decide (kd > 8) = false := by simp; omega
  obtain ⟨lx, hlx⟩ : ∃ z, v.cells.length = z := ⟨_, rfl⟩
  have hx3 : lx ≤ cc ∧ cc ≤ 9223372036854775807 := by rw [← hlx]; exact ⟨hvx.le, by have := hvx.lim; unfold maxLen at this; omega⟩
  rw [hlx] at a3
  have Hvx := Lib.hid hvx
  have Hlx := Lib.hid hlx
  have Ha1 := Lib.hid a1
  have Ha3 := Lib.hid a3
  have Hc := Lib.hid (show W0.cell? ⟨g, 0, none⟩ = some (.int .i64 kd) ∧ W0.cell? ⟨g, 3, none⟩ = some (.int .i64 nu) from ⟨hc0, hc3⟩)
  have Hr := Lib.hid (show doL L o = (L, aE 10) from doL_frozen (by rw [← Hkd.out]; exact h1) hf hn hz)
  have hb5 : (kd == 5) = false := by simp; omega
  rw [hz] at a2
  have Ha2 := Lib.hid a2
  clear a0 a1 a1' a2 a2' a3 a3' hvx hrow hfi hLi hlx hf hn
  go_enter Try.func15, Try.ntmps15
  go_upto_region 1 with fail
  change Code.wp _ _ _ _ ((w.alloc (.cells OL.toArray 44)).alloc (.cells ansZ.toArray 47))
  rw [← HWx.out, ← Hg.out]
  clear HWx
  go_wp2_with fail
  refine Calls.mono Hf.out ?_
  rintro e w' ⟨rfl, rfl⟩
  clear Hf
  go_upto_region 39 with fail
  clear hc0 hc1 hc2 hc3 hc4
  go_wp2_with fail
  go_loopw [10, 11] (fun hd ix wr => ∃ k : Nat, k ≤ lx ∧ ix = .int .i64 k ∧ hd = .int .i64 (hadI v.cells nu k) ∧ Drawn W0 wr) (fun _ ix _ => lx - (Go.RowKit.intOf ix).toNat)
  case atStart => exact ⟨0, Nat.zero_le _, rfl, rfl, Drawn.refl _⟩
  case round =>
    obtain ⟨k, hk, rfl, rfl, hD⟩ := hrel
    have HD := Lib.hid hD
    have c3 := ((Drawn.refl W0).cells hD _).trans Ha3.out
    have d3 := ((Drawn.refl W0).cells hD _).trans Hc.out.2
    by_cases hlt : k < lx
    · have hq1 : decide ((k : Int) < (lx : Int)) = true := by simp; omega
      obtain ⟨cl, hcl⟩ : ∃ z, v.cells[k]? = some z := ⟨_, List.getElem?_eq_getElem (by rw [Hlx.out]; exact hlt)⟩
      obtain ⟨cb, coff, hax, hcb, h48, hrx0⟩ := Hvx.out.cell hcl
      obtain rfl : Ac = some ⟨cb, coff, none⟩ := hax
      have e0 : World.cell? wr ⟨cb, coff + k * 49, none⟩ = some (.int .i64 (cl.1 : Nat)) := ((Drawn.refl W0).cells hD _).trans ((World.cell?_of_block (Hb1.out.block cb hcb)).trans (hrx0 0 _ rfl))
      have Hcl := Lib.hid hcl
      clear hrx0 hcl hD
      by_cases he : (cl.1 : Int) = nu
      · have hqe : (((cl.1 : Nat) : Int) == nu) = true := by simpa using he
        have Hnx := Lib.hid (hadI_yes Hcl.out he)
        clear he
        go_upto_region 42 with fail
        go_quiet (fail)
        go_wp2_with fail
        go_roundw
        case rel => exact ⟨k + 1, by omega, by go_num, by rw [Hnx.out], HD.out.drewN _⟩
        case measure => simp [Go.RowKit.intOf]; omega
      · have hqe : (((cl.1 : Nat) : Int) == nu) = false := by simpa using he
        have Hnx := Lib.hid (hadI_no Hcl.out he)
        go_upto_region 42 with fail
        go_quiet (fail)
        go_wp2_with fail
        go_roundw
        case rel => exact ⟨k + 1, by omega, by go_num, by rw [Hnx.out], HD.out.drewN _⟩
        case measure => simp [Go.RowKit.intOf]; omega
    · obtain rfl : k = lx := by omega
      have hq1 : decide ((k : Int) < (k : Int)) = false := by simp
      obtain ⟨hi, hhi⟩ : ∃ z, hadI v.cells nu k = z := ⟨_, rfl⟩
      rw [hhi]
      have Hhi := Lib.hid hhi
      have hbr : Below W0.heap.size W0 wr := by obtain ⟨dn, e⟩ := HD.out; rw [e]; exact Below.dN (Below.refl _ _) dn
      have Hbr := Lib.hid hbr
      have f0 := ((Drawn.refl W0).cells hD _).trans Hc.out.1
      have f2 := ((Drawn.refl W0).cells hD _).trans Ha2.out
      clear hD hhi hbr
      go_upto_region 49 with fail
      obtain ⟨AL, hAL⟩ : ∃ z, z = ansC 10 false (Lib.byteCells zB) nilS := ⟨_, rfl⟩
      obtain ⟨⟨ha1, ha2⟩, ha3, ha4⟩ := HAi.out 10 AL hAL
      have Ha1 := Lib.hid ha1
      have Ha2 := Lib.hid ha2
      have Ha3 := Lib.hid ha3
      have Ha4 := Lib.hid ha4
      have HAL := Lib.hid hAL
      have Hend := Lib.hid (Hfin.out wr Hbr.out _ _ _ _ (HV0.out.grow Hbr.out) AL)
      have HAn5 := Lib.hid (show Arr wr (g + 1) 47 AZ from HAn.out.up Hbr.out)
      have Hset := Lib.hid (HAn5.out.setRow AL)
      clear hAL ha1 ha2 ha3 ha4 f0 f2 c3 d3
      go_wp2_with (first | (refine wpList_builtV rfl _ _ rfl _ rfl AL.toArray Ha4.out ?_) | (refine wpList_store_row rfl _ _ _ rfl (g + 1) AL.toArray rfl rfl 47 AZ.toArray HAn5.out Ha1.out Ha2.out Ha3.out ?_))
      (try simp only [Exit.inBlock, Exit.then])
      exact bodyPost_ret (v := .tuple #[.slice (some ⟨b, off, none⟩) n c, .agg AL.toArray]) (results_tc (by rfl) _ _ (g + 1) 47 AL.toArray (0, 0) _ (by rfl) _ (by rfl) Hset.out Try.underlying47 rfl Ha1.out) rfl (rdo_post Hr.out HAL.out Hend.out.1 Hend.out.2)
end Go.Proofs.Ytcajhndhjlfmaaa

/-
  The document's Do: a block is set, or taken out.
-/
import Derived.Test.YtcajhndhjlfmaaaModRDoK
import Derived.Test.YtcajhndhjlfmaaaModRDoY
namespace Go.Proofs.Ytcajhndhjlfmaaa
open Go.RowKit
set_option linter.unusedVariables false
set_option linter.unusedSimpArgs false
set_option maxRecDepth 100000

theorem doL_set3 {L : List Vol} {o : Op15} {v : Vol} (h1 : o.kind = 3) (hf : findV L o.name = some v) (hn : numB o.num = true) (hz : v.frozen = false) (hq : hasC v.cells o.num = true ∨ v.cells.length < v.quota) : doL L o = (setV L o.name (putC v.cells o.num.toNat o.blk), aE 0) := by
  unfold doL ePair
  rw [if_neg (by omega), if_neg (by omega), if_pos h1]
  unfold writeL ofE
  rw [hf]
  have h2 : ¬ (hasC v.cells o.num = false ∧ v.quota ≤ v.cells.length) := fun e => by
    rcases hq with h | h
    · rw [e.1] at h; cases h
    · omega
  simp [hn, hz]
  rw [if_neg h2]
  exact ⟨rfl, rfl⟩
theorem doL_set4 {L : List Vol} {o : Op15} {v : Vol} (h1 : o.kind = 4) (hf : findV L o.name = some v) (hn : numB o.num = true) (hz : v.frozen = false) : doL L o = (setV L o.name (delC v.cells o.num.toNat), aE 0) := by
  unfold doL ePair
  rw [if_neg (by omega), if_neg (by omega), if_neg (by omega), if_pos h1]
  unfold trimL ofE
  rw [hf]
  simp [hn, hz]
theorem doL_set {L : List Vol} {o : Op15} {v : Vol} {i nn : Nat} (hrise : RiseV L) (h48 : o.blk.length = 48) (h1 : o.kind = 3 ∨ o.kind = 4) (hf : findV L o.name = some v) (hn : numB o.num = true) (hz : v.frozen = false) (hq : o.kind = 4 ∨ hasC v.cells o.num = true ∨ v.cells.length < v.quota) (hLi : L[i]? = some v) (hnn : o.num = (nn : Nat)) (hok : ImgOk v) (dn : Bool) (hdn : (o.kind == 4) = dn) :
    doL L o = (L.set i { v with cells := finC (accC nn o.blk dn v.cells) nn o.blk }, aE 0) ∧ (finC (accC nn o.blk dn v.cells) nn o.blk).length ≤ 1048576 := by
  have hnm : v.name = o.name := by
    have := List.find?_some hf
    exact ba_ext (of_decide_eq_true this)
  have hnt : o.num.toNat = nn := by rw [hnn]; rfl
  have hny := numB_yes hn
  rcases h1 with e | e
  · have hd : dn = false := by rw [← hdn]; simp; omega
    subst hd
    have hq2 : hasC v.cells o.num = true ∨ v.cells.length < v.quota := hq.elim (fun h => by omega) id
    rw [acc_put hok.rs, doL_set3 e hf hn hz hq2, hnt, setV_at hrise hLi hnm]
    have hp := put_ok hok (n := nn) (b := o.blk) (by omega) h48 (by rw [← hnn]; exact hq2)
    exact ⟨rfl, Nat.le_trans hp.le hp.q⟩
  · have hd : dn = true := by rw [← hdn]; simpa using e
    subst hd
    rw [acc_drop, doL_set4 e hf hn hz, hnt, setV_at hrise hLi hnm]
    have hp := del_ok hok nn
    exact ⟨rfl, Nat.le_trans hp.le hp.q⟩
theorem klZero (w : World) : (zeroValue 108).run Try.prog w = .ok (.agg clZ.toArray) w := by kernel_rfl
theorem op_blk {w : World} {g : Nat} {o : Op15} {OL : List Value} (h : Arr w g 44 OL) (hOL : OL = opC o) : w.rangeAt g 5 (Lib.byteCells o.blk) := fun t u hu => by
  rw [h.cell, hOL]
  unfold opC
  rw [List.getElem?_append_right (by simp)]
  simpa using hu

set_option maxHeartbeats 32000000 in
theorem rdo_set (A : Option Addr) (n c : Nat) (L : List Vol) (o : Op15) (ho : OpOk o) (OL : List Value) (hOL : OL = opC o) (w : World) (G : Nat → Prop) (h : VSl w G A n c L) (hG : ∀ b, G b → b < w.heap.size) (hl : L.length ≤ 100000) (hrise : RiseV L) (hok : ∀ v ∈ L, ImgOk v) (h1 : o.kind = 3 ∨ o.kind = 4) (v : Vol) (hf : findV L o.name = some v) (hn : numB o.num = true) (hz : v.frozen = false) (hq : o.kind = 4 ∨ hasC v.cells o.num = true ∨ v.cells.length < v.quota) :
    Calls Try.prog 15 #[.slice A n c, .agg OL.toArray] w fun e w' => RDoPost o w G L e w' := by
  obtain ⟨hk0, hk1, hk2, hk3, hk4⟩ := opC_at hOL
  obtain ⟨W1, hW1⟩ : ∃ z, z = w.alloc (.cells OL.toArray 44) := ⟨_, rfl⟩
  have hb1 : Below w.heap.size w W1 := by rw [hW1]; exact (Below.refl _ _).alloc (Nat.le_refl _) _
  have hA1 : Arr W1 w.heap.size 44 OL := by rw [hW1]; exact Arr.new w _ _
  have hs1 : W1.heap.size = w.heap.size + 1 := by rw [hW1]; simp
  obtain ⟨AZ, hAZ⟩ : ∃ z, z = ansZ := ⟨_, rfl⟩
  obtain ⟨W0, hW0⟩ : ∃ z, z = W1.alloc (.cells AZ.toArray 47) := ⟨_, rfl⟩
  have hAn : Arr W0 (w.heap.size + 1) 47 AZ := by rw [hW0, ← hs1]; exact Arr.new W1 _ _
  have hb0 : Below W1.heap.size W1 W0 := by rw [hW0]; exact (Below.refl _ _).alloc (Nat.le_refl _) _
  have HWx : Hid (W0 = (w.alloc (.cells OL.toArray 44)).alloc (.cells ansZ.toArray 47)) := Lib.hid (by rw [hW0, hW1, hAZ])
  replace hA1 := hA1.up hb0
  replace hb1 := hb1.trans (hb0.mono hb1.size)
  obtain ⟨g, hg⟩ : ∃ z, z = w.heap.size := ⟨_, rfl⟩
  rw [← hg] at hA1 hAn
  have hgl : w.heap.size ≤ g + 1 := by omega
  have hg1 := hAn.lt
  obtain ⟨nm, hnm⟩ : ∃ z, z = o.name := ⟨_, rfl⟩
  obtain ⟨ot, hot⟩ : ∃ z, z = o.other := ⟨_, rfl⟩
  obtain ⟨kd, hkd⟩ : ∃ z, z = o.kind := ⟨_, rfl⟩
  obtain ⟨qt, hqt⟩ : ∃ z, z = o.quota := ⟨_, rfl⟩
  obtain ⟨nu, hnu⟩ : ∃ z, z = o.num := ⟨_, rfl⟩
  have hsz := ho.n1
  have hsz2 := ho.n2
  have hkr := ho.i3
  rw [← hkd] at hkr
  rw [← hnm] at hk1 hsz
  rw [← hot] at hk2 hsz2
  rw [← hkd] at hk0
  rw [← hqt] at hk4
  rw [← hnu] at hk3
  have hc0 : W0.cell? ⟨g, 0, none⟩ = some (.int .i64 kd) := by rw [hA1.cell]; exact hk0
  have hc1 : W0.cell? ⟨g, 1, none⟩ = some (.string nm) := by rw [hA1.cell]; exact hk1
  have hc2 : W0.cell? ⟨g, 2, none⟩ = some (.string ot) := by rw [hA1.cell]; exact hk2
  have hc3 : W0.cell? ⟨g, 3, none⟩ = some (.int .i64 nu) := by rw [hA1.cell]; exact hk3
  have hc4 : W0.cell? ⟨g, 4, none⟩ = some (.int .i64 qt) := by rw [hA1.cell]; exact hk4
  have HAi := Lib.hid (fun (k : Int) (AL : List Value) (h : AL = ansC k false (Lib.byteCells zB) nilS) => show ((Try.prog.info? 47).map (·.size) = some AL.toArray.size ∧ AZ.toArray.size = AL.toArray.size) ∧ AL.toArray.all (·.oneCell') = true ∧ Try.prog.built 47 [(0, .int .i64 k)] = some AL.toArray by
    subst h
    rw [List.size_toArray, List.size_toArray, ansC_length (by simp [Lib.byteCells, zB]), hAZ]
    exact ⟨⟨ansSize, rfl⟩, ansC_one rfl, ans_b0 k⟩)
  have HAn := Lib.hid hAn
  have HA1 := Lib.hid hA1
  have Hb1 := Lib.hid hb1
  have Ho := Lib.hid ho
  have HOL := Lib.hid hOL
  have HV0 := Lib.hid (h.below hb1)
  have Hf := Lib.hid ((h.below hb1).find nm hsz)
  have HV := Lib.hid h
  have HG := Lib.hid hG
  have HG0 := Lib.hid (show ∀ b, G b → b < W0.heap.size from fun b hb => Nat.lt_of_lt_of_le (hG b hb) hb1.size)
  have Hg := Lib.hid hg
  have Hl := Lib.hid hl
  have Hrise := Lib.hid hrise
  have Hok := Lib.hid hok
  have Hkd := Lib.hid hkd
  have Hnm := Lib.hid hnm
  have Hnu := Lib.hid hnu
  have Hqt := Lib.hid hqt
  have Hot := Lib.hid hot
  have Hfin := Lib.hid (fun (w5 : World) (hb : Below W0.heap.size W0 w5) (A' : Option Addr) (n' c' : Nat) (L' : List Vol) (hv : VSl w5 (fun b => G b ∨ W0.heap.size ≤ b) A' n' c' L') (AL : List Value) => fin_vs hb1 hgl (by omega) hG hb hv AL)
  have Hdo := Lib.hid (show doL L o = (if kd = 1 then ePair (createL L nm qt) else if kd = 2 then ePair (deleteL L nm) else if kd = 3 then ePair (writeL L nm nu o.blk) else if kd = 4 then ePair (trimL L nm nu) else if kd = 5 then (L, readL L nm nu) else if kd = 6 then ePair (copyL L nm ot (quotaL L nm) true) else if kd = 7 then ePair (copyL L nm ot qt false) else if kd = 8 then (L, ⟨0, false, zB, L.map (·.name)⟩) else (L, aE 1)) by rw [hkd, hnm, hot, hqt, hnu]; rfl)
  have HAZ := Lib.hid hAZ
  clear hnm hot hkd hqt hnu hk0 hk1 hk2 hk3 hk4 hOL ho h hl hb1 hA1 hb0 hs1 hW0 hW1 hAn hg hG hrise hok hgl hAZ
  obtain ⟨i, hfi, hLi⟩ := findI_at (show findV L nm = some v by rw [Hnm.out]; exact hf)
  rw [hfi] at Hf
  have hneg : decide (((i : Nat) : Int) < 0) = false := by simp
  obtain ⟨b, off, rfl, hin, Ac, cc, a0, a1', a2', a3', hvx, hrow⟩ := HV.out.at_ hLi
  have hbw : b < w.heap.size := cell_ltC a0
  have a1 := (World.cell?_of_block (Hb1.out.block b hbw)).trans a1'
  have a2 := (World.cell?_of_block (Hb1.out.block b hbw)).trans a2'
  have a3 := (World.cell?_of_block (Hb1.out.block b hbw)).trans a3'
  have hcn : n ≤ c ∧ c ≤ 9223372036854775807 ∧ n ≤ 100000 := by
    obtain ⟨xs, hx, hn', hc, hm, _⟩ := HV.out
    have hl := Hl.out
    unfold maxLen at hm
    rw [← hx, List.length_map, hn'] at hl
    exact ⟨hc, by omega, hl⟩
  have hny := numB_yes (show numB nu = true by rw [Hnu.out]; exact hn)
  have hx1 : decide (nu < 0) = false := by simp; omega
  have hx2 : decide (nu ≥ 1048576) = false := by simp; omega
  rw [← Hkd.out] at h1
  have hn1 : ¬ kd = 1 := by omega
  have hb1 : (kd == 1) = false := by simpa using hn1
  have hn8 : ¬ kd = 8 := by omega
  have hb8 : (kd == 8) = false := by simpa using hn8
  have hn6 : ¬ kd = 6 := by omega
  have hb6 : (kd == 6) = false := by simpa using hn6
  have hn7 : ¬ kd = 7 := by omega
  have hb7 : (kd == 7) = false := by simpa using hn7
  have hn2 : ¬ kd = 2 := by omega
  have hb2 : (kd == 2) = false := by simpa using hn2
  have hdl : decide (kd < 1) = false := by simp; omega
  have hdh : decide (kd > 8) = false := by simp; omega
  obtain ⟨lx, hlx⟩ : ∃ z, v.cells.length = z := ⟨_, rfl⟩
  have hx3 : lx ≤ cc ∧ cc ≤ 9223372036854775807 := by rw [← hlx]; exact ⟨hvx.le, by have := hvx.lim; unfold maxLen at this; omega⟩
  rw [hlx] at a3
  have Hvx := Lib.hid hvx
  have Hlx := Lib.hid hlx
  have Ha1 := Lib.hid a1
  have Ha3 := Lib.hid a3
  have Hc := Lib.hid (show W0.cell? ⟨g, 0, none⟩ = some (.int .i64 kd) ∧ W0.cell? ⟨g, 3, none⟩ = some (.int .i64 nu) from ⟨hc0, hc3⟩)
  obtain ⟨nn, hnn⟩ := Int.eq_ofNat_of_zero_le hny.1
  obtain ⟨f, hfb⟩ : ∃ z, o.blk = z := ⟨_, rfl⟩
  have Hf48 : Hid (f.length = 48) := by rw [← hfb]; exact Ho.out.b48
  obtain ⟨dn0, hdn0⟩ : ∃ z : Bool, (kd == 4) = z := ⟨_, rfl⟩
  have hds := doL_set Hrise.out Ho.out.b48 (by rw [← Hkd.out]; exact h1) hf hn hz hq hLi (nn := nn) (by rw [← Hnu.out]; exact hnn) (Hok.out v (List.mem_of_getElem? hLi)) dn0 (by rw [← Hkd.out]; exact hdn0)
  rw [hfb] at hds
  have Hr0 := Lib.hid hds.1
  have Hfl := Lib.hid hds.2
  have HLi := Lib.hid hLi
  obtain ⟨vq, hvq⟩ : ∃ z, v.quota = z := ⟨_, rfl⟩
  have Hq1 := Lib.hid (show W0.cell? ⟨b, off + i * 4 + 1, none⟩ = some (.int .i64 (vq : Nat)) by rw [← hvq]; exact a1)
  rw [hvq, ← Hkd.out, ← Hnu.out, hlx] at hq
  have Hqq := Lib.hid hq
  obtain ⟨FL, hFL⟩ : ∃ z, z = Lib.byteCells f := ⟨_, rfl⟩
  have HFl : Hid (FL.length = 48) := by rw [hFL, Lib.byteCells_length]; exact Hf48.out
  have HFr := Lib.hid (fun (w' : World) (h : Arr w' g 44 OL) => show w'.rangeAt g 5 FL by have := op_blk h HOL.out; rw [hfb, ← hFL] at this; exact this)
  have HFi := Lib.hid (show (Try.prog.info? 42).map (·.size) = some FL.length by rw [HFl.out]; exact blkSize)
  have HB1 := Lib.hid (show Try.prog.built 108 [(0, .int .i64 (nn : Nat)), (1, .agg FL.toArray)] = some (Value.int .i64 (nn : Nat) :: FL).toArray from cl_built _ FL HFl.out)
  obtain ⟨NL, hNL⟩ : ∃ z, z = (Value.int .i64 (nn : Nat) :: FL) := ⟨_, rfl⟩
  have HNc : Hid (NL = cellC (nn, f)) := by rw [hNL, hFL]; rfl
  have HNl := Lib.hid (show NL.length = 49 by rw [hNL, List.length_cons, HFl.out])
  rw [← hNL] at HB1
  obtain ⟨KZ, hKZ⟩ : ∃ CZ, CZ = clZ := ⟨_, rfl⟩
  have HKZ := Lib.hid (fun w : World => show (zeroValue 108).run Try.prog w = .ok (.agg KZ.toArray) w by rw [hKZ]; exact klZero w)
  have HKl := Lib.hid (show KZ.length = 49 by rw [hKZ]; rfl)
  have Hnn := Lib.hid hnn
  have Hdn0 := Lib.hid hdn0
  have HbW0 := Lib.hid (show b < W0.heap.size by have := Hb1.out.size; omega)
  have Hlc := Lib.hid (show v.cells.length ≤ 1048576 from hvx.len)
  have hb5 : (kd == 5) = false := by simp; omega
  rw [hz] at a2
  clear hds hnn hfb hdn0 hvq hq hFL hNL hKZ hz hny
  have Ha2 := Lib.hid a2
  clear a0 a1 a1' a2 a2' a3 a3' hvx hrow hfi hLi hlx hf hn
  go_enter Try.func15, Try.ntmps15
  go_upto_region 1 with fail
  change Code.wp _ _ _ _ ((w.alloc (.cells OL.toArray 44)).alloc (.cells ansZ.toArray 47))
  rw [← HWx.out, ← Hg.out]
  clear HWx
  go_wp2_with fail
  refine Calls.mono Hf.out ?_
  rintro e w' ⟨rfl, rfl⟩
  clear Hf
  go_upto_region 39 with fail
  clear hc0 hc1 hc2 hc3 hc4
  go_wp2_with fail
  go_loopw [10, 11] (fun hd ix wr => ∃ k : Nat, k ≤ lx ∧ ix = .int .i64 k ∧ hd = .int .i64 (hadI v.cells nu k) ∧ Drawn W0 wr) (fun _ ix _ => lx - (Go.RowKit.intOf ix).toNat)
  case atStart => exact ⟨0, Nat.zero_le _, rfl, rfl, Drawn.refl _⟩
  case round =>
    obtain ⟨k, hk, rfl, rfl, hD⟩ := hrel
    have HD := Lib.hid hD
    have c3 := ((Drawn.refl W0).cells hD _).trans Ha3.out
    have d3 := ((Drawn.refl W0).cells hD _).trans Hc.out.2
    by_cases hlt : k < lx
    · have hq1 : decide ((k : Int) < (lx : Int)) = true := by simp; omega
      obtain ⟨cl, hcl⟩ : ∃ z, v.cells[k]? = some z := ⟨_, List.getElem?_eq_getElem (by rw [Hlx.out]; exact hlt)⟩
      obtain ⟨cb, coff, hax, hcb, h48, hrx0⟩ := Hvx.out.cell hcl
      obtain rfl : Ac = some ⟨cb, coff, none⟩ := hax
      have e0 : World.cell? wr ⟨cb, coff + k * 49, none⟩ = some (.int .i64 (cl.1 : Nat)) := ((Drawn.refl W0).cells hD _).trans ((World.cell?_of_block (Hb1.out.block cb hcb)).trans (hrx0 0 _ rfl))
      have Hcl := Lib.hid hcl
      clear hrx0 hcl hD
      by_cases he : (cl.1 : Int) = nu
      · have hqe : (((cl.1 : Nat) : Int) == nu) = true := by simpa using he
        have Hnx := Lib.hid (hadI_yes Hcl.out he)
        clear he
        go_upto_region 42 with fail
        go_quiet (fail)
        go_wp2_with fail
        go_roundw
        case rel => exact ⟨k + 1, by omega, by go_num, by rw [Hnx.out], HD.out.drewN _⟩
        case measure => simp [Go.RowKit.intOf]; omega
      · have hqe : (((cl.1 : Nat) : Int) == nu) = false := by simpa using he
        have Hnx := Lib.hid (hadI_no Hcl.out he)
        go_upto_region 42 with fail
        go_quiet (fail)
        go_wp2_with fail
        go_roundw
        case rel => exact ⟨k + 1, by omega, by go_num, by rw [Hnx.out], HD.out.drewN _⟩
        case measure => simp [Go.RowKit.intOf]; omega
    · obtain rfl : k = lx := by omega
      have hq1 : decide ((k : Int) < (k : Int)) = false := by simp
      obtain ⟨hi, hhi⟩ : ∃ z, hadI v.cells nu k = z := ⟨_, rfl⟩
      rw [hhi]
      have Hhi := Lib.hid hhi
      have hbr : Below W0.heap.size W0 wr := by obtain ⟨dn, e⟩ := HD.out; rw [e]; exact Below.dN (Below.refl _ _) dn
      have Hbr := Lib.hid hbr
      have f0 := ((Drawn.refl W0).cells hD _).trans Hc.out.1
      have f2 := ((Drawn.refl W0).cells hD _).trans Ha2.out
      clear hD hhi hbr
      obtain rfl := Hnn.out
      clear hx1 hx2
      obtain ⟨KK, hKK⟩ : ∃ z, z = k := ⟨_, rfl⟩
      have f1 := ((Drawn.refl W0).cells HD.out _).trans Hq1.out
      go_upto_region 50 with fail
      go_cut [235] (fun s wx => s = .bool false ∧ ∃ m, wx = wr.drewN m)
      case first =>
        as_aux_lemma =>
          by_cases hk4 : kd = 4
          · have hb3 : (kd == 3) = false := by simp; omega
            go_quiet (fail)
            go_wp2_with fail
            go_meet
            exact ⟨rfl, nq, rfl⟩
          · have hb3 : (kd == 3) = true := by simp; omega
            by_cases hlt0 : hi < 0
            · have hd50 : decide (hi < 0) = true := by simpa using hlt0
              have hvk : k < vq := by
                rcases Hqq.out with e | e | e
                · omega
                · obtain ⟨j, cl, e1, _⟩ := had_at e
                  rw [Hlx.out, Hhi.out] at e1
                  omega
                · exact e
              have hqz : decide (vq ≤ k) = false := by simpa using hvk
              go_quiet (fail)
              go_wp2_with fail
              go_meet
              exact ⟨rfl, nq, rfl⟩
            · have hd50 : decide (hi < 0) = false := by simpa using hlt0
              go_quiet (fail)
              go_wp2_with fail
              go_meet
              exact ⟨rfl, nq, rfl⟩
      case rest =>
        obtain ⟨rfl, m50, hwv⟩ := hcut
        have hbv : Below W0.heap.size W0 wc := by rw [hwv]; exact Below.dN Hbr.out m50
        clear hwv c3 d3 f0 f1 f2
        obtain ⟨wv, hwv⟩ : ∃ z, z = wc := ⟨_, rfl⟩
        subst hwv
        have Hbv := Lib.hid hbv
        have HbW := Lib.hid (Hb1.out.trans (hbv.mono Hb1.out.size))
        have HA1v := Lib.hid (HA1.out.up hbv)
        have HAnv := Lib.hid (HAn.out.up hbv)
        have hgv : g + 1 < wv.heap.size := HAnv.out.lt
        have hb5x : Below wv.heap.size wv (wv.alloc (.cells #[] 108)) := (Below.refl _ _).alloc (Nat.le_refl _) _
        have hC5 : CRow (wv.alloc (.cells #[] 108)) wv.heap.size (.slice (some ⟨wv.heap.size, 0, none⟩) 0 0) [] := CRow.empty wv wv.heap.size (Nat.le_refl _)
        have HC5 := Lib.hid hC5
        have Hb5 := Lib.hid hb5x
        clear hb5x hC5 hbv Hhi Hqq
        go_upto_region 53 with fail
        obtain ⟨w5, hw5⟩ : ∃ z, z = wv.alloc (.cells #[] 108) := ⟨_, rfl⟩
        change Code.wp _ _ _ _ (wv.alloc (.cells #[] 108))
        rw [← hw5] at HC5 Hb5 ⊢
        clear hw5
        have g0 : w5.cell? ⟨g, 0, none⟩ = some (.int .i64 kd) := (World.cell?_of_block ((Hbv.out.trans (Hb5.out.mono Hbv.out.size)).block g (by have := HAn.out.lt; omega))).trans Hc.out.1
        have hb4 := Hdn0.out
        go_wp2_with fail
        clear g0 hb4
        go_loopw [12, 13, 14] (fun t d i wr => ∃ j : Nat, j ≤ k ∧ i = .int .i64 j ∧ (∃ acc dn, d = .bool dn ∧ CRow wr wv.heap.size t acc ∧ Hid (accC nn f dn0 (v.cells.take j) = (acc, dn))) ∧ Below wv.heap.size wv wr) (fun _ _ i _ => k - (Go.RowKit.intOf i).toNat)
        case atStart => exact ⟨0, Nat.zero_le _, rfl, ⟨[], dn0, rfl, HC5.out, by rw [List.take_zero]; rfl⟩, Hb5.out⟩
        case round =>
          obtain ⟨j, hj, rfl, ⟨acc, dn, rfl, hC, Hacc⟩, hbr⟩ := hrel
          have hbW0r : Below W0.heap.size W0 wr := Hbv.out.trans (hbr.mono Hbv.out.size)
          have y3 : wr.cell? ⟨b, off + i * 4 + 3, none⟩ = some (.slice Ac k cc) := (World.cell?_of_block (hbW0r.block b HbW0.out)).trans Ha3.out
          have hbwr := HbW.out.trans (hbr.mono HbW.out.size)
          clear hbW0r
          by_cases hjl : j < k
          · have hd3 : decide ((j : Int) < (k : Int)) = true := by simp; omega
            have hjx : j < v.cells.length := by rw [Hlx.out]; exact hjl
            obtain ⟨d, hdj⟩ : ∃ z, v.cells[j]? = some z := ⟨_, List.getElem?_eq_getElem hjx⟩
            obtain ⟨cb, coff, hax, hcb, hx48, hrx⟩ := Hvx.out.cell (x := ⟨v, Ac, cc⟩) hdj
            have hax' : Ac = some ⟨cb, coff, none⟩ := hax
            obtain ⟨XL, hXL⟩ : ∃ z, z = cellC d := ⟨_, rfl⟩
            have hXl : XL.length = 49 := by rw [hXL, cellC_length hx48]
            have hrX : wr.rangeAt cb (coff + j * 49) XL := fun t u ht => by
              rw [hXL] at ht
              exact (World.cell?_of_block (hbwr.block cb hcb)).trans (hrx t u ht)
            rw [hax'] at y3
            have HXi := Lib.hid (show (Try.prog.info? 108).map (·.size) = some XL.length by rw [hXl]; exact clSize)
            have HXj := Lib.hid (show (Try.prog.info? 108).map (·.size) = some XL.toArray.size by rw [List.size_toArray, hXl]; exact clSize)
            have HX1 := Lib.hid (show XL.toArray.all (·.oneCell') = true by rw [hXL]; exact all_oneCell_toArray (cellC_one _))
            have HXz := Lib.hid (show KZ.toArray.size = XL.toArray.size by rw [List.size_toArray, List.size_toArray, HKl.out, hXl])
            obtain ⟨wa, hwa⟩ : ∃ W, W = (wr.alloc (.cells KZ.toArray 108)).setRow wr.heap.size XL.toArray := ⟨_, rfl⟩
            obtain ⟨hXa, hba⟩ := alloc_row wr 108 KZ.toArray XL
            rw [← hwa] at hXa hba
            have hCa := hC.up hba
            have hbaw : Below wv.heap.size wv wa := hbr.trans (hba.mono hbr.size)
            have hltC : ∀ g, u12.ownBlock = some g → g < wr.heap.size := fun g hg => (hC.lt g hg).2
            obtain ⟨cn, hcn'⟩ : ∃ z, d.1 = z := ⟨_, rfl⟩
            have x0 : wa.cell? ⟨wr.heap.size, 0, none⟩ = some (.int .i64 (cn : Nat)) := by rw [hXa.cell, hXL, ← hcn']; rfl
            have HA1a := Lib.hid (HA1v.out.below hbaw (by omega))
            have x3 : wa.cell? ⟨g, 3, none⟩ = some (.int .i64 (nn : Nat)) := (World.cell?_of_block ((Hbv.out.trans (hbaw.mono Hbv.out.size)).block g (by have := HAn.out.lt; omega))).trans Hc.out.2
            have Hst := Lib.hid (show accC nn f dn0 (v.cells.take (j + 1)) = stepC nn f (acc, dn) d by
              obtain ⟨hl, he⟩ := List.getElem?_eq_some_iff.1 hdj
              rw [List.take_succ_eq_append_getElem hl, he, accC_snoc, Hacc.out])
            have Hal := Lib.hid (show acc.length ≤ 1048577 by
              have := (acc_length nn f dn0 (v.cells.take j)).1
              rw [Hacc.out] at this
              have h3 : acc.length ≤ (v.cells.take j).length + 1 := this
              rw [List.length_take] at h3
              have h2 := Hlc.out
              omega)
            have hwa1 : wr.heap.size < wa.heap.size := hXa.lt
            have hwas := hbaw.size
            have Hwa := Lib.hid hwa
            have HXL := Lib.hid hXL
            have HXl := Lib.hid hXl
            have Hd48 := Lib.hid hx48
            have Hcn := Lib.hid hcn'
            clear hdj hax hax' hrx hXL hXl hwa hba hbr hC hcn' hx48 hjx hcb hbwr
            go_upto_region 58 with (first
              | ((with_reducible refine wpList_at 259 (by rfl) ?_); refine wpList_load_mid rfl _ _ rfl cb (coff + j * 49) rfl XL _ hrX Try.underlying108 rfl HXi.out ?_)
              | ((with_reducible refine wpList_at 15 (by rfl) ?_); refine wpList_allocZC rfl 108 rfl KZ.toArray (HKZ.out _) ?_)
              | (refine wpList_store_row rfl _ _ _ rfl wr.heap.size XL.toArray rfl rfl 108 KZ.toArray (heap_alloc_new wr _) HXj.out HXz.out HX1.out ?_; rw [← Hwa.out]))
            clear hrX y3
            cases dn with
            | true =>
              by_cases hcc : cn = nn
              · as_aux_lemma =>
                  have hne : ((cn : Int) == (nn : Int)) = true := by simp; omega
                  have hdc := Hcn.out
                  have h1 : d.1 = nn := by omega
                  have Hnew := Lib.hid (show accC nn f dn0 (v.cells.take (j + 1)) = (acc, true) by rw [Hst.out]; unfold stepC; simp [h1])
                  clear h1 hdc hcc
                  have hl6 : acc.length ≤ 2000000 := by have := Hal.out; omega
                  go_wp2_with fail
                  go_roundw
                  case rel => exact ⟨j + 1, by omega, by go_num, ⟨acc, true, rfl, hCa, Hnew⟩, hbaw⟩
                  case measure => simp [Go.RowKit.intOf]; omega
              · as_aux_lemma =>
                  have hne : ((cn : Int) == (nn : Int)) = false := by simp; omega
                  have hdc := Hcn.out
                  have h1 : d.1 ≠ nn := by omega
                  have Hnew := Lib.hid (show accC nn f dn0 (v.cells.take (j + 1)) = ((acc ++ [d]), true) by rw [Hst.out]; unfold stepC; simp [h1])
                  clear h1 hdc hcc
                  have hl6 : acc.length ≤ 2000000 := by have := Hal.out; omega
                  have hb8 : Below wa.heap.size wa (wa.alloc (.cells XL.toArray 108)) := (Below.refl _ _).alloc (Nat.le_refl _) _
                  have hC8 := hCa.up hb8
                  have hA8 := Lib.hid (Arr.new wa 108 XL)
                  have hs8 : wv.heap.size ≤ (wa.alloc (.cells XL.toArray 108)).heap.size := Nat.le_trans hwas hb8.size
                  go_wp2_with (first
                    | ((with_reducible refine wpList_at 283 (by rfl) ?_); refine wpList_load_row rfl _ _ rfl wr.heap.size rfl 108 XL.toArray (0, 0) _ hXa Try.underlying108 rfl HXj.out ?_)
                    | ((with_reducible refine wpList_at 284 (by rfl) ?_); refine wpList_build_cl rfl _ rfl XL HXl.out rfl ?_)
                    | ((with_reducible refine wpList_at 285 (by rfl) ?_); refine wpList_append_cl rfl _ _ rfl hC8 hs8 rfl _ _ rfl d Hd48.out XL HXL.out hA8.out hl6 ?_; intro v9 w9 hC9 hg9))
                  have hb9 : Below wv.heap.size wv w9 := (hbaw.trans (hb8.mono hwas)).grown hg9 hs8 fun g hg => (hC8.lt g hg).1
                  clear hg9 hC8 hA8 hs8 hb8
                  go_wp2_with fail
                  go_roundw
                  case rel => exact ⟨j + 1, by omega, by go_num, ⟨(acc ++ [d]), true, rfl, hC9, Hnew⟩, hb9⟩
                  case measure => simp [Go.RowKit.intOf]; omega
            | false =>
              by_cases hlt2 : cn < nn
              · as_aux_lemma =>
                  have hge : decide ((cn : Int) ≥ (nn : Int)) = false := by simp; omega
                  have hge2 : decide (nn ≤ cn) = false := by simp; omega
                  have hne : ((cn : Int) == (nn : Int)) = false := by simp; omega
                  have hdc := Hcn.out
                  have h1 : d.1 ≠ nn := by omega
                  have h2 : ¬ nn ≤ d.1 := by omega
                  have Hnew := Lib.hid (show accC nn f dn0 (v.cells.take (j + 1)) = ((acc ++ [d]), false) by rw [Hst.out]; unfold stepC; simp [h1, h2])
                  clear h1 hdc h2
                  clear hlt2
                  have hl6 : acc.length ≤ 2000000 := by have := Hal.out; omega
                  have hb8 : Below wa.heap.size wa (wa.alloc (.cells XL.toArray 108)) := (Below.refl _ _).alloc (Nat.le_refl _) _
                  have hC8 := hCa.up hb8
                  have hA8 := Lib.hid (Arr.new wa 108 XL)
                  have hs8 : wv.heap.size ≤ (wa.alloc (.cells XL.toArray 108)).heap.size := Nat.le_trans hwas hb8.size
                  go_wp2_with (first
                    | ((with_reducible refine wpList_at 283 (by rfl) ?_); refine wpList_load_row rfl _ _ rfl wr.heap.size rfl 108 XL.toArray (0, 0) _ hXa Try.underlying108 rfl HXj.out ?_)
                    | ((with_reducible refine wpList_at 284 (by rfl) ?_); refine wpList_build_cl rfl _ rfl XL HXl.out rfl ?_)
                    | ((with_reducible refine wpList_at 285 (by rfl) ?_); refine wpList_append_cl rfl _ _ rfl hC8 hs8 rfl _ _ rfl d Hd48.out XL HXL.out hA8.out hl6 ?_; intro v9 w9 hC9 hg9))
                  have hb9 : Below wv.heap.size wv w9 := (hbaw.trans (hb8.mono hwas)).grown hg9 hs8 fun g hg => (hC8.lt g hg).1
                  clear hg9 hC8 hA8 hs8 hb8
                  go_wp2_with fail
                  go_roundw
                  case rel => exact ⟨j + 1, by omega, by go_num, ⟨(acc ++ [d]), false, rfl, hC9, Hnew⟩, hb9⟩
                  case measure => simp [Go.RowKit.intOf]; omega
              · by_cases hcc : cn = nn
                · as_aux_lemma =>
                    have hge : decide ((cn : Int) ≥ (nn : Int)) = true := by simp; omega
                    have hge2 : decide (nn ≤ cn) = true := by simp; omega
                    have hne : ((cn : Int) == (nn : Int)) = true := by simp; omega
                    have hdc := Hcn.out
                    have h1 : d.1 = nn := by omega
                    have Hnew := Lib.hid (show accC nn f dn0 (v.cells.take (j + 1)) = ((acc ++ [(nn, f)]), true) by rw [Hst.out]; unfold stepC; simp [h1])
                    clear h1 hdc hcc
                    clear hlt2
                    have hb6 : Below wa.heap.size wa (wa.alloc (.cells NL.toArray 108)) := (Below.refl _ _).alloc (Nat.le_refl _) _
                    have hC6 := hCa.up hb6
                    have hA6 := Lib.hid (Arr.new wa 108 NL)
                    have hs6 : wv.heap.size ≤ (wa.alloc (.cells NL.toArray 108)).heap.size := Nat.le_trans hwas hb6.size
                    have hl6 : acc.length ≤ 2000000 := by have := Hal.out; omega
                    have hF5 := HFr.out wa HA1a.out
                    go_upto_region 61 with (first
                      | ((with_reducible refine wpList_at 273 (by rfl) ?_); refine wpList_load_mid rfl _ _ rfl g 5 rfl FL _ hF5 Try.underlying42 rfl HFi.out ?_)
                      | ((with_reducible refine wpList_at 274 (by rfl) ?_); refine wpList_builtV rfl _ _ rfl _ rfl NL.toArray HB1.out ?_)
                      | ((with_reducible refine wpList_at 275 (by rfl) ?_); refine wpList_build_cl rfl _ rfl NL HNl.out rfl ?_)
                      | ((with_reducible refine wpList_at 276 (by rfl) ?_); refine wpList_append_cl rfl _ _ rfl hC6 hs6 rfl _ _ rfl (nn, f) Hf48.out NL HNc.out hA6.out hl6 ?_; intro v7 w7 hC7 hg7))
                    have hX7 : Arr w7 wr.heap.size 108 XL := (hg7.block _ (by simp; omega) fun e => by have := hltC _ e.symm; omega).trans (hXa.up hb6)
                    have hb7 : Below wv.heap.size wv w7 := (hbaw.trans (hb6.mono hwas)).grown hg7 hs6 fun g hg => (hC6.lt g hg).1
                    have x7 : w7.cell? ⟨wr.heap.size, 0, none⟩ = some (.int .i64 (cn : Nat)) := by rw [hX7.cell, HXL.out, ← Hcn.out]; rfl
                    have x37 : w7.cell? ⟨g, 3, none⟩ = some (.int .i64 (nn : Nat)) := (World.cell?_of_block ((Hbv.out.trans (hb7.mono Hbv.out.size)).block g (by have := HAn.out.lt; omega))).trans Hc.out.2
                    have hs7 := hb7.size
                    have hl7 : (acc ++ [(nn, f)]).length ≤ 2000000 := by rw [List.length_append]; have := Hal.out; simp only [List.length_cons, List.length_nil]; omega
                    have hw7lt : wr.heap.size < w7.heap.size := hX7.lt
                    clear hg7 hC6 hA6 hs6 hb6 hF5
                    go_wp2_with fail
                    go_roundw
                    case rel => exact ⟨j + 1, by omega, by go_num, ⟨(acc ++ [(nn, f)]), true, rfl, hC7, Hnew⟩, hb7⟩
                    case measure => simp [Go.RowKit.intOf]; omega
                · as_aux_lemma =>
                    have hge : decide ((cn : Int) ≥ (nn : Int)) = true := by simp; omega
                    have hge2 : decide (nn ≤ cn) = true := by simp; omega
                    have hne : ((cn : Int) == (nn : Int)) = false := by simp; omega
                    have hdc := Hcn.out
                    have h1 : d.1 ≠ nn := by omega
                    have h2 : nn ≤ d.1 := by omega
                    have Hnew := Lib.hid (show accC nn f dn0 (v.cells.take (j + 1)) = (((acc ++ [(nn, f)]) ++ [d]), true) by rw [Hst.out]; unfold stepC; simp [h1, h2])
                    clear h1 hdc h2 hcc
                    clear hlt2
                    have hb6 : Below wa.heap.size wa (wa.alloc (.cells NL.toArray 108)) := (Below.refl _ _).alloc (Nat.le_refl _) _
                    have hC6 := hCa.up hb6
                    have hA6 := Lib.hid (Arr.new wa 108 NL)
                    have hs6 : wv.heap.size ≤ (wa.alloc (.cells NL.toArray 108)).heap.size := Nat.le_trans hwas hb6.size
                    have hl6 : acc.length ≤ 2000000 := by have := Hal.out; omega
                    have hF5 := HFr.out wa HA1a.out
                    go_upto_region 61 with (first
                      | ((with_reducible refine wpList_at 273 (by rfl) ?_); refine wpList_load_mid rfl _ _ rfl g 5 rfl FL _ hF5 Try.underlying42 rfl HFi.out ?_)
                      | ((with_reducible refine wpList_at 274 (by rfl) ?_); refine wpList_builtV rfl _ _ rfl _ rfl NL.toArray HB1.out ?_)
                      | ((with_reducible refine wpList_at 275 (by rfl) ?_); refine wpList_build_cl rfl _ rfl NL HNl.out rfl ?_)
                      | ((with_reducible refine wpList_at 276 (by rfl) ?_); refine wpList_append_cl rfl _ _ rfl hC6 hs6 rfl _ _ rfl (nn, f) Hf48.out NL HNc.out hA6.out hl6 ?_; intro v7 w7 hC7 hg7))
                    have hX7 : Arr w7 wr.heap.size 108 XL := (hg7.block _ (by simp; omega) fun e => by have := hltC _ e.symm; omega).trans (hXa.up hb6)
                    have hb7 : Below wv.heap.size wv w7 := (hbaw.trans (hb6.mono hwas)).grown hg7 hs6 fun g hg => (hC6.lt g hg).1
                    have x7 : w7.cell? ⟨wr.heap.size, 0, none⟩ = some (.int .i64 (cn : Nat)) := by rw [hX7.cell, HXL.out, ← Hcn.out]; rfl
                    have x37 : w7.cell? ⟨g, 3, none⟩ = some (.int .i64 (nn : Nat)) := (World.cell?_of_block ((Hbv.out.trans (hb7.mono Hbv.out.size)).block g (by have := HAn.out.lt; omega))).trans Hc.out.2
                    have hs7 := hb7.size
                    have hl7 : (acc ++ [(nn, f)]).length ≤ 2000000 := by rw [List.length_append]; have := Hal.out; simp only [List.length_cons, List.length_nil]; omega
                    have hw7lt : wr.heap.size < w7.heap.size := hX7.lt
                    clear hg7 hC6 hA6 hs6 hb6 hF5
                    have hb8 : Below w7.heap.size w7 (w7.alloc (.cells XL.toArray 108)) := (Below.refl _ _).alloc (Nat.le_refl _) _
                    have hC8 := hC7.up hb8
                    have hA8 := Lib.hid (Arr.new w7 108 XL)
                    have hs8 : wv.heap.size ≤ (w7.alloc (.cells XL.toArray 108)).heap.size := Nat.le_trans hs7 hb8.size
                    go_wp2_with (first
                      | ((with_reducible refine wpList_at 283 (by rfl) ?_); refine wpList_load_row rfl _ _ rfl wr.heap.size rfl 108 XL.toArray (0, 0) _ hX7 Try.underlying108 rfl HXj.out ?_)
                      | ((with_reducible refine wpList_at 284 (by rfl) ?_); refine wpList_build_cl rfl _ rfl XL HXl.out rfl ?_)
                      | ((with_reducible refine wpList_at 285 (by rfl) ?_); refine wpList_append_cl rfl _ _ rfl hC8 hs8 rfl _ _ rfl d Hd48.out XL HXL.out hA8.out hl7 ?_; intro v9 w9 hC9 hg9))
                    have hb9 : Below wv.heap.size wv w9 := (hb7.trans (hb8.mono hs7)).grown hg9 hs8 fun g hg => (hC8.lt g hg).1
                    clear hg9 hC8 hA8 hs8 hb8
                    go_wp2_with fail
                    go_roundw
                    case rel => exact ⟨j + 1, by omega, by go_num, ⟨((acc ++ [(nn, f)]) ++ [d]), true, rfl, hC9, Hnew⟩, hb9⟩
                    case measure => simp [Go.RowKit.intOf]; omega
          · obtain rfl : j = k := by omega
            have hd3 : decide (j < j) = false := by simp
            have Hfull := Lib.hid (show accC nn f dn0 v.cells = (acc, dn) by rw [← Hacc.out, List.take_of_length_le (by rw [Hlx.out]; exact Nat.le_refl _)])
            have Hal := Lib.hid (show acc.length ≤ 1048577 by
              have := (acc_length nn f dn0 v.cells).1
              rw [Hfull.out] at this
              have h3 : acc.length ≤ v.cells.length + 1 := this
              have h2 := Hlc.out
              omega)
            have HC := Lib.hid hC
            have Hbr2 := Lib.hid hbr
            have HA1r := Lib.hid (HA1v.out.below hbr (by omega))
            have x3 : wr.cell? ⟨g, 3, none⟩ = some (.int .i64 (nn : Nat)) := (World.cell?_of_block ((Hbv.out.trans (hbr.mono Hbv.out.size)).block g (by have := HAn.out.lt; omega))).trans Hc.out.2
            have hsz6 := hbr.size
            clear hC hbr hbwr
            go_upto_if 287 with (fail)
            clear y3
            obtain ⟨csf, hcsf⟩ : ∃ z, z = finC (accC nn f dn0 v.cells) nn f := ⟨_, rfl⟩
            have Hcsf := Lib.hid hcsf
            clear hcsf
            go_cut [12] (fun t wx => CRow wx wv.heap.size t csf ∧ Below wv.heap.size wv wx)
            case first =>
              cases dn with
              | true =>
                as_aux_lemma =>
                  have hfe : csf = acc := by rw [Hcsf.out, Hfull.out]; rfl
                  have HCf : Hid (CRow wr wv.heap.size u12 csf) := by rw [hfe]; exact HC
                  clear hfe
                  go_wp2_with fail
                  go_meet
                  exact ⟨HCf.out, Hbr2.out⟩
              | false =>
                as_aux_lemma =>
                  have hfe := Lib.hid (show csf = acc ++ [(nn, f)] by rw [Hcsf.out, Hfull.out]; rfl)
                  have hb6 : Below wr.heap.size wr (wr.alloc (.cells NL.toArray 108)) := (Below.refl _ _).alloc (Nat.le_refl _) _
                  have hC6 := HC.out.up hb6
                  have hA6 := Lib.hid (Arr.new wr 108 NL)
                  have hs6 : wv.heap.size ≤ (wr.alloc (.cells NL.toArray 108)).heap.size := Nat.le_trans hsz6 hb6.size
                  have hl6 : acc.length ≤ 2000000 := by have := Hal.out; omega
                  have hF6 := HFr.out wr HA1r.out
                  go_wp2_with (first
                    | ((with_reducible refine wpList_at 292 (by rfl) ?_); refine wpList_load_mid rfl _ _ rfl g 5 rfl FL _ hF6 Try.underlying42 rfl HFi.out ?_)
                    | ((with_reducible refine wpList_at 293 (by rfl) ?_); refine wpList_builtV rfl _ _ rfl _ rfl NL.toArray HB1.out ?_)
                    | ((with_reducible refine wpList_at 294 (by rfl) ?_); refine wpList_build_cl rfl _ rfl NL HNl.out rfl ?_)
                    | ((with_reducible refine wpList_at 295 (by rfl) ?_); refine wpList_append_cl rfl _ _ rfl hC6 hs6 rfl _ _ rfl (nn, f) Hf48.out NL HNc.out hA6.out hl6 ?_; intro v7 w7 hC7 hg7))
                  have hb7 : Below wv.heap.size wv w7 := (Hbr2.out.trans (hb6.mono hsz6)).grown hg7 hs6 fun g hg => (hC6.lt g hg).1
                  rw [← hfe.out] at hC7
                  clear hg7 hC6 hA6 hs6 hb6
                  go_meet
                  exact ⟨hC7, hb7⟩
            case rest =>
              as_aux_lemma =>
                obtain ⟨hC7, hb7⟩ := hcut
                have hb7w : Below W0.heap.size W0 wc := Hbv.out.trans (hb7.mono Hbv.out.size)
                have hb7o : Below w.heap.size w wc := HbW.out.trans (hb7.mono HbW.out.size)
                obtain ⟨A5, c5, h5e, h5c, h5m, h5at⟩ := hC7.slice2
                subst h5e
                obtain ⟨n5, hn5⟩ : ∃ z, csf.length = z := ⟨_, rfl⟩
                rw [hn5] at h5c hC7 ⊢
                have h7s : wv.heap.size ≤ wc.heap.size := hb7.size
                have HCr := Lib.hid hC7
                have H5at := Lib.hid h5at
                have Hn5 := Lib.hid hn5
                obtain ⟨xs, hxs, hxn, hnc7, hcm7, hVx, _⟩ := HV.out
                have hx : ∃ x, xs[i]? = some x ∧ x.v = v := by
                  have e := HLi.out
                  rw [← hxs, List.getElem?_map, Option.map_eq_some_iff] at e
                  exact e
                obtain ⟨x, hxi, hxv⟩ := hx
                obtain ⟨wd, hwd⟩ : ∃ z, z = wc.alloc (.cells #[] 106) := ⟨_, rfl⟩
                have hbd : Below wc.heap.size wc wd := by rw [hwd]; exact (Below.refl _ _).alloc (Nat.le_refl _) _
                have hRd0 : VRow wd wv.heap.size G (.slice (some ⟨wc.heap.size, 0, none⟩) 0 0) [] := by rw [hwd]; exact VRow.empty wc wv.heap.size G hb7.size
                have hGv : ∀ b, G b → b < wv.heap.size := fun b hb => by have h1 := HG.out b hb; have h2 := HbW.out.size; omega
                have hbdw : Below w.heap.size w wd := hb7o.trans (hbd.mono hb7o.size)
                have hVd := hVx.below hbdw
                have hds : wv.heap.size ≤ wd.heap.size := Nat.le_trans h7s hbd.size
                have Hwd := Lib.hid hwd
                have Hxn := Lib.hid hxn
                have Hxs := Lib.hid hxs
                have Hxi := Lib.hid hxi
                have Hxv := Lib.hid hxv
                have hlim : ([] : List Vx).length + n ≤ 1000000 := by simp only [List.length_nil]; omega
                clear hwd hxn hxs hxi hxv hC7 hn5 h5at
                go_upto_region 66 with (first
                  | (at_builtin; (try change wpList _ _ _ _ _ (wc.alloc (.cells #[] 106))); (try rw [← Hwd.out]); refine wpList_append_vls rfl _ _ rfl hRd0 hds rfl _ _ _ rfl xs Hxn.out hVd hGv hlim ?_; intro v8 w8 hV8 hg8))
                rw [List.nil_append] at hV8
                have hb8 : Below wc.heap.size wc w8 := hbd.grown hg8 hbd.size fun g hg => by
                  rw [show (Value.slice (some ⟨wc.heap.size, 0, none⟩) 0 0).ownBlock = some wc.heap.size from rfl] at hg
                  injection hg with hg
                  omega
                have hV8c := hV8
                rcases hV8.2.2 with ⟨hv8, hn8⟩ | ⟨g8, c8, cur8, hv8, hB8, hg8b, hle8, hcap8, hcs8, htk8⟩
                · rw [Hxn.out] at hn8
                  omega
                rw [Hxn.out] at hv8
                subst hv8
                have hn8c : n ≤ c8 := by rw [← Hxn.out]; exact hle8
                have hi8 : i * 4 + 3 < cur8.size := by rw [hcs8]; omega
                have hc8m : c8 ≤ 9223372036854775807 := by unfold maxLen at hcap8; omega
                have hcell8 : w8.cell? ⟨g8, i * 4 + 3, none⟩ = some (cur8[i * 4 + 3]'hi8) := by rw [cell_of_row w8 g8 _ cur8 106 (0, 0) hg8b]; simp [hi8]
                have hfrz8 : w8.frozen? ⟨g8, i * 4 + 3, none⟩ = false := frozen_of_row w8 _ _ _ _ hg8b
                have hC8 := HCr.out.up hb8
                have hne8 := rows_apart hC8.2 hV8c.2 (by decide)
                obtain ⟨x', hx'⟩ : ∃ z : Vx, z = ⟨{ v with cells := csf }, A5, c5⟩ := ⟨_, rfl⟩
                have hok' : VxOk w8 (fun b => wv.heap.size ≤ b ∧ b ≠ g8) x' := by
                  rw [hx']
                  have hvx := Hvx.out
                  refine ⟨by show csf.length ≤ c5; rw [Hn5.out]; exact h5c, h5m, ?_, hvx.n20, hvx.q, ?_⟩
                  · show CsAt w8 _ A5 csf
                    exact H5at.out.keep hb8.size (fun b _ hlt => hb8.block b hlt) fun b hlt hb => ⟨hb.1, fun e => hne8 b (by rw [← Hn5.out]; exact hb.2) (by rw [e]; rfl)⟩
                  · show csf.length ≤ 1048576
                    rw [Hcsf.out]; exact Hfl.out
                have hturn := VRow.turn (G' := fun b => wv.heap.size ≤ b) (by rw [Hxn.out]; exact hV8c) Hxi.out (x' := x') (by rw [hx', Hxv.out]) (by rw [hx', Hxv.out]) (by rw [hx', Hxv.out]) hok'
                have hterm : (Value.slice x'.adr x'.v.cells.length x'.cap) = .slice A5 n5 c5 := by rw [hx']; show Value.slice A5 csf.length c5 = _; rw [Hn5.out]
                rw [hterm] at hturn
                have hb9 : Below W0.heap.size W0 (w8.setCell ⟨g8, i * 4 + 3, none⟩ (.slice A5 n5 c5)) := (hb7w.trans (hb8.mono hb7w.size)).setCell (by show W0.heap.size ≤ g8; have := Hbv.out.size; omega) _
                have Hturn := Lib.hid hturn
                have Hset := Lib.hid (show (xs.set i x').map (·.v) = L.set i { v with cells := csf } by rw [List.map_set, Hxs.out, hx'])
                have Hlen := Lib.hid (show (xs.set i x').length = n by rw [List.length_set, Hxn.out])
                have Hcap8 := Lib.hid hcap8
                clear hturn hterm hok' hx' hC8 hne8 hg8 hg8b htk8 hcs8 hle8 hV8 hV8c hB8 hRd0 hVd hbd hbdw hb8 hVx hcap8
                go_upto_region 67 with fail
                obtain ⟨w9, hw9⟩ : ∃ z, z = w8.setCell ⟨g8, i * 4 + 3, none⟩ (.slice A5 n5 c5) := ⟨_, rfl⟩
                rw [← hw9] at hb9 Hturn ⊢
                clear hw9 hcell8 hfrz8
                have Hb9 := Lib.hid hb9
                have Hvs9 := Lib.hid (show VSl w9 (fun b => G b ∨ W0.heap.size ≤ b) (some ⟨g8, 0, none⟩) n c8 (L.set i { v with cells := csf }) from by
                  refine ⟨xs.set i x', Hset.out, Hlen.out, hn8c, Hcap8.out, ?_, .inr ⟨g8, 0, rfl⟩⟩
                  have hvv := Hbv.out.size
                  refine Hturn.out.keep (Nat.le_refl _) (fun _ _ _ => rfl) fun b _ hb => ?_
                  rcases hb with hb | hb | hb
                  · exact .inl hb
                  · exact .inr (by omega)
                  · exact .inr (by omega))
                have Hr := Lib.hid (show doL L o = (L.set i { v with cells := csf }, aE 0) by rw [Hr0.out, Hcsf.out])
                clear hb9
                obtain ⟨AL, hAL⟩ : ∃ z, z = ansC 0 false (Lib.byteCells zB) nilS := ⟨_, rfl⟩
                obtain ⟨⟨ha1, ha2⟩, ha3, ha4⟩ := HAi.out 0 AL hAL
                have Ha1 := Lib.hid ha1
                have Ha2 := Lib.hid ha2
                have Ha3 := Lib.hid ha3
                have Ha4 := Lib.hid ha4
                have HAL := Lib.hid hAL
                have Hend := Lib.hid (Hfin.out w9 Hb9.out _ _ _ _ Hvs9.out AL)
                have HAn5 := Lib.hid (show Arr w9 (g + 1) 47 AZ from HAn.out.up Hb9.out)
                have Hset := Lib.hid (HAn5.out.setRow AL)
                clear hAL ha1 ha2 ha3 ha4 h5c
                go_wp2_with (first | (refine wpList_builtV rfl _ _ rfl _ rfl AL.toArray Ha4.out ?_) | (refine wpList_store_row rfl _ _ _ rfl (g + 1) AL.toArray rfl rfl 47 AZ.toArray HAn5.out Ha1.out Ha2.out Ha3.out ?_))
                (try simp only [Exit.inBlock, Exit.then])
                exact bodyPost_ret (v := .tuple #[.slice (some ⟨g8, 0, none⟩) n c8, .agg AL.toArray]) (results_tc (by rfl) _ _ (g + 1) 47 AL.toArray (0, 0) _ (by rfl) _ (by rfl) Hset.out Try.underlying47 rfl Ha1.out) rfl (rdo_post Hr.out HAL.out Hend.out.1 Hend.out.2)

end Go.Proofs.Ytcajhndhjlfmaaa

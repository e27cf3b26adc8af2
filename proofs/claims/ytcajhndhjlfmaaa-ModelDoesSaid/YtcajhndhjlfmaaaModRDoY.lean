/-
  The document's Do: a block that is there is read.
-/
import Derived.Test.YtcajhndhjlfmaaaModRDoK
namespace Go.Proofs.Ytcajhndhjlfmaaa
open Go.RowKit
set_option linter.unusedVariables false
set_option linter.unusedSimpArgs false
set_option maxRecDepth 100000

theorem ans_b12 (BL : List Value) (hl : BL.length = 48) : Try.prog.built 47 [(1, .bool true), (2, .agg BL.toArray)] = some (ansC 0 true BL nilS).toArray := by
  rw [ans_fill]
  have h1 : Instr.fill (#[(0, 1), (1, 1), (2, 48), (50, 1)][·]?) ansZ.toArray [(1, .bool true)] = some (ansC 0 true (Lib.byteCells zB) nilS).toArray := by rfl
  rw [fill_consV _ _ _ _ _ h1]
  have h2 := fill_midV (#[(0, 1), (1, 1), (2, 48), (50, 1)][·]?) (ansC 0 true (Lib.byteCells zB) nilS).toArray 2 2 BL (by rw [hl]; rfl) (by rw [hl, List.size_toArray, ansC_length (by simp [Lib.byteCells, zB])]; decide)
  rw [h2, hl]
  rfl
theorem had_some {cs : List Cl} {nu : Int} : ∀ k, k ≤ cs.length → (∃ j c, j < k ∧ cs[j]? = some c ∧ (c.1 : Int) = nu) → ∃ j c, hadI cs nu k = (j : Nat) ∧ j < k ∧ cs[j]? = some c ∧ (c.1 : Int) = nu
  | 0, _, ⟨j, c, h, _⟩ => by omega
  | k + 1, hk, ⟨j, c, h, h1, h2⟩ => by
    obtain ⟨d, hd⟩ : ∃ d, cs[k]? = some d := ⟨_, List.getElem?_eq_getElem (by omega)⟩
    by_cases e : (d.1 : Int) = nu
    · exact ⟨k, d, hadI_yes hd e, by omega, hd, e⟩
    · have hjk : j ≠ k := fun e2 => by subst e2; rw [h1] at hd; injection hd with hd; rw [← hd] at e; exact e h2
      obtain ⟨j', c', g1, g2, g3, g4⟩ := had_some k (by omega) ⟨j, c, by omega, h1, h2⟩
      exact ⟨j', c', by rw [hadI_no hd e]; exact g1, by omega, g3, g4⟩
theorem had_at {cs : List Cl} {nu : Int} (h : hasC cs nu = true) : ∃ j c, hadI cs nu cs.length = (j : Nat) ∧ j < cs.length ∧ cs[j]? = some c ∧ (c.1 : Int) = nu := by
  obtain ⟨c, hc, e⟩ := List.any_eq_true.1 h
  obtain ⟨j, hj⟩ := List.getElem?_of_mem hc
  exact had_some _ (Nat.le_refl _) ⟨j, c, (List.getElem?_eq_some_iff.1 hj).1, hj, by simpa using e⟩
theorem doL_read {L : List Vol} {o : Op15} {v : Vol} (h1 : o.kind = 5) (hf : findV L o.name = some v) (hn : numB o.num = true) : doL L o = (L, ⟨0, hasC v.cells o.num, atB v.cells o.num, []⟩) := by
  unfold doL
  rw [if_neg (by omega), if_neg (by omega), if_neg (by omega), if_neg (by omega), if_pos h1]
  unfold readL ofE
  rw [hf]
  have hch : (v.frozen && false) = false := by simp
  simp [hn]

set_option maxHeartbeats 32000000 in
theorem rdo_readyes (A : Option Addr) (n c : Nat) (L : List Vol) (o : Op15) (ho : OpOk o) (OL : List Value) (hOL : OL = opC o) (w : World) (G : Nat → Prop) (h : VSl w G A n c L) (hG : ∀ b, G b → b < w.heap.size) (hl : L.length ≤ 100000) (hrise : RiseV L) (hok : ∀ v ∈ L, ImgOk v) (h1 : o.kind = 5) (v : Vol) (hf : findV L o.name = some v) (hn : numB o.num = true) (hh : hasC v.cells o.num = true) :
    Calls Try.prog 15 #[.slice A n c, .agg OL.toArray] w fun e w' => RDoPost o w G L e w' := by
  obtain ⟨hk0, hk1, hk2, hk3, hk4⟩ := opC_at hOL
  obtain ⟨W1, hW1⟩ : ∃ z, z = w.alloc (.cells OL.toArray 44) := ⟨_, rfl⟩
  have hb1 : Below w.heap.size w W1 := by rw [hW1]; exact (Below.refl _ _).alloc (Nat.le_refl _) _
  have hA1 : Arr W1 w.heap.size 44 OL := by rw [hW1]; exact Arr.new w _ _
  have hs1 : W1.heap.size = w.heap.size + 1 := by rw [hW1]; simp
  obtain ⟨AZ, hAZ⟩ : ∃ z, z = ansZ := ⟨_, rfl⟩
  obtain ⟨W0, hW0⟩ : ∃ z, z = W1.alloc (.cells AZ.toArray 47) := ⟨_, rfl⟩
  have hAn : Arr W0 (w.heap.size + 1) 47 AZ := by rw [hW0, ← hs1]; exact Arr.new W1 _ _
  have hb0 : Below W1.heap.size W1 W0 := by rw [hW0]; exact (Below.refl _ _).alloc (Nat.le_refl _) _
  have HWx : Hid (W0 = (w.alloc (.cells OL.toArray 44)).alloc (.cells ansZ.toArray 47)) := Lib.hid (by rw [hW0, hW1, hAZ])
  replace hA1 := hA1.up hb0
  replace hb1 := hb1.trans (hb0.mono hb1.size)
  obtain ⟨g, hg⟩ : ∃ z, z = w.heap.size := ⟨_, rfl⟩
  rw [← hg] at hA1 hAn
  have hgl : w.heap.size ≤ g + 1 := by omega
  have hg1 := hAn.lt
  obtain ⟨nm, hnm⟩ : ∃ z, z = o.name := ⟨_, rfl⟩
  obtain ⟨ot, hot⟩ : ∃ z, z = o.other := ⟨_, rfl⟩
  obtain ⟨kd, hkd⟩ : ∃ z, z = o.kind := ⟨_, rfl⟩
  obtain ⟨qt, hqt⟩ : ∃ z, z = o.quota := ⟨_, rfl⟩
  obtain ⟨nu, hnu⟩ : ∃ z, z = o.num := ⟨_, rfl⟩
  have hsz := ho.n1
  have hsz2 := ho.n2
  have hkr := ho.i3
  rw [← hkd] at hkr
  rw [← hnm] at hk1 hsz
  rw [← hot] at hk2 hsz2
  rw [← hkd] at hk0
  rw [← hqt] at hk4
  rw [← hnu] at hk3
  have hc0 : W0.cell? ⟨g, 0, none⟩ = some (.int .i64 kd) := by rw [hA1.cell]; exact hk0
  have hc1 : W0.cell? ⟨g, 1, none⟩ = some (.string nm) := by rw [hA1.cell]; exact hk1
  have hc2 : W0.cell? ⟨g, 2, none⟩ = some (.string ot) := by rw [hA1.cell]; exact hk2
  have hc3 : W0.cell? ⟨g, 3, none⟩ = some (.int .i64 nu) := by rw [hA1.cell]; exact hk3
  have hc4 : W0.cell? ⟨g, 4, none⟩ = some (.int .i64 qt) := by rw [hA1.cell]; exact hk4
  have HAi := Lib.hid (fun (k : Int) (AL : List Value) (h : AL = ansC k false (Lib.byteCells zB) nilS) => show ((Try.prog.info? 47).map (·.size) = some AL.toArray.size ∧ AZ.toArray.size = AL.toArray.size) ∧ AL.toArray.all (·.oneCell') = true ∧ Try.prog.built 47 [(0, .int .i64 k)] = some AL.toArray by
    subst h
    rw [List.size_toArray, List.size_toArray, ansC_length (by simp [Lib.byteCells, zB]), hAZ]
    exact ⟨⟨ansSize, rfl⟩, ansC_one rfl, ans_b0 k⟩)
  have HAn := Lib.hid hAn
  have HA1 := Lib.hid hA1
  have Hb1 := Lib.hid hb1
  have Ho := Lib.hid ho
  have HOL := Lib.hid hOL
  have HV0 := Lib.hid (h.below hb1)
  have Hf := Lib.hid ((h.below hb1).find nm hsz)
  have HV := Lib.hid h
  have HG := Lib.hid hG
  have HG0 := Lib.hid (show ∀ b, G b → b < W0.heap.size from fun b hb => Nat.lt_of_lt_of_le (hG b hb) hb1.size)
  have Hg := Lib.hid hg
  have Hl := Lib.hid hl
  have Hrise := Lib.hid hrise
  have Hok := Lib.hid hok
  have Hkd := Lib.hid hkd
  have Hnm := Lib.hid hnm
  have Hnu := Lib.hid hnu
  have Hqt := Lib.hid hqt
  have Hot := Lib.hid hot
  have Hfin := Lib.hid (fun (w5 : World) (hb : Below W0.heap.size W0 w5) (A' : Option Addr) (n' c' : Nat) (L' : List Vol) (hv : VSl w5 (fun b => G b ∨ W0.heap.size ≤ b) A' n' c' L') (AL : List Value) => fin_vs hb1 hgl (by omega) hG hb hv AL)
  have Hdo := Lib.hid (show doL L o = (if kd = 1 then ePair (createL L nm qt) else if kd = 2 then ePair (deleteL L nm) else if kd = 3 then ePair (writeL L nm nu o.blk) else if kd = 4 then ePair (trimL L nm nu) else if kd = 5 then (L, readL L nm nu) else if kd = 6 then ePair (copyL L nm ot (quotaL L nm) true) else if kd = 7 then ePair (copyL L nm ot qt false) else if kd = 8 then (L, ⟨0, false, zB, L.map (·.name)⟩) else (L, aE 1)) by rw [hkd, hnm, hot, hqt, hnu]; rfl)
  have HAZ := Lib.hid hAZ
  clear hnm hot hkd hqt hnu hk0 hk1 hk2 hk3 hk4 hOL ho h hl hb1 hA1 hb0 hs1 hW0 hW1 hAn hg hG hrise hok hgl hAZ
  obtain ⟨i, hfi, hLi⟩ := findI_at (show findV L nm = some v by rw [Hnm.out]; exact hf)
  rw [hfi] at Hf
  have hneg : decide (((i : Nat) : Int) < 0) = false := by simp
  obtain ⟨b, off, rfl, hin, Ac, cc, a0, a1', a2', a3', hvx, hrow⟩ := HV.out.at_ hLi
  have hbw : b < w.heap.size := cell_ltC a0
  have a1 := (World.cell?_of_block (Hb1.out.block b hbw)).trans a1'
  have a2 := (World.cell?_of_block (Hb1.out.block b hbw)).trans a2'
  have a3 := (World.cell?_of_block (Hb1.out.block b hbw)).trans a3'
  have hcn : n ≤ c ∧ c ≤ 9223372036854775807 ∧ n ≤ 100000 := by
    obtain ⟨xs, hx, hn', hc, hm, _⟩ := HV.out
    have hl := Hl.out
    unfold maxLen at hm
    rw [← hx, List.length_map, hn'] at hl
    exact ⟨hc, by omega, hl⟩
  have hny := numB_yes (show numB nu = true by rw [Hnu.out]; exact hn)
  have hx1 : decide (nu < 0) = false := by simp; omega
  have hx2 : decide (nu ≥ 1048576) = false := by simp; omega
  rw [← Hkd.out] at h1
  have hn1 : ¬ kd = 1 := by omega
  have hb1 : (kd == 1) = false := by simpa using hn1
  have hn8 : ¬ kd = 8 := by omega
  have hb8 : (kd == 8) = false := by simpa using hn8
  have hn6 : ¬ kd = 6 := by omega
  have hb6 : (kd == 6) = false := by simpa using hn6
  have hn7 : ¬ kd = 7 := by omega
  have hb7 : (kd == 7) = false := by simpa using hn7
  have hn2 : ¬ kd = 2 := by omega
  have hb2 : (kd == 2) = false := by simpa using hn2
  have hdl : decide (kd < 1) = false := by simp; omega
  have hdh : decide (kd > 8) = false := by simp; omega
  obtain ⟨lx, hlx⟩ : ∃ z, v.cells.length = z := ⟨_, rfl⟩
  have hx3 : lx ≤ cc ∧ cc ≤ 9223372036854775807 := by rw [← hlx]; exact ⟨hvx.le, by have := hvx.lim; unfold maxLen at this; omega⟩
  rw [hlx] at a3
  have Hvx := Lib.hid hvx
  have Hlx := Lib.hid hlx
  have Ha1 := Lib.hid a1
  have Ha3 := Lib.hid a3
  have Hc := Lib.hid (show W0.cell? ⟨g, 0, none⟩ = some (.int .i64 kd) ∧ W0.cell? ⟨g, 3, none⟩ = some (.int .i64 nu) from ⟨hc0, hc3⟩)
  have hb5 : (kd == 5) = true := by simpa using h1
  rw [← Hnu.out] at hh
  obtain ⟨j, cl, hj1, hj2, hj3, hj4⟩ := had_at hh
  have hat : atB v.cells nu = cl.2 := by
    unfold atB
    rw [← hj4, getC_of (Hok.out v (List.mem_of_getElem? hLi)).rs (n := cl.1) (f := cl.2) (List.mem_of_getElem? hj3)]
    rfl
  obtain ⟨d, hd⟩ : ∃ z, cl.2 = z := ⟨_, rfl⟩
  have Hr := Lib.hid (show doL L o = (L, ⟨0, true, d, []⟩) by rw [doL_read (by rw [← Hkd.out]; exact h1) hf hn, ← Hnu.out, hh, hat, hd])
  obtain ⟨cb, coff, hax, hcb, h48, hrx0⟩ := hvx.cell hj3
  have HAx := Lib.hid (show Ac = some ⟨cb, coff, none⟩ from hax)
  clear hax
  obtain ⟨DL, hDL⟩ : ∃ z, z = Lib.byteCells d := ⟨_, rfl⟩
  rw [hd] at h48
  have hDl : DL.length = 48 := by rw [hDL, Lib.byteCells_length, h48]
  have HDi := Lib.hid (show (Try.prog.info? 42).map (·.size) = some DL.length by rw [hDl]; exact blkSize)
  have Hrd := Lib.hid (show w.rangeAt cb (coff + j * 49 + 1) DL from fun t u hu => by
    have h1 := hrx0 (t + 1) u (by
      show (Value.int IntKind.i64 (cl.1 : Nat) :: Lib.byteCells cl.2)[t + 1]? = some u
      rw [List.getElem?_cons_succ, hd, ← hDL]
      exact hu)
    rw [← h1, Nat.add_assoc _ 1 t, Nat.add_comm 1 t])
  obtain ⟨AL, hAL⟩ : ∃ z, z = ansC 0 true DL nilS := ⟨_, rfl⟩
  have HA1i := Lib.hid (show (Try.prog.info? 47).map (·.size) = some AL.toArray.size ∧ AZ.toArray.size = AL.toArray.size by
    rw [hAL, List.size_toArray, ansC_length hDl, HAZ.out]
    exact ⟨ansSize, rfl⟩)
  have HA1c := Lib.hid (show AL.toArray.all (·.oneCell') = true by rw [hAL, hDL]; exact ansC_one rfl)
  have HA1b := Lib.hid (show Try.prog.built 47 [(1, .bool true), (2, .agg DL.toArray)] = some AL.toArray by rw [hAL]; exact ans_b12 DL hDl)
  have HAL := Lib.hid (show AL = ansC 0 true (Lib.byteCells d) nilS by rw [hAL, hDL])
  rw [hlx] at hj1 hj2
  have Hj1 := Lib.hid hj1
  have hbgg : b ≠ g + 1 ∧ cb ≠ g + 1 := by have := Hg.out; omega
  have Hbg := Lib.hid hbgg
  clear hh hj1 hj3 hj4 hat hd hrx0 h48 hDL hAL hbgg hDl
  have Ha2 := Lib.hid a2
  clear a0 a1 a1' a2 a2' a3 a3' hvx hrow hfi hLi hlx hf hn
  go_enter Try.func15, Try.ntmps15
  go_upto_region 1 with fail
  change Code.wp _ _ _ _ ((w.alloc (.cells OL.toArray 44)).alloc (.cells ansZ.toArray 47))
  rw [← HWx.out, ← Hg.out]
  clear HWx
  go_wp2_with fail
  refine Calls.mono Hf.out ?_
  rintro e w' ⟨rfl, rfl⟩
  clear Hf
  go_upto_region 39 with fail
  clear hc0 hc1 hc2 hc3 hc4
  go_wp2_with fail
  go_loopw [10, 11] (fun hd ix wr => ∃ k : Nat, k ≤ lx ∧ ix = .int .i64 k ∧ hd = .int .i64 (hadI v.cells nu k) ∧ Drawn W0 wr) (fun _ ix _ => lx - (Go.RowKit.intOf ix).toNat)
  case atStart => exact ⟨0, Nat.zero_le _, rfl, rfl, Drawn.refl _⟩
  case round =>
    obtain ⟨k, hk, rfl, rfl, hD⟩ := hrel
    have HD := Lib.hid hD
    have c3 := ((Drawn.refl W0).cells hD _).trans Ha3.out
    have d3 := ((Drawn.refl W0).cells hD _).trans Hc.out.2
    by_cases hlt : k < lx
    · have hq1 : decide ((k : Int) < (lx : Int)) = true := by simp; omega
      obtain ⟨cl, hcl⟩ : ∃ z, v.cells[k]? = some z := ⟨_, List.getElem?_eq_getElem (by rw [Hlx.out]; exact hlt)⟩
      obtain ⟨cb, coff, hax, hcb, h48, hrx0⟩ := Hvx.out.cell hcl
      obtain rfl : Ac = some ⟨cb, coff, none⟩ := hax
      have e0 : World.cell? wr ⟨cb, coff + k * 49, none⟩ = some (.int .i64 (cl.1 : Nat)) := ((Drawn.refl W0).cells hD _).trans ((World.cell?_of_block (Hb1.out.block cb hcb)).trans (hrx0 0 _ rfl))
      have Hcl := Lib.hid hcl
      clear hrx0 hcl hD
      by_cases he : (cl.1 : Int) = nu
      · have hqe : (((cl.1 : Nat) : Int) == nu) = true := by simpa using he
        have Hnx := Lib.hid (hadI_yes Hcl.out he)
        clear he
        go_upto_region 42 with fail
        go_quiet (fail)
        go_wp2_with fail
        go_roundw
        case rel => exact ⟨k + 1, by omega, by go_num, by rw [Hnx.out], HD.out.drewN _⟩
        case measure => simp [Go.RowKit.intOf]; omega
      · have hqe : (((cl.1 : Nat) : Int) == nu) = false := by simpa using he
        have Hnx := Lib.hid (hadI_no Hcl.out he)
        go_upto_region 42 with fail
        go_quiet (fail)
        go_wp2_with fail
        go_roundw
        case rel => exact ⟨k + 1, by omega, by go_num, by rw [Hnx.out], HD.out.drewN _⟩
        case measure => simp [Go.RowKit.intOf]; omega
    · obtain rfl : k = lx := by omega
      have hq1 : decide ((k : Int) < (k : Int)) = false := by simp
      obtain ⟨hi, hhi⟩ : ∃ z, hadI v.cells nu k = z := ⟨_, rfl⟩
      rw [hhi]
      have Hhi := Lib.hid hhi
      have hbr : Below W0.heap.size W0 wr := by obtain ⟨dn, e⟩ := HD.out; rw [e]; exact Below.dN (Below.refl _ _) dn
      have Hbr := Lib.hid hbr
      have f0 := ((Drawn.refl W0).cells hD _).trans Hc.out.1
      have f2 := ((Drawn.refl W0).cells hD _).trans Ha2.out
      clear hD hhi hbr
      rw [Hj1.out] at Hhi
      obtain rfl := Hhi.out
      have hqh : decide (((j : Nat) : Int) < 0) = false := by simp
      obtain rfl := HAx.out
      clear Hhi hq1
      go_upto_region 47 with fail
      have hW : Below w.heap.size w wr := Hb1.out.trans (Hbr.out.mono Hb1.out.size)
      have hrw : wr.rangeAt cb (coff + j * 49 + 1) DL := fun t u hu => (World.cell?_of_block (hW.block cb hcb)).trans (Hrd.out t u hu)
      have Hend := Lib.hid (Hfin.out (wr.drewN 1) (Below.dN Hbr.out 1) _ _ _ _ (HV0.out.grow (Below.dN Hbr.out 1)) AL)
      have HAn5 := Lib.hid (show Arr (wr.drewN 1) (g + 1) 47 AZ from HAn.out.up (Below.dN Hbr.out 1))
      have Hset := Lib.hid (HAn5.out.setRow AL)
      have HS5 := Lib.hid (show ((wr.drewN 1).setRow (g + 1) AL.toArray).cell? ⟨b, off + i * 4 + 3, none⟩ = some (.slice (some ⟨cb, coff, none⟩) k cc) ∧ ((wr.drewN 1).setRow (g + 1) AL.toArray).rangeAt cb (coff + j * 49 + 1) DL from by
        have hO := (Only.refl (fun k => k = g + 1) (wr.drewN 1)).setRow (g := g + 1) (.inl rfl) AL.toArray
        have hsz : w.heap.size ≤ (wr.drewN 1).heap.size := hW.size
        exact ⟨(World.cell?_of_block (hO.block b (by omega) Hbg.out.1)).trans c3, fun t u hu => (World.cell?_of_block (hO.block cb (by omega) Hbg.out.2)).trans (hrw t u hu)⟩)
      refine wp_region_held_drew (S := (fun w' => w'.cell? ⟨b, off + i * 4 + 3, none⟩ = some (.slice (some ⟨cb, coff, none⟩) k cc) ∧ w'.rangeAt cb (coff + j * 49 + 1) DL)) (by kernel_rfl) ⟨c3, hrw⟩ (fun hHeld => ?_)
      refine anyH_take (i := 0) (v := .slice (some ⟨b, off, none⟩) n c) (some 197) rfl rfl (by kernel_rfl) (by kernel_rfl) (by kernel_rfl) (fun _ _ _ h => h) (Or.inl ⟨by rfl, fun w' hw => by (go_simp)⟩) (by assumption) ?_
      simp only [Act.put, List.setIfInBounds_toArray, List.set_cons_zero, List.set_cons_succ]
      refine anyH_take (i := 1) (v := .slice (some ⟨b, off, none⟩) n c) (some 198) rfl rfl (by kernel_rfl) (by kernel_rfl) (by kernel_rfl) (fun _ _ _ h => h) (Or.inl ⟨by rfl, fun w' hw => by (go_simp)⟩) (by assumption) ?_
      simp only [Act.put, List.setIfInBounds_toArray, List.set_cons_zero, List.set_cons_succ]
      refine anyH_take (i := 2) (v := .int .i64 (i : Nat)) (some 199) rfl rfl (by kernel_rfl) (by kernel_rfl) (by kernel_rfl) (fun _ _ _ h => h) (Or.inl ⟨by rfl, fun w' hw => by (go_simp)⟩) (by assumption) ?_
      simp only [Act.put, List.setIfInBounds_toArray, List.set_cons_zero, List.set_cons_succ]
      refine anyH_take (i := 3) (v := .pointer (some ⟨b, off + i * 4, none⟩)) (some 200) rfl rfl (by kernel_rfl) (by kernel_rfl) (by kernel_rfl) (fun _ _ _ h => h) (Or.inl ⟨by rfl, fun w' hw => by (go_simp; try (intro h; omega))⟩) (by assumption) ?_
      simp only [Act.put, List.setIfInBounds_toArray, List.set_cons_zero, List.set_cons_succ]
      refine anyH_take (i := 4) (v := .pointer (some ⟨b, off + i * 4 + 3, none⟩)) (some 201) rfl rfl (by kernel_rfl) (by kernel_rfl) (by kernel_rfl) (fun _ _ _ h => h) (Or.inl ⟨by rfl, fun w' hw => by (go_simp)⟩) (by assumption) ?_
      simp only [Act.put, List.setIfInBounds_toArray, List.set_cons_zero, List.set_cons_succ]
      refine anyH_take (i := 5) (v := .slice (some ⟨cb, coff, none⟩) k cc) (some 202) rfl rfl (by kernel_rfl) (by kernel_rfl) (by kernel_rfl) (fun _ _ _ h => h) (Or.inl ⟨by rfl, fun w' hw => by (have hcc := hw.1; go_simp)⟩) (by assumption) ?_
      simp only [Act.put, List.setIfInBounds_toArray, List.set_cons_zero, List.set_cons_succ]
      refine anyH_take (i := 6) (v := .int .i64 (j : Nat)) (some 203) rfl rfl (by kernel_rfl) (by kernel_rfl) (by kernel_rfl) (fun _ _ _ h => h) (Or.inl ⟨by rfl, fun w' hw => by (go_simp)⟩) (by assumption) ?_
      simp only [Act.put, List.setIfInBounds_toArray, List.set_cons_zero, List.set_cons_succ]
      refine anyH_take (i := 7) (v := .pointer (some ⟨cb, coff + j * 49, none⟩)) (some 204) rfl rfl (by kernel_rfl) (by kernel_rfl) (by kernel_rfl) (fun _ _ _ h => h) (Or.inl ⟨by rfl, fun w' hw => by (go_simp; try (intro h; omega))⟩) (by assumption) ?_
      simp only [Act.put, List.setIfInBounds_toArray, List.set_cons_zero, List.set_cons_succ]
      refine anyH_take (i := 8) (v := .pointer (some ⟨cb, coff + j * 49 + 1, none⟩)) (some 205) rfl rfl (by kernel_rfl) (by kernel_rfl) (by kernel_rfl) (fun _ _ _ h => h) (Or.inl ⟨by rfl, fun w' hw => by (go_simp)⟩) (by assumption) ?_
      simp only [Act.put, List.setIfInBounds_toArray, List.set_cons_zero, List.set_cons_succ]
      refine anyH_take (i := 9) (some 206) rfl rfl (by kernel_rfl) (by kernel_rfl) (by kernel_rfl) (fun _ _ _ h => h) (yieldsIf_load_mid (by rfl) 42 (.tmp 205) rfl cb (coff + j * 49 + 1) rfl DL _ (fun w' h => h.2) Try.underlying42 rfl HDi.out) (by assumption) ?_
      simp only [Act.put, List.setIfInBounds_toArray, List.set_cons_zero, List.set_cons_succ]
      refine anyH_take (i := 10) (some 207) rfl rfl (by kernel_rfl) (by kernel_rfl) (by kernel_rfl) (fun _ _ _ h => h) (yieldsIf_build (by rfl) 47 _ rfl [(1, .bool true), (2, .agg DL.toArray)] rfl AL.toArray HA1b.out) (by assumption) ?_
      simp only [Act.put, List.setIfInBounds_toArray, List.set_cons_zero, List.set_cons_succ]
      refine anyH_take (i := 11) (v := .slice (some ⟨b, off, none⟩) n c) (some 4) rfl rfl (by kernel_rfl) (by kernel_rfl) (by kernel_rfl) (fun _ _ _ h => h) (Or.inl ⟨by rfl, fun w' hw => by (go_simp)⟩) (by assumption) ?_
      simp only [Act.put, List.setIfInBounds_toArray, List.set_cons_zero, List.set_cons_succ]
      refine wpAnyH_ready (rs := [12]) (by kernel_rfl) (by simp) ?_
      refine AllReadyH.cons rfl (fun K hK => ?_) AllReadyH.nil
      rw [if_pos (by rfl)]
      refine wp_store_row_to rfl _ _ _ rfl (g + 1) AL.toArray rfl rfl 47 AZ.toArray HAn5.out HA1i.out.1 HA1i.out.2 HA1c.out ?_
      refine hK.out _ _ HS5.out (fun hHeldq => ?_)
      clear hK K
      try simp only [Act.put, List.setIfInBounds_toArray, List.set_cons_zero, List.set_cons_succ]
      refine wpAnyH_done (by kernel_rfl) ?_ _
      go_wp2_with fail
      (try simp only [Exit.inBlock, Exit.then])
      exact bodyPost_ret (v := .tuple #[.slice (some ⟨b, off, none⟩) n c, .agg AL.toArray]) (results_tc (by rfl) _ _ (g + 1) 47 AL.toArray (0, 0) _ (by rfl) _ (by rfl) Hset.out Try.underlying47 rfl HA1i.out.1) rfl ⟨_, _, _, nilS, by rw [Hr.out, HAL.out]; rfl, by rw [Hr.out]; exact Hend.out.1, by rw [Hr.out]; exact nms_nil _ _, Hend.out.2⟩
end Go.Proofs.Ytcajhndhjlfmaaa

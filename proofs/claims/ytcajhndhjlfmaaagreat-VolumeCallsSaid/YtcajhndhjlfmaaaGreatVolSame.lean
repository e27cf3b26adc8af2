/-
  The document's Same on volumes.
-/
import Derived.Test.YtcajhndhjlfmaaaGreatVolFind
namespace Go.Proofs.YtcajhndhjlfmaaaGreat
open Go.RowKit
set_option linter.unusedVariables false
set_option linter.unusedSimpArgs false

theorem vol_ext {a b : Vol} (h1 : a.name = b.name) (h2 : a.quota = b.quota) (h3 : a.frozen = b.frozen) (h4 : a.cells = b.cells) : a = b := by
  cases a; cases b; simp_all
theorem Drawn.cells {w a b : World} (ha : Drawn w a) (hb : Drawn w b) (p : Addr) : b.cell? p = a.cell? p := by
  obtain ⟨n, rfl⟩ := ha
  obtain ⟨m, rfl⟩ := hb
  rfl
theorem VxOk.cell {w : World} {G : Nat → Prop} {x : Vx} (h : VxOk w G x) {k : Nat} {c : Cl} (hk : x.v.cells[k]? = some c) : ∃ b off, x.adr = some ⟨b, off, none⟩ ∧ b < w.heap.size ∧ c.2.length = 32 ∧ w.rangeAt b (off + k * 33) (cellC c) := by
  obtain ⟨b, off, e, hg, hlt, hr⟩ := h.cs (by have := (List.getElem?_eq_some_iff.1 hk).1; omega)
  exact ⟨b, off, e, hlt, (hr k c hk).1, (hr k c hk).2⟩

set_option maxHeartbeats 8000000 in
set_option maxRecDepth 100000 in
theorem same12_any (A B : Option Addr) (n c m d : Nat) (xs ys : List Vx) (w : World) (G H : Nat → Prop) (h : VsAt w G A xs) (g : VsAt w H B ys) (hn : xs.length = n) (hm : ys.length = m) (hc : n ≤ c) (hcm : c ≤ maxLen) (hd : m ≤ d) (hdm : d ≤ maxLen) (r : Bool) (hr : r = true ↔ xs.map (·.v) = ys.map (·.v)) :
    Calls Tryz.prog 10 #[.slice A n c, .slice B m d] w fun e w' => e = .returned (.bool r) ∧ Drawn w w' := by
  unfold maxLen at hcm hdm
  have Hr := Lib.hid hr
  by_cases hl : n = m
  · subst hl
    have hq0 : ((n : Int) != (n : Int)) = false := by simp
    have Hn := Lib.hid hn
    have Hm := Lib.hid hm
    have Hh := Lib.hid h
    have Hg := Lib.hid g
    clear hn hm hr h g
    go_enter Tryz.func10, Tryz.ntmps10
    go_wp2_with fail
    go_loopw [5] (fun i wr => ∃ k : Nat, k ≤ n ∧ i = .int .i64 k ∧ Drawn w wr ∧ Hid (∀ j, j < k → (xs.map (·.v))[j]? = (ys.map (·.v))[j]?)) (fun i _ => n - (Go.RowKit.intOf i).toNat)
    case atStart => exact ⟨0, Nat.zero_le _, rfl, Drawn.refl w, fun j hj => by omega⟩
    case round =>
      obtain ⟨k, hk, rfl, hD, Hk⟩ := hrel
      have HD := Lib.hid hD
      have Hhr : Hid (VsAt wr G A xs) := by obtain ⟨dn, rfl⟩ := hD; exact Lib.hid (Hh.out.drewN dn)
      have Hgr : Hid (VsAt wr H B ys) := by obtain ⟨dn, rfl⟩ := hD; exact Lib.hid (Hg.out.drewN dn)
      clear hD
      by_cases hlt : k < n
      · have hd1 : decide ((k : Int) < (n : Int)) = true := by simp; omega
        obtain ⟨x, hx⟩ : ∃ x, xs[k]? = some x := ⟨xs[k]'(by rw [Hn.out]; exact hlt), List.getElem?_eq_getElem _⟩
        obtain ⟨y, hy⟩ : ∃ y, ys[k]? = some y := ⟨ys[k]'(by rw [Hm.out]; exact hlt), List.getElem?_eq_getElem _⟩
        obtain ⟨b, off, rfl, hblt, hG, a0, a1, a2, a3⟩ := Hhr.out.at_ hx
        obtain ⟨b', off', rfl, hblt', hG', b0, b1, b2, b3⟩ := Hgr.out.at_ hy
        have hxv : (xs.map (·.v))[k]? = some x.v := by rw [List.getElem?_map, hx]; rfl
        have hyv : (ys.map (·.v))[k]? = some y.v := by rw [List.getElem?_map, hy]; rfl
        have Hxv := Lib.hid hxv
        have Hyv := Lib.hid hyv
        have Hx := Lib.hid (Hhr.out.2 x (List.mem_of_getElem? hx))
        have Hy := Lib.hid (Hgr.out.2 y (List.mem_of_getElem? hy))
        have Hbad := Lib.hid (fun (e : x.v ≠ y.v) => show r = false from by
          cases r with
          | false => rfl
          | true =>
            have := Hr.out.1 rfl
            rw [this, hyv] at hxv
            injection hxv with hxv
            exact absurd hxv.symm e)
        clear hxv hyv hx hy
        obtain ⟨nx, hnx⟩ : ∃ z, x.v.name = z := ⟨_, rfl⟩
        obtain ⟨ny, hny⟩ : ∃ z, y.v.name = z := ⟨_, rfl⟩
        obtain ⟨qx, hqx⟩ : ∃ z, x.v.quota = z := ⟨_, rfl⟩
        obtain ⟨qy, hqy⟩ : ∃ z, y.v.quota = z := ⟨_, rfl⟩
        obtain ⟨fx, hfx⟩ : ∃ z, x.v.frozen = z := ⟨_, rfl⟩
        obtain ⟨fy, hfy⟩ : ∃ z, y.v.frozen = z := ⟨_, rfl⟩
        obtain ⟨lx, hlx⟩ : ∃ z, x.v.cells.length = z := ⟨_, rfl⟩
        obtain ⟨ly, hly⟩ : ∃ z, y.v.cells.length = z := ⟨_, rfl⟩
        obtain ⟨Ax, hAx⟩ : ∃ z, x.adr = z := ⟨_, rfl⟩
        obtain ⟨Ay, hAy⟩ : ∃ z, y.adr = z := ⟨_, rfl⟩
        obtain ⟨cx, hcx⟩ : ∃ z, x.cap = z := ⟨_, rfl⟩
        obtain ⟨cy, hcy⟩ : ∃ z, y.cap = z := ⟨_, rfl⟩
        have hx1 : lx ≤ cx ∧ cx ≤ 9223372036854775807 := by rw [← hlx, ← hcx]; exact ⟨Hx.out.le, by have := Hx.out.lim; unfold maxLen at this; omega⟩
        have hy1 : ly ≤ cy ∧ cy ≤ 9223372036854775807 := by rw [← hly, ← hcy]; exact ⟨Hy.out.le, by have := Hy.out.lim; unfold maxLen at this; omega⟩
        rw [hnx] at a0; rw [hqx] at a1; rw [hfx] at a2; rw [hAx, hlx, hcx] at a3
        rw [hny] at b0; rw [hqy] at b1; rw [hfy] at b2; rw [hAy, hly, hcy] at b3
        have Hnx := Lib.hid hnx
        have Hny := Lib.hid hny
        have Hqx := Lib.hid hqx
        have Hqy := Lib.hid hqy
        have Hfx := Lib.hid hfx
        have Hfy := Lib.hid hfy
        have Hlx := Lib.hid hlx
        have Hly := Lib.hid hly
        have HAx := Lib.hid hAx
        have HAy := Lib.hid hAy
        clear hnx hny hqx hqy hfx hfy hlx hly hAx hAy hcx hcy
        go_upto_region 6 with fail
        by_cases e1 : nx = ny
        · have q1 := ba_eq e1
          have E1 := Lib.hid e1
          clear e1
          by_cases e2 : qx = qy
          · have q2 : ((qx : Int) != (qy : Int)) = false := by simp [e2]
            have q2' : ((qx : Int) == (qy : Int)) = true := by simp [e2]
            have E2 := Lib.hid e2
            clear e2
            by_cases e3 : fx = fy
            · have q3 : (fx != fy) = false := by simp [e3]
              have q3' : (fx == fy) = true := by simp [e3]
              have E3 := Lib.hid e3
              clear e3
              by_cases e4 : lx = ly
              · have q4 : ((lx : Int) != (ly : Int)) = false := by simp [e4]
                have q4' : ((lx : Int) == (ly : Int)) = true := by simp [e4]
                have E4 := Lib.hid e4
                clear e4
                go_quiet (fail)
                go_wp2_with fail
                -- INNER
                obtain rfl : lx = ly := E4.out
                clear E4
                have HD2 : Hid (Drawn w (wr.drewN nq)) := HD.out.drewN _
                have HA3 := Lib.hid (fun (w2 : World) (h2 : Drawn w w2) => show w2.cell? ⟨b, off + k * 4 + 3, none⟩ = some (.slice Ax lx cx) from (HD.out.cells h2 _).trans a3)
                have HB3 := Lib.hid (fun (w2 : World) (h2 : Drawn w w2) => show w2.cell? ⟨b', off' + k * 4 + 3, none⟩ = some (.slice Ay lx cy) from (HD.out.cells h2 _).trans b3)
                clear a0 a1 a2 a3 b0 b1 b2 b3 q1 q2 q2' q3 q3' q4 q4'
                obtain ⟨wq, hwq⟩ : ∃ z, z = wr.drewN nq := ⟨_, rfl⟩
                rw [← hwq] at HD2 ⊢
                clear hwq
                go_loopw [6] (fun i w2 => ∃ j : Nat, j ≤ lx ∧ i = .int .i64 j ∧ Drawn w w2 ∧ Hid (∀ t, t < j → x.v.cells[t]? = y.v.cells[t]?)) (fun i _ => lx - (Go.RowKit.intOf i).toNat)
                case atStart => exact ⟨0, Nat.zero_le _, rfl, HD2.out, fun t ht => by omega⟩
                case round =>
                  rename_i w2
                  obtain ⟨j, hj, rfl, hD2, Hj⟩ := hrel
                  have c3 := HA3.out _ hD2
                  have d3 := HB3.out _ hD2
                  have HD3 := Lib.hid hD2
                  clear hD2
                  by_cases hjl : j < lx
                  · have hd2 : decide ((j : Int) < (lx : Int)) = true := by simp; omega
                    have hjx : j < x.v.cells.length := by rw [Hlx.out]; exact hjl
                    have hjy : j < y.v.cells.length := by rw [Hly.out]; exact hjl
                    obtain ⟨cx', hcx'⟩ : ∃ z, x.v.cells[j]? = some z := ⟨_, List.getElem?_eq_getElem hjx⟩
                    obtain ⟨cy', hcy'⟩ : ∃ z, y.v.cells[j]? = some z := ⟨_, List.getElem?_eq_getElem hjy⟩
                    obtain ⟨cb, coff, hax, hcb, hx32, hrx0⟩ := Hx.out.cell hcx'
                    obtain ⟨db, doff, hay, hdb, hy32, hry0⟩ := Hy.out.cell hcy'
                    rw [HAx.out] at hax
                    rw [HAy.out] at hay
                    rw [hax] at c3
                    rw [hay] at d3
                    obtain ⟨XL, hXL⟩ : ∃ z, z = cellC cx' := ⟨_, rfl⟩
                    obtain ⟨YL, hYL⟩ : ∃ z, z = cellC cy' := ⟨_, rfl⟩
                    have hrx : World.rangeAt _ cb (coff + j * 33) XL := fun t v hv => by rw [hXL] at hv; exact (HD.out.cells HD3.out _).trans (hrx0 t v hv)
                    have hry : World.rangeAt _ db (doff + j * 33) YL := fun t v hv => by rw [hYL] at hv; exact (HD.out.cells HD3.out _).trans (hry0 t v hv)
                    have HXi := Lib.hid (show (Tryz.prog.info? 73).map (·.size) = some XL.length by rw [hXL, cellC_length hx32]; exact clSize)
                    have HYi := Lib.hid (show (Tryz.prog.info? 73).map (·.size) = some YL.length by rw [hYL, cellC_length hy32]; exact clSize)
                    obtain ⟨r0, hr0⟩ : ∃ z, decide (cx' = cy') = z := ⟨_, rfl⟩
                    have Hcmp := Lib.hid (fun w => show (Op.equalIn 10000 73 (.agg XL.toArray) (.agg YL.toArray)).run Tryz.prog w = .ok r0 w by rw [← hr0]; exact cl_eqv cx' cy' hx32 hy32 XL YL hXL hYL w)
                    have Hr0 := Lib.hid hr0
                    have Hcx := Lib.hid hcx'
                    have Hcy := Lib.hid hcy'
                    clear hr0 hcx' hcy' hrx0 hry0 hXL hYL hx32 hy32 hax hay hjx hjy
                    go_upto_region 11 with fail
                    refine wp_region_held_drew (S := fun w' => w'.cell? ⟨b, off + k * 4 + 3, none⟩ = some (.slice (some ⟨cb, coff, none⟩) lx cx) ∧ w'.cell? ⟨b', off' + k * 4 + 3, none⟩ = some (.slice (some ⟨db, doff, none⟩) lx cy) ∧ w'.rangeAt cb (coff + j * 33) XL ∧ w'.rangeAt db (doff + j * 33) YL) (by kernel_rfl) ⟨c3, d3, hrx, hry⟩ (fun hHeld => ?_)
                    refine anyH_take (i := 0) (v := .slice (some ⟨b, off, none⟩) n c) (some 80) rfl rfl (by kernel_rfl) (by kernel_rfl) (by kernel_rfl) (fun _ _ _ h => h) (Or.inl ⟨by rfl, fun w' hw => by rfl⟩) (by assumption) ?_
                    simp only [Act.put, List.setIfInBounds_toArray, List.set_cons_zero, List.set_cons_succ]
                    refine anyH_take (i := 1) (v := .int .i64 (k : Nat)) (some 81) rfl rfl (by kernel_rfl) (by kernel_rfl) (by kernel_rfl) (fun _ _ _ h => h) (Or.inl ⟨by rfl, fun w' hw => by rfl⟩) (by assumption) ?_
                    simp only [Act.put, List.setIfInBounds_toArray, List.set_cons_zero, List.set_cons_succ]
                    refine anyH_take (i := 2) (v := .pointer (some ⟨b, off + k * 4, none⟩)) (some 82) rfl rfl (by kernel_rfl) (by kernel_rfl) (by kernel_rfl) (fun _ _ _ h => h) (Or.inl ⟨by rfl, fun w' hw => by (go_simp; try (intro h; omega))⟩) (by assumption) ?_
                    simp only [Act.put, List.setIfInBounds_toArray, List.set_cons_zero, List.set_cons_succ]
                    refine anyH_take (i := 3) (v := .pointer (some ⟨b, off + k * 4 + 3, none⟩)) (some 83) rfl rfl (by kernel_rfl) (by kernel_rfl) (by kernel_rfl) (fun _ _ _ h => h) (Or.inl ⟨by rfl, fun w' hw => by (go_simp)⟩) (by assumption) ?_
                    simp only [Act.put, List.setIfInBounds_toArray, List.set_cons_zero, List.set_cons_succ]
                    refine anyH_take (i := 4) (v := .slice (some ⟨cb, coff, none⟩) lx cx) (some 84) rfl rfl (by kernel_rfl) (by kernel_rfl) (by kernel_rfl) (fun _ _ _ h => h) (Or.inl ⟨by rfl, fun w' hw => by (have hcc := hw.1; go_simp)⟩) (by assumption) ?_
                    simp only [Act.put, List.setIfInBounds_toArray, List.set_cons_zero, List.set_cons_succ]
                    refine anyH_take (i := 5) (v := .int .i64 (j : Nat)) (some 85) rfl rfl (by kernel_rfl) (by kernel_rfl) (by kernel_rfl) (fun _ _ _ h => h) (Or.inl ⟨by rfl, fun w' hw => by rfl⟩) (by assumption) ?_
                    simp only [Act.put, List.setIfInBounds_toArray, List.set_cons_zero, List.set_cons_succ]
                    refine anyH_take (i := 6) (v := .pointer (some ⟨cb, coff + j * 33, none⟩)) (some 86) rfl rfl (by kernel_rfl) (by kernel_rfl) (by kernel_rfl) (fun _ _ _ h => h) (Or.inl ⟨by rfl, fun w' hw => by (go_simp; try (intro h; omega))⟩) (by assumption) ?_
                    simp only [Act.put, List.setIfInBounds_toArray, List.set_cons_zero, List.set_cons_succ]
                    refine anyH_take (i := 7) (some 87) rfl rfl (by kernel_rfl) (by kernel_rfl) (by kernel_rfl) (fun _ _ _ h => h) (yieldsIf_load_mid (by rfl) 73 (.tmp 86) rfl cb (coff + j * 33) rfl XL _ (fun w' h => h.2.2.1) Tryz.underlying73 rfl HXi.out) (by assumption) ?_
                    simp only [Act.put, List.setIfInBounds_toArray, List.set_cons_zero, List.set_cons_succ]
                    refine anyH_take (i := 8) (v := .slice (some ⟨b', off', none⟩) n d) (some 88) rfl rfl (by kernel_rfl) (by kernel_rfl) (by kernel_rfl) (fun _ _ _ h => h) (Or.inl ⟨by rfl, fun w' hw => by rfl⟩) (by assumption) ?_
                    simp only [Act.put, List.setIfInBounds_toArray, List.set_cons_zero, List.set_cons_succ]
                    refine anyH_take (i := 9) (v := .int .i64 (k : Nat)) (some 89) rfl rfl (by kernel_rfl) (by kernel_rfl) (by kernel_rfl) (fun _ _ _ h => h) (Or.inl ⟨by rfl, fun w' hw => by rfl⟩) (by assumption) ?_
                    simp only [Act.put, List.setIfInBounds_toArray, List.set_cons_zero, List.set_cons_succ]
                    refine anyH_take (i := 10) (v := .pointer (some ⟨b', off' + k * 4, none⟩)) (some 90) rfl rfl (by kernel_rfl) (by kernel_rfl) (by kernel_rfl) (fun _ _ _ h => h) (Or.inl ⟨by rfl, fun w' hw => by (go_simp; try (intro h; omega))⟩) (by assumption) ?_
                    simp only [Act.put, List.setIfInBounds_toArray, List.set_cons_zero, List.set_cons_succ]
                    refine anyH_take (i := 11) (v := .pointer (some ⟨b', off' + k * 4 + 3, none⟩)) (some 91) rfl rfl (by kernel_rfl) (by kernel_rfl) (by kernel_rfl) (fun _ _ _ h => h) (Or.inl ⟨by rfl, fun w' hw => by (go_simp)⟩) (by assumption) ?_
                    simp only [Act.put, List.setIfInBounds_toArray, List.set_cons_zero, List.set_cons_succ]
                    refine anyH_take (i := 12) (v := .slice (some ⟨db, doff, none⟩) lx cy) (some 92) rfl rfl (by kernel_rfl) (by kernel_rfl) (by kernel_rfl) (fun _ _ _ h => h) (Or.inl ⟨by rfl, fun w' hw => by (have hcc := hw.2.1; go_simp)⟩) (by assumption) ?_
                    simp only [Act.put, List.setIfInBounds_toArray, List.set_cons_zero, List.set_cons_succ]
                    refine anyH_take (i := 13) (v := .int .i64 (j : Nat)) (some 93) rfl rfl (by kernel_rfl) (by kernel_rfl) (by kernel_rfl) (fun _ _ _ h => h) (Or.inl ⟨by rfl, fun w' hw => by rfl⟩) (by assumption) ?_
                    simp only [Act.put, List.setIfInBounds_toArray, List.set_cons_zero, List.set_cons_succ]
                    refine anyH_take (i := 14) (v := .pointer (some ⟨db, doff + j * 33, none⟩)) (some 94) rfl rfl (by kernel_rfl) (by kernel_rfl) (by kernel_rfl) (fun _ _ _ h => h) (Or.inl ⟨by rfl, fun w' hw => by (go_simp; try (intro h; omega))⟩) (by assumption) ?_
                    simp only [Act.put, List.setIfInBounds_toArray, List.set_cons_zero, List.set_cons_succ]
                    refine anyH_take (i := 15) (some 95) rfl rfl (by kernel_rfl) (by kernel_rfl) (by kernel_rfl) (fun _ _ _ h => h) (yieldsIf_load_mid (by rfl) 73 (.tmp 94) rfl db (doff + j * 33) rfl YL _ (fun w' h => h.2.2.2) Tryz.underlying73 rfl HYi.out) (by assumption) ?_
                    simp only [Act.put, List.setIfInBounds_toArray, List.set_cons_zero, List.set_cons_succ]
                    refine anyH_take (i := 16) (v := .bool (!r0)) (some 96) rfl rfl (by kernel_rfl) (by kernel_rfl) (by kernel_rfl) (fun _ _ _ h => h) (Or.inl ⟨by rfl, fun w' hw => by (have hc := Hcmp.out; have hg := gtCl; go_simp)⟩) (by assumption) ?_
                    simp only [Act.put, List.setIfInBounds_toArray, List.set_cons_zero, List.set_cons_succ]
                    refine wpAnyH_done (by kernel_rfl) ?_ _
                    clear hHeld c3 d3 hrx hry
                    cases r0 with
                    | false =>
                      have Hne : Hid (r = false) := Hbad.out fun e => by
                        have h1 := Hcx.out
                        rw [e, Hcy.out] at h1
                        injection h1 with h1
                        have h2 := Hr0.out
                        rw [h1] at h2
                        simp at h2
                      go_wp2_with fail
                      go_ret
                      exact ⟨by rw [Hne.out]; rfl, HD3.out.drewN 1⟩
                    | true =>
                      have Hj2 : Hid (∀ t, t < j + 1 → x.v.cells[t]? = y.v.cells[t]?) := fun t ht => by
                        by_cases e : t = j
                        · subst e
                          rw [Hcx.out, Hcy.out]
                          congr 1
                          simpa using Hr0.out
                        · exact Hj.out t (by omega)
                      go_wp2_with fail
                      go_roundw
                      case rel => exact ⟨j + 1, by omega, by go_num, HD3.out.drewN 1, Hj2⟩
                      case measure => simp [Go.RowKit.intOf]; omega
                  · obtain rfl : j = lx := by omega
                    have hd2 : decide (j < j) = false := by simp
                    have Hk2 : Hid (∀ t, t < k + 1 → (xs.map (·.v))[t]? = (ys.map (·.v))[t]?) := fun t ht => by
                      by_cases e : t = k
                      · subst e
                        rw [Hxv.out, Hyv.out]
                        congr 1
                        have hcs : x.v.cells = y.v.cells := by
                          apply List.ext_getElem?
                          intro t
                          by_cases ht : t < j
                          · exact Hj.out t ht
                          · rw [List.getElem?_eq_none (by rw [Hlx.out]; omega), List.getElem?_eq_none (by rw [Hly.out]; omega)]
                        exact vol_ext (Hnx.out.trans (E1.out.trans Hny.out.symm)) (Hqx.out.trans (E2.out.trans Hqy.out.symm)) (Hfx.out.trans (E3.out.trans Hfy.out.symm)) hcs
                      · exact Hk.out t (by omega)
                    go_wp2_with fail
                    go_roundw
                    case rel => exact ⟨k + 1, by omega, by go_num, HD3.out, Hk2⟩
                    case measure => simp [Go.RowKit.intOf]; omega
              · have q4 : ((lx : Int) != (ly : Int)) = true := by simp; omega
                have q4' : ((lx : Int) == (ly : Int)) = false := by simp; omega
                have E4 : Hid (r = false) := Hbad.out fun e => e4 (by rw [← Hlx.out, ← Hly.out, e])
                clear e4
                go_quiet (fail)
                go_wp2_with fail
                go_ret
                exact ⟨by rw [E4.out]; rfl, HD.out.drewN _⟩
            · have q3 : (fx != fy) = true := by simpa using e3
              have q3' : (fx == fy) = false := by simpa using e3
              have E3 : Hid (r = false) := Hbad.out fun e => e3 (by rw [← Hfx.out, ← Hfy.out, e])
              clear e3
              go_quiet (fail)
              go_wp2_with fail
              go_ret
              exact ⟨by rw [E3.out]; rfl, HD.out.drewN _⟩
          · have q2 : ((qx : Int) != (qy : Int)) = true := by simp; omega
            have q2' : ((qx : Int) == (qy : Int)) = false := by simp; omega
            have E2 : Hid (r = false) := Hbad.out fun e => e2 (by rw [← Hqx.out, ← Hqy.out, e])
            clear e2
            go_quiet (fail)
            go_wp2_with fail
            go_ret
            exact ⟨by rw [E2.out]; rfl, HD.out.drewN _⟩
        · have q1 := ba_ne e1
          have E1 : Hid (r = false) := Hbad.out fun e => e1 (by rw [← Hnx.out, ← Hny.out, e])
          clear e1
          go_quiet (fail)
          go_wp2_with fail
          go_ret
          exact ⟨by rw [E1.out]; rfl, HD.out.drewN _⟩
      · obtain rfl : k = n := by omega
        have hd1 : decide (k < k) = false := by simp
        have Hyes : Hid (r = true) := Hr.out.2 (List.ext_getElem? fun t => by
          by_cases ht : t < k
          · exact Hk.out t ht
          · rw [List.getElem?_eq_none (by rw [List.length_map, Hn.out]; omega), List.getElem?_eq_none (by rw [List.length_map, Hm.out]; omega)])
        clear Hhr Hgr
        go_wp2_with fail
        go_ret
        exact ⟨by rw [Hyes.out]; rfl, HD.out⟩
  · have hq0 : ((n : Int) != (m : Int)) = true := by simp; omega
    have hq1 : ((n : Int) == (m : Int)) = false := by simp; omega
    have Hno : Hid (r = false) := by
      cases r with
      | false => rfl
      | true =>
        exfalso
        have := congrArg List.length (hr.1 rfl)
        rw [List.length_map, List.length_map] at this
        omega
    clear hn hm hr h g
    go_enter Tryz.func10, Tryz.ntmps10
    go_wp2_with fail
    go_ret
    exact ⟨by rw [Hno.out]; rfl, Drawn.refl w⟩

end Go.Proofs.YtcajhndhjlfmaaaGreat

/-
  All images of a model.
-/
import Derived.Test.YtcajhndhjlfmaaaModCells
namespace Go.Proofs.Ytcajhndhjlfmaaa
open Go.RowKit
set_option linter.unusedVariables false
set_option linter.unusedSimpArgs false

set_option maxHeartbeats 8000000 in
set_option maxRecDepth 100000 in
theorem images_anyM (s mb : Nat) (w : World) (F : Nat → Prop) (M : List Vm) (h : MdQ w F s mb M) (hM : M.length ≤ 100000) : Calls Try.prog 19 #[.pointer (some ⟨s, 0, none⟩)] w fun e w' =>
    ∃ v xs, e = .returned v ∧ VRow w' w.heap.size (fun b => w.heap.size ≤ b) v xs ∧ xs.map (·.v) = vs M ∧ Below w.heap.size w w' := by
  have hslt := h.Flt s h.Fs
  obtain ⟨n, hn⟩ : ∃ n, M.length = n := ⟨_, rfl⟩
  have hnb : n ≤ 100000 := by omega
  have Hh := Lib.hid h
  have Hn := Lib.hid hn
  have HM := Lib.hid hM
  clear h hn hM
  go_enter Try.func19, Try.ntmps19
  go_wp2_with fail
  refine Calls.mono (mnames_any s mb w F M Hh.out HM.out) ?_
  rintro e w3 ⟨v, rfl, hrow3, hb13⟩
  obtain ⟨A, c, rfl, hnc⟩ := row_formV hrow3 Hn.out
  have hV3 : VRow w3 w.heap.size (fun b => w.heap.size ≤ b) (.slice none 0 0) [] := ⟨by simp, rfl, .inl ⟨rfl, rfl⟩⟩
  rw [Hn.out] at hrow3
  have Hrow3 := Lib.hid hrow3
  clear hrow3
  go_wp2_with fail
  go_loopw [3, 10] (fun t i wr => ∃ k : Nat, k ≤ n ∧ i = .int .i64 k ∧ (∃ xs, VRow wr w.heap.size (fun b => w.heap.size ≤ b) t xs ∧ Hid (xs.map (·.v) = (vs M).take k)) ∧ wr.ownsRow (w.heap.size + 1) 9 1 (.slice A n c) n (M.map fun m => .string m.v.name) ∧ Below w.heap.size w wr) (fun _ i _ => n - (Go.RowKit.intOf i).toNat)
  case atStart => exact ⟨0, Nat.zero_le _, rfl, ⟨[], hV3, by rw [List.take_zero]; rfl⟩, Hrow3.out, hb13⟩
  case round =>
    clear hV3 hb13
    obtain ⟨k, hk, rfl, ⟨xs, hV, Hxs⟩, hrow, hbr⟩ := hrel
    by_cases hlt : k < n
    · have hd1 : decide ((k : Int) < (n : Int)) = true := by simp; omega
      obtain ⟨m, hm⟩ : ∃ m, M[k]? = some m := ⟨M[k]'(by rw [Hn.out]; exact hlt), List.getElem?_eq_getElem _⟩
      obtain ⟨g, rfl, hglt, hcell⟩ := row_cellV hrow hlt (x := .string m.v.name) (by rw [List.getElem?_map, hm]; rfl)
      have hQr : MdQ wr F s mb M := Hh.out.below hbr
      have hmm := List.mem_of_getElem? hm
      have hvr := hQr.vm m hmm
      have hcr := md_cell hQr
      have hnm20 := namedB_size hvr.ok.nm
      obtain ⟨VL, hVL⟩ : ∃ VL : List Value, VL = [.int .i64 (m.v.quota : Nat), .bool m.v.frozen, .map (some m.bb)] := ⟨_, rfl⟩
      have hlook : (Instr.lookup 98 (.map (some mb)) (.string m.v.name) false).run Try.prog wr = .ok (.agg VL.toArray) wr := by
        have := hQr.look (nm := m.v.name) (by unfold maxLen; omega)
        rw [findM_of hQr.rs hmm rfl] at this
        rw [hVL]
        exact this
      have HVi := Lib.hid (show (Try.prog.info? 114).map (·.size) = some VL.toArray.size ∧ (#[.int .i64 0, .bool false, .map none] : Array Value).size = VL.toArray.size from ⟨by rw [hVL]; exact imgSize, by rw [hVL]; rfl⟩)
      have HVn := Lib.hid (show (Try.prog.info? 114).map (·.size) = some VL.length by rw [hVL]; exact imgSize)
      have HV1 := Lib.hid (show VL.toArray.all (·.oneCell') = true by rw [hVL]; simp [Value.oneCell'])
      have HVL := Lib.hid hVL
      have Hok := Lib.hid hvr.ok
      have hxl : xs.length = k := by
        have := congrArg List.length Hxs.out
        rw [List.length_map, List.length_take, vs_length, Hn.out] at this
        omega
      have Hxl := Lib.hid hxl
      have Hts := Lib.hid (show (vs M).take (k + 1) = (vs M).take k ++ [m.v] from by
        have hk' : (vs M)[k]? = some m.v := by unfold vs; rw [List.getElem?_map, hm]; rfl
        obtain ⟨hl, he⟩ := List.getElem?_eq_some_iff.1 hk'
        rw [List.take_succ_eq_append_getElem hl, he])
      obtain ⟨nm, hnm⟩ : ∃ x, m.v.name = x := ⟨_, rfl⟩
      rw [hnm] at hlook hcell
      have Hnm := Lib.hid hnm
      have Himr := Lib.hid hvr
      have hne := rows_apart hV.2 hrow (by decide)
      have hlt3 := hV.lt
      have hbrs := hbr.size
      obtain ⟨gv, hgv⟩ : ∃ z, z = wr.heap.size := ⟨_, rfl⟩
      have Hgv := Lib.hid hgv
      clear hm hQr hmm hvr hxl hnm hVL hgv
      go_upto_region 6 with (change wpList _ _ _ _ _ (wr.alloc (.cells (#[.int .i64 0, .bool false, .map none] : Array Value) 114)); refine wpList_store_row rfl _ _ _ rfl wr.heap.size VL.toArray rfl rfl 114 (#[.int .i64 0, .bool false, .map none] : Array Value) (heap_alloc_new wr _) HVi.out.1 HVi.out.2 HV1.out ?_; obtain ⟨w4, hw4⟩ : ∃ x, x = (wr.alloc (.cells (#[.int .i64 0, .bool false, .map none] : Array Value) 114)).setRow wr.heap.size VL.toArray := ⟨_, rfl⟩; rw [← hw4]; obtain ⟨hP4, hb4⟩ := alloc_row wr 114 (#[.int .i64 0, .bool false, .map none] : Array Value) VL; rw [← hw4] at hP4 hb4; clear hw4)
      rw [← Hgv.out] at hP4 ⊢
      clear hcr hlook hcell
      have hb4w : Below w.heap.size w w4 := hbr.trans (hb4.mono hbrs)
      have HV := Lib.hid (hV.up hb4)
      have Hrow := Lib.hid (show w4.ownsRow (w.heap.size + 1) 9 1 (.slice (some ⟨g, 0, none⟩) n c) n (M.map fun m => .string m.v.name) by
        refine ⟨hrow.1, ?_⟩
        rcases hrow.2 with h0 | ⟨g', cap, cur, e, e1, e2, e3⟩
        · exact .inl h0
        · exact .inr ⟨g', cap, cur, e, e1, (hb4.block g' (Array.getElem?_eq_some_iff.1 e2).1).trans e2, e3⟩)
      have Him4 := Lib.hid (Himr.out.kept (hb4.block _ (World.ownsMap.lt Himr.out.hc)))
      have Hbr := Lib.hid hb4w
      have hb4s := hb4w.size
      have Hcl := Lib.hid (fun j => numbered_any m (w4.drewN j) (Him4.out.kept rfl) VL HVL.out)
      have hvlt : gv < w4.heap.size := hP4.lt
      have Hv := Lib.hid hP4
      have hlt3' : ∀ b, u3.ownBlock = some b → w.heap.size ≤ b ∧ b < gv := fun b hb => ⟨(hlt3 b hb).1, by rw [Hgv.out]; exact (hlt3 b hb).2⟩
      clear hV hrow hbr hb4 hP4 hb4w Himr
      have hq0 : VL[0]? = some (.int .i64 (m.v.quota : Nat)) := by rw [HVL.out]; rfl
      have hq1 : VL[1]? = some (.bool m.v.frozen) := by rw [HVL.out]; rfl
      obtain ⟨q, hq⟩ : ∃ x, m.v.quota = x := ⟨_, rfl⟩
      obtain ⟨fr, hfr⟩ : ∃ x, m.v.frozen = x := ⟨_, rfl⟩
      rw [hq] at hq0
      rw [hfr] at hq1
      have Hqe := Lib.hid hq
      have Hfr := Lib.hid hfr
      clear hq hfr
      refine wp_region_held_drew (S := fun w' => Arr w' gv 114 VL) (by kernel_rfl) Hv.out (fun hHeld => ?_)
      refine anyH_take (i := 0) (v := u3) (some 20) rfl rfl (by kernel_rfl) (by kernel_rfl) (by kernel_rfl) (fun _ _ _ h => h) (Or.inl ⟨by rfl, fun w' hw => by rfl⟩) (by assumption) ?_
      simp only [Act.put, List.setIfInBounds_toArray, List.set_cons_zero, List.set_cons_succ]
      refine anyH_take (i := 1) (v := .string nm) (some 21) rfl rfl (by kernel_rfl) (by kernel_rfl) (by kernel_rfl) (fun _ _ _ h => h) (Or.inl ⟨by rfl, fun w' hw => by rfl⟩) (by assumption) ?_
      simp only [Act.put, List.setIfInBounds_toArray, List.set_cons_zero, List.set_cons_succ]
      refine anyH_take (i := 2) (v := .pointer (some ⟨gv, 0, none⟩)) (some 22) rfl rfl (by kernel_rfl) (by kernel_rfl) (by kernel_rfl) (fun _ _ _ h => h) (Or.inl ⟨by rfl, fun w' hw => by (go_simp)⟩) (by assumption) ?_
      simp only [Act.put, List.setIfInBounds_toArray, List.set_cons_zero, List.set_cons_succ]
      refine anyH_take (i := 3) (v := .int .i64 (q : Nat)) (some 23) rfl rfl (by kernel_rfl) (by kernel_rfl) (by kernel_rfl) (fun _ _ _ h => h) (Or.inl ⟨by rfl, fun w' hw => by (have hcc : w'.cell? ⟨gv, 0, none⟩ = _ := (hw.cell 0).trans hq0; go_simp)⟩) (by assumption) ?_
      simp only [Act.put, List.setIfInBounds_toArray, List.set_cons_zero, List.set_cons_succ]
      refine anyH_take (i := 4) (v := .pointer (some ⟨gv, 1, none⟩)) (some 24) rfl rfl (by kernel_rfl) (by kernel_rfl) (by kernel_rfl) (fun _ _ _ h => h) (Or.inl ⟨by rfl, fun w' hw => by (go_simp)⟩) (by assumption) ?_
      simp only [Act.put, List.setIfInBounds_toArray, List.set_cons_zero, List.set_cons_succ]
      refine anyH_take (i := 5) (v := .bool fr) (some 25) rfl rfl (by kernel_rfl) (by kernel_rfl) (by kernel_rfl) (fun _ _ _ h => h) (Or.inl ⟨by rfl, fun w' hw => by (have hcc : w'.cell? ⟨gv, 1, none⟩ = _ := (hw.cell 1).trans hq1; go_simp)⟩) (by assumption) ?_
      simp only [Act.put, List.setIfInBounds_toArray, List.set_cons_zero, List.set_cons_succ]
      refine anyH_take (i := 6) (some 26) rfl rfl (by kernel_rfl) (by kernel_rfl) (by kernel_rfl) (fun _ _ _ h => h) (yieldsIf_load_mid (by rfl) 114 (.tmp 6) rfl gv 0 rfl VL _ (fun w' h => (h).range) Try.underlying114 rfl HVn.out) (by assumption) ?_
      simp only [Act.put, List.setIfInBounds_toArray, List.set_cons_zero, List.set_cons_succ]
      refine wpAnyH_ready (rs := [7]) (by kernel_rfl) (by simp) ?_
      refine AllReadyH.cons rfl (fun K hK => ?_) AllReadyH.nil
      go_simp
      go_at_call 56
      refine Calls.mono (Hcl.out _) ?_
      rintro e w5 ⟨v5, rfl, hC5, hb5⟩
      have hb5 : Below w4.heap.size w4 w5 := (Below.dN (Below.refl _ w4) 1).trans hb5
      have hC5 : CRow w5 w4.heap.size v5 m.v.cells := hC5
      obtain ⟨A5, c5, rfl, h5c, h5m, h5at⟩ := hC5.slice
      obtain ⟨n5, hn5⟩ : ∃ x, m.v.cells.length = x := ⟨_, rfl⟩
      rw [hn5] at h5c ⊢
      have Hn5 := Lib.hid hn5
      clear hn5 hC5
      go_wp2_with fail
      refine hK.out _ _ ((Hv.out).below hb5 hvlt) (fun hHeldx => ?_)
      clear hK K
      try simp only [Act.put, List.setIfInBounds_toArray, List.set_cons_zero, List.set_cons_succ]
      refine anyH_take (i := 8) (v := .agg #[.string nm, .int .i64 (q : Nat), .bool fr, .slice A5 n5 c5]) (some 28) rfl rfl (by kernel_rfl) (by kernel_rfl) (by kernel_rfl) (fun _ _ _ h => h) (Or.inl ⟨by rfl, fun w' hw => by (have hb := vl_built nm (q : Nat) fr A5 n5 c5; go_simp)⟩) (by assumption) ?_
      simp only [Act.put, List.setIfInBounds_toArray, List.set_cons_zero, List.set_cons_succ]
      obtain ⟨IL, hIL⟩ : ∃ IL, IL = [Value.string nm, .int .i64 (q : Nat), .bool fr, .slice A5 n5 c5] := ⟨_, rfl⟩
      have hIl : IL.length = 4 := by rw [hIL]; rfl
      have hIa : (Value.agg #[.string nm, .int .i64 (q : Nat), .bool fr, .slice A5 n5 c5]) = .agg IL.toArray := by rw [hIL]
      refine wpAnyH_ready (rs := [9]) (by kernel_rfl) (by simp) ?_
      refine AllReadyH.cons rfl (fun K hK => ?_) AllReadyH.nil
      rw [if_pos (by rfl)]
      refine wp_build_vl (some 29) rfl _ rfl IL hIl hIa ?_
      simp only [Act.put, List.setIfInBounds_toArray, List.set_cons_zero, List.set_cons_succ]
      have hb6 : Below w4.heap.size w4 (w5.alloc (.cells IL.toArray 106)) := hb5.alloc hb5.size _
      refine hK.out _ _ ((Hv.out).below hb6 hvlt) (fun hHeldy => ?_)
      clear hK K
      try simp only [Act.put, List.setIfInBounds_toArray, List.set_cons_zero, List.set_cons_succ]
      have hA6 := Arr.new w5 106 IL
      have hV6 := HV.out.up hb6
      have hat6 : CsAt (w5.alloc (.cells IL.toArray 106)) (fun b => w.heap.size ≤ b ∧ u3.ownBlock ≠ some b) A5 m.v.cells := h5at.keep (by simp) (fun b _ hlt => Below.heap_alloc _ _ _ hlt) fun b _ hb => ⟨Nat.le_trans hb4s hb, fun e => by have := (hlt3' b e).2; omega⟩
      have hrow6 : (w5.alloc (.cells IL.toArray 106)).ownsRow (w.heap.size + 1) 9 1 (.slice (some ⟨g, 0, none⟩) n c) n (M.map fun m => .string m.v.name) := by
        refine ⟨Hrow.out.1, ?_⟩
        rcases Hrow.out.2 with h0 | ⟨g', cap, cur, e, e1, e2, e3⟩
        · exact .inl h0
        · exact .inr ⟨g', cap, cur, e, e1, (hb6.block g' (Array.getElem?_eq_some_iff.1 e2).1).trans e2, e3⟩
      have hb6w : Below w.heap.size w (w5.alloc (.cells IL.toArray 106)) := Hbr.out.trans (hb6.mono hb4s)
      obtain ⟨w6, hw6⟩ : ∃ x, x = w5.alloc (.cells IL.toArray 106) := ⟨_, rfl⟩
      rw [← hw6] at hb6 hA6 hV6 hat6 hrow6 hb6w ⊢
      clear hw6
      refine wpAnyH_ready (rs := [10]) (by kernel_rfl) (by simp) ?_
      refine AllReadyH.cons rfl (fun K hK => ?_) AllReadyH.nil
      rw [if_pos (by rfl)]
      refine wp_append_vl (some 30) rfl _ _ rfl hV6 hb6w.size rfl ⟨w5.heap.size, 0, none⟩ 1 1 rfl [⟨m.v, A5, c5⟩] rfl ?_ (one_vl (by rw [hIL]; unfold volC; rw [Hnm.out, Hqe.out, Hfr.out, Hn5.out]) hA6) (by rw [Hxl.out]; omega) ?_
      · intro x hx
        rw [List.mem_singleton] at hx
        subst hx
        exact ⟨by show m.v.cells.length ≤ c5; rw [Hn5.out]; exact h5c, h5m, hat6, by have := namedB_size Hok.out.nm; unfold maxLen; show m.v.name.size ≤ _; omega, Hok.out.q, Nat.le_trans Hok.out.le Hok.out.q⟩
      intro v7 w7 hV7 hg7
      simp only [Act.put, List.setIfInBounds_toArray, List.set_cons_zero, List.set_cons_succ]
      have hv7 : Arr w7 gv 114 VL := (hg7.block gv (by have := hb6.size; omega) (fun e => by
        have := (hlt3' gv e.symm).2
        omega)).trans ((Hv.out).below hb6 hvlt)
      refine hK.out _ _ hv7 (fun hHeldz => ?_)
      clear hK K
      try simp only [Act.put, List.setIfInBounds_toArray, List.set_cons_zero, List.set_cons_succ]
      have hrow7 := World.ownsRow.kept hrow6 hg7 (by
        rcases hob : u3.ownBlock with _ | g'
        · exact .inr (by simp [Value.ownBlock])
        · exact .inr fun e => hne g' hob e)
      have hb7 : Below w.heap.size w w7 := hb6w.grown hg7 hb6w.size fun g' hg => (hlt3' g' hg).1
      have hm7 := Lib.hid (show (xs ++ [(⟨m.v, A5, c5⟩ : Vx)]).map (·.v) = (vs M).take (k + 1) by rw [List.map_append, Hxs.out, Hts.out]; rfl)
      clear hg7 hrow6 hV6 hb6w hb6 hA6 hat6 h5at hb5 hIL hIl hIa hHeld hHeldx hHeldy hHeldz hne hlt3 hlt3'
      refine anyH_take (i := 11) (v := v7) (some 3) rfl rfl (by kernel_rfl) (by kernel_rfl) (by kernel_rfl) (fun _ _ _ h => h) (Or.inl ⟨by rfl, fun w' hw => by rfl⟩) (by assumption) ?_
      simp only [Act.put, List.setIfInBounds_toArray, List.set_cons_zero, List.set_cons_succ]
      refine wpAnyH_done (by kernel_rfl) ?_ _
      go_wp2_with fail
      go_roundw
      case rel => exact ⟨k + 1, by omega, by go_num, ⟨_, hV7, hm7⟩, hrow7, hb7⟩
      case measure => simp [Go.RowKit.intOf]; omega
    · obtain rfl : k = n := by omega
      have hd1 : decide (k < k) = false := by simp
      have Hfin := Lib.hid (show xs.map (·.v) = vs M by rw [Hxs.out, List.take_of_length_le (by rw [vs_length, Hn.out]; exact Nat.le_refl _)])
      have HV := Lib.hid hV
      clear hV hrow
      go_wp2_with fail
      go_ret
      exact ⟨_, xs, rfl, HV.out, Hfin.out, hbr⟩

/-- All images: a new row. -/
theorem images_any (s : Nat) (w : World) (F : Nat → Prop) (L : List Vol) (h : MdL w F s L) (hL : L.length ≤ 100000) : Calls Try.prog 19 #[.pointer (some ⟨s, 0, none⟩)] w fun e w' =>
    ∃ A c xs, e = .returned (.slice A xs.length c) ∧ xs.length ≤ c ∧ c ≤ maxLen ∧ VsAt w' (fun b => w.heap.size ≤ b) A xs ∧ xs.map (·.v) = L ∧ Below w.heap.size w w' := by
  obtain ⟨M, mb, hQ, rfl⟩ := h
  rw [vs_length] at hL
  refine (images_anyM s mb w F M hQ hL).mono ?_
  rintro e w' ⟨v, xs, rfl, hV, hx, hb⟩
  obtain ⟨A, c, rfl, h1, h2, h3⟩ := hV.slice
  exact ⟨A, c, xs, rfl, h1, h2, h3.keep (Nat.le_refl _) (fun _ _ _ => rfl) (fun b _ h => h.elim id id), hx, hb⟩

end Go.Proofs.Ytcajhndhjlfmaaa

/-
  All volumes of a set.
-/
import Derived.Test.YtcajhndhjlfmaaaVolCells
namespace Go.Proofs.Ytcajhndhjlfmaaa
open Go.RowKit
set_option linter.unusedVariables false
set_option linter.unusedSimpArgs false

set_option maxHeartbeats 4000000 in
set_option maxRecDepth 100000 in
theorem all_anyM (s mb : Nat) (w : World) (F : Nat → Prop) (M : List Vm) (h : SetQ w F s mb M) (hM : M.length ≤ 100000) : Calls Try.prog 9 #[.pointer (some ⟨s, 0, none⟩)] w fun e w' =>
    ∃ v xs, e = .returned v ∧ VRow w' w.heap.size (fun b => w.heap.size ≤ b) v xs ∧ xs.map (·.v) = vs M ∧ Below w.heap.size w w' := by
  obtain ⟨i0, hi, hz0, hz1, hz2⟩ := info_partsV vlAll
  have hslt := h.Flt s h.Fs
  have hc0 := h.hs.cell 0
  simp only [List.getElem?_cons_zero] at hc0
  have hlen := h.len 3
  obtain ⟨n, hn⟩ : ∃ n, M.length = n := ⟨_, rfl⟩
  rw [hn] at hlen
  have hnb : n ≤ 100000 := by omega
  obtain ⟨w1, hmk, hrow1, hg1⟩ := run_make_own (P := Try.prog) w w.heap.size 28 83 i0 _ 4 Try.underlying28 hi hz0 hz1 .i64 .i64 n (by rw [hz2]; omega) (by unfold maxLen; omega) (Nat.le_refl _)
  have hb1 : Below w.heap.size w w1 := (Below.refl _ w).grown hg1 (Nat.le_refl _) (by intro k hk; cases hk)
  have hQ1 : SetQ w1 F s mb M := h.kept (fun b hF => hb1.block b (h.Flt b hF)) (fun _ h => h) fun b hF => Nat.lt_of_lt_of_le (h.Flt b hF) hb1.size
  have hV1 : VRow w1 w.heap.size (fun b => w.heap.size ≤ b) (.slice (some ⟨w.heap.size, 0, none⟩) 0 n) [] := ⟨by simp, hrow1⟩
  have hd0 := hQ1.hs.cell 0
  simp only [List.getElem?_cons_zero] at hd0
  have Hh := Lib.hid h
  have Hn := Lib.hid hn
  have HM := Lib.hid hM
  have HQ1 := Lib.hid hQ1
  have HV1 := Lib.hid hV1
  have Hb1 := Lib.hid hb1
  have hz1' := hb1.size
  clear h hQ1 hn hi hz0 hz1 hz2 hrow1 hg1 hV1 hb1 hM
  go_enter Try.func9, Try.ntmps9
  go_upto_region 2 with fail
  clear hmk hlen hc0
  go_wp2_with fail
  refine Calls.mono (keysS_any mb w1) ?_
  rintro e w2 ⟨rfl, rfl⟩
  clear hd0
  go_wp2_with fail
  refine Calls.mono (sortedS_any s mb F M w1 HQ1.out HM.out) ?_
  rintro e w3 ⟨v, rfl, hrow3, hb3⟩
  obtain ⟨A, c, rfl, hnc⟩ := row_formV hrow3 Hn.out
  have hV3 : VRow w3 w.heap.size (fun b => w.heap.size ≤ b) (.slice (some ⟨w.heap.size, 0, none⟩) 0 n) [] := HV1.out.up hb3
  have hb13 : Below w.heap.size w w3 := Hb1.out.trans (hb3.mono Hb1.out.size)
  rw [Hn.out] at hrow3
  have Hrow3 := Lib.hid hrow3
  clear hrow3 hb3
  go_wp2_with fail
  go_loopw [3, 20] (fun t i wr => ∃ k : Nat, k ≤ n ∧ i = .int .i64 k ∧ (∃ xs, VRow wr w.heap.size (fun b => w.heap.size ≤ b) t xs ∧ Hid (xs.map (·.v) = (vs M).take k)) ∧ wr.ownsRow (w1.heap.size + 1) 9 1 (.slice A n c) n (M.map fun m => .string m.v.name) ∧ Below w.heap.size w wr) (fun _ i _ => n - (Go.RowKit.intOf i).toNat)
  case atStart => exact ⟨0, Nat.zero_le _, rfl, ⟨[], hV3, by rw [List.take_zero]; rfl⟩, Hrow3.out, hb13⟩
  case round =>
    clear hV3 hb13
    obtain ⟨k, hk, rfl, ⟨xs, hV, Hxs⟩, hrow, hbr⟩ := hrel
    by_cases hlt : k < n
    · have hd1 : decide ((k : Int) < (n : Int)) = true := by simp; omega
      obtain ⟨m, hm⟩ : ∃ m, M[k]? = some m := ⟨M[k]'(by rw [Hn.out]; exact hlt), List.getElem?_eq_getElem _⟩
      obtain ⟨g, rfl, hglt, hcell⟩ := row_cellV hrow hlt (x := .string m.v.name) (by rw [List.getElem?_map, hm]; rfl)
      have hQr : SetQ wr F s mb M := Hh.out.kept (fun b hF => hbr.block b (Hh.out.Flt b hF)) (fun _ h => h) fun b hF => Nat.lt_of_lt_of_le (Hh.out.Flt b hF) hbr.size
      have hmm := List.mem_of_getElem? hm
      have hvr := hQr.vm m hmm
      have hcr := hQr.hs.cell 0
      simp only [List.getElem?_cons_zero] at hcr
      have hnm20 := namedB_size hvr.ok.nm
      have hlook := hQr.look_yes (nm := m.v.name) (by unfold maxLen; omega) (findM_of hQr.rs hmm rfl)
      have Hcl := Lib.hid (fun j => cells_any m (wr.drewN j) (hvr.kept rfl rfl))
      have Hv := Lib.hid hvr.hv
      have Hok := Lib.hid hvr.ok
      have hxl : xs.length = k := by
        have := congrArg List.length Hxs.out
        rw [List.length_map, List.length_take, vs_length, Hn.out] at this
        omega
      have Hxl := Lib.hid hxl
      have Hts := Lib.hid (show (vs M).take (k + 1) = (vs M).take k ++ [m.v] from by
        have hk' : (vs M)[k]? = some m.v := by unfold vs; rw [List.getElem?_map, hm]; rfl
        obtain ⟨hl, he⟩ := List.getElem?_eq_some_iff.1 hk'
        rw [List.take_succ_eq_append_getElem hl, he])
      have hvlt : m.vb < wr.heap.size := hvr.hv.lt
      obtain ⟨vb, hvb⟩ : ∃ x, m.vb = x := ⟨_, rfl⟩
      obtain ⟨nm, hnm⟩ : ∃ x, m.v.name = x := ⟨_, rfl⟩
      obtain ⟨q, hq⟩ : ∃ x, m.v.quota = x := ⟨_, rfl⟩
      obtain ⟨fr, hfr⟩ : ∃ x, m.v.frozen = x := ⟨_, rfl⟩
      rw [hvb] at hlook hvlt Hv Hcl
      rw [hnm] at hlook hcell
      rw [hq, hfr] at Hv
      have Hnm := Lib.hid hnm
      have Hqe := Lib.hid hq
      have Hfr := Lib.hid hfr
      have HV := Lib.hid hV
      have Hrow := Lib.hid hrow
      have hne := rows_apart hV.2 hrow (by decide)
      have hlt3 := hV.lt
      have Hbr := Lib.hid hbr
      have hbrs := hbr.size
      clear hV hrow hm hQr hmm hvr hxl hvb hnm hq hfr hbr
      go_upto_region 6 with fail
      clear hcr hlook hcell
      refine wp_region_held_drew (S := fun w' => Arr w' vb 93 [.int .i64 (q : Nat), .bool fr, .map (some m.bb)]) (by kernel_rfl) Hv.out (fun hHeld => ?_)
      refine anyH_take (i := 0) (v := u3) (some 30) rfl rfl (by kernel_rfl) (by kernel_rfl) (by kernel_rfl) (fun _ _ _ h => h) (Or.inl ⟨by rfl, fun w' hw => by rfl⟩) (by assumption) ?_
      simp only [Act.put, List.setIfInBounds_toArray, List.set_cons_zero, List.set_cons_succ]
      refine anyH_take (i := 1) (v := .string nm) (some 31) rfl rfl (by kernel_rfl) (by kernel_rfl) (by kernel_rfl) (fun _ _ _ h => h) (Or.inl ⟨by rfl, fun w' hw => by rfl⟩) (by assumption) ?_
      simp only [Act.put, List.setIfInBounds_toArray, List.set_cons_zero, List.set_cons_succ]
      refine anyH_take (i := 2) (v := .pointer (some ⟨vb, 0, none⟩)) (some 32) rfl rfl (by kernel_rfl) (by kernel_rfl) (by kernel_rfl) (fun _ _ _ h => h) (Or.inl ⟨by rfl, fun w' hw => by rfl⟩) (by assumption) ?_
      simp only [Act.put, List.setIfInBounds_toArray, List.set_cons_zero, List.set_cons_succ]
      refine anyH_take (i := 3) (v := .pointer (some ⟨vb, 0, none⟩)) (some 33) rfl rfl (by kernel_rfl) (by kernel_rfl) (by kernel_rfl) (fun _ _ _ h => h) (Or.inl ⟨by rfl, fun w' hw => by (go_simp)⟩) (by assumption) ?_
      simp only [Act.put, List.setIfInBounds_toArray, List.set_cons_zero, List.set_cons_succ]
      refine anyH_take (i := 4) (v := .pointer (some ⟨vb, 0, none⟩)) (some 34) rfl rfl (by kernel_rfl) (by kernel_rfl) (by kernel_rfl) (fun _ _ _ h => h) (Or.inl ⟨by rfl, fun w' hw => by (go_simp)⟩) (by assumption) ?_
      simp only [Act.put, List.setIfInBounds_toArray, List.set_cons_zero, List.set_cons_succ]
      refine anyH_take (i := 5) (v := .int .i64 (q : Nat)) (some 35) rfl rfl (by kernel_rfl) (by kernel_rfl) (by kernel_rfl) (fun _ _ _ h => h) (Or.inl ⟨by rfl, fun w' hw => by (have hcc := hw.cell 0; simp only [List.getElem?_cons_zero] at hcc; go_simp)⟩) (by assumption) ?_
      simp only [Act.put, List.setIfInBounds_toArray, List.set_cons_zero, List.set_cons_succ]
      refine anyH_take (i := 6) (v := .pointer (some ⟨vb, 0, none⟩)) (some 36) rfl rfl (by kernel_rfl) (by kernel_rfl) (by kernel_rfl) (fun _ _ _ h => h) (Or.inl ⟨by rfl, fun w' hw => by rfl⟩) (by assumption) ?_
      simp only [Act.put, List.setIfInBounds_toArray, List.set_cons_zero, List.set_cons_succ]
      refine anyH_take (i := 7) (v := .pointer (some ⟨vb, 0, none⟩)) (some 37) rfl rfl (by kernel_rfl) (by kernel_rfl) (by kernel_rfl) (fun _ _ _ h => h) (Or.inl ⟨by rfl, fun w' hw => by (go_simp)⟩) (by assumption) ?_
      simp only [Act.put, List.setIfInBounds_toArray, List.set_cons_zero, List.set_cons_succ]
      refine anyH_take (i := 8) (v := .pointer (some ⟨vb, 1, none⟩)) (some 38) rfl rfl (by kernel_rfl) (by kernel_rfl) (by kernel_rfl) (fun _ _ _ h => h) (Or.inl ⟨by rfl, fun w' hw => by (go_simp)⟩) (by assumption) ?_
      simp only [Act.put, List.setIfInBounds_toArray, List.set_cons_zero, List.set_cons_succ]
      refine anyH_take (i := 9) (v := .bool fr) (some 39) rfl rfl (by kernel_rfl) (by kernel_rfl) (by kernel_rfl) (fun _ _ _ h => h) (Or.inl ⟨by rfl, fun w' hw => by (have hcc := hw.cell 1; simp only [List.getElem?_cons_succ, List.getElem?_cons_zero] at hcc; go_simp)⟩) (by assumption) ?_
      simp only [Act.put, List.setIfInBounds_toArray, List.set_cons_zero, List.set_cons_succ]
      refine anyH_take (i := 10) (v := .pointer (some ⟨vb, 0, none⟩)) (some 40) rfl rfl (by kernel_rfl) (by kernel_rfl) (by kernel_rfl) (fun _ _ _ h => h) (Or.inl ⟨by rfl, fun w' hw => by rfl⟩) (by assumption) ?_
      simp only [Act.put, List.setIfInBounds_toArray, List.set_cons_zero, List.set_cons_succ]
      refine wpAnyH_ready (rs := [11]) (by kernel_rfl) (by simp) ?_
      refine AllReadyH.cons rfl (fun K hK => ?_) AllReadyH.nil
      go_simp
      go_at_call 42
      refine Calls.mono (Hcl.out _) ?_
      rintro e w5 ⟨v5, rfl, hC5, hb5⟩
      have hb5 : Below wr.heap.size wr w5 := (Below.dN (Below.refl _ wr) 1).trans hb5
      have hC5 : CRow w5 wr.heap.size v5 m.v.cells := hC5
      obtain ⟨A5, c5, rfl, h5c, h5m, h5at⟩ := hC5.slice
      obtain ⟨n5, hn5⟩ : ∃ x, m.v.cells.length = x := ⟨_, rfl⟩
      rw [hn5] at h5c ⊢
      have Hn5 := Lib.hid hn5
      clear hn5 hC5
      go_wp2_with fail
      refine hK.out _ _ ((Hv.out).below hb5 hvlt) (fun hHeldx => ?_)
      clear hK K
      try simp only [Act.put, List.setIfInBounds_toArray, List.set_cons_zero, List.set_cons_succ]
      refine anyH_take (i := 12) (v := .agg #[.string nm, .int .i64 (q : Nat), .bool fr, .slice A5 n5 c5]) (some 42) rfl rfl (by kernel_rfl) (by kernel_rfl) (by kernel_rfl) (fun _ _ _ h => h) (Or.inl ⟨by rfl, fun w' hw => by (have hb := vl_built nm (q : Nat) fr A5 n5 c5; go_simp)⟩) (by assumption) ?_
      simp only [Act.put, List.setIfInBounds_toArray, List.set_cons_zero, List.set_cons_succ]
      obtain ⟨VL, hVL⟩ : ∃ VL, VL = [Value.string nm, .int .i64 (q : Nat), .bool fr, .slice A5 n5 c5] := ⟨_, rfl⟩
      have hVl : VL.length = 4 := by rw [hVL]; rfl
      have hVa : (Value.agg #[.string nm, .int .i64 (q : Nat), .bool fr, .slice A5 n5 c5]) = .agg VL.toArray := by rw [hVL]
      refine wpAnyH_ready (rs := [13]) (by kernel_rfl) (by simp) ?_
      refine AllReadyH.cons rfl (fun K hK => ?_) AllReadyH.nil
      rw [if_pos (by rfl)]
      refine wp_build_vl (some 43) rfl _ rfl VL hVl hVa ?_
      simp only [Act.put, List.setIfInBounds_toArray, List.set_cons_zero, List.set_cons_succ]
      have hb6 : Below wr.heap.size wr (w5.alloc (.cells VL.toArray 83)) := hb5.alloc hb5.size _
      refine hK.out _ _ ((Hv.out).below hb6 hvlt) (fun hHeldy => ?_)
      clear hK K
      try simp only [Act.put, List.setIfInBounds_toArray, List.set_cons_zero, List.set_cons_succ]
      have hA6 := Arr.new w5 83 VL
      have hV6 := HV.out.up hb6
      have hat6 : CsAt (w5.alloc (.cells VL.toArray 83)) (fun b => w.heap.size ≤ b ∧ u3.ownBlock ≠ some b) A5 m.v.cells := h5at.keep (by simp) (fun b _ hlt => Below.heap_alloc _ _ _ hlt) fun b _ hb => ⟨Nat.le_trans hbrs hb, fun e => by have := (hlt3 b e).2; omega⟩
      have hrow6 : (w5.alloc (.cells VL.toArray 83)).ownsRow (w1.heap.size + 1) 9 1 (.slice (some ⟨g, 0, none⟩) n c) n (M.map fun m => .string m.v.name) := by
        refine ⟨Hrow.out.1, ?_⟩
        rcases Hrow.out.2 with h0 | ⟨g', cap, cur, e, e1, e2, e3⟩
        · exact .inl h0
        · exact .inr ⟨g', cap, cur, e, e1, (hb6.block g' (Array.getElem?_eq_some_iff.1 e2).1).trans e2, e3⟩
      have hb6w : Below w.heap.size w (w5.alloc (.cells VL.toArray 83)) := Hbr.out.trans (hb6.mono hbrs)
      obtain ⟨w6, hw6⟩ : ∃ x, x = w5.alloc (.cells VL.toArray 83) := ⟨_, rfl⟩
      rw [← hw6] at hb6 hA6 hV6 hat6 hrow6 hb6w ⊢
      clear hw6
      refine wpAnyH_ready (rs := [14]) (by kernel_rfl) (by simp) ?_
      refine AllReadyH.cons rfl (fun K hK => ?_) AllReadyH.nil
      rw [if_pos (by rfl)]
      refine wp_append_vl (some 44) rfl _ _ rfl hV6 hb6w.size rfl ⟨w5.heap.size, 0, none⟩ 1 1 rfl [⟨m.v, A5, c5⟩] rfl ?_ (one_vl (by rw [hVL]; unfold volC; rw [Hnm.out, Hqe.out, Hfr.out, Hn5.out]) hA6) (by rw [Hxl.out]; omega) ?_
      · intro x hx
        rw [List.mem_singleton] at hx
        subst hx
        exact ⟨by show m.v.cells.length ≤ c5; rw [Hn5.out]; exact h5c, h5m, hat6, by have := namedB_size Hok.out.nm; unfold maxLen; show m.v.name.size ≤ _; omega, Hok.out.q, Nat.le_trans Hok.out.le Hok.out.q⟩
      intro v7 w7 hV7 hg7
      simp only [Act.put, List.setIfInBounds_toArray, List.set_cons_zero, List.set_cons_succ]
      have hv7 : Arr w7 vb 93 [.int .i64 (q : Nat), .bool fr, .map (some m.bb)] := (hg7.block vb (by have := hb6.size; omega) (fun e => by
        rcases HV.out.2.2 with ⟨e2, _⟩ | ⟨g', cap, cur, e2, _, hg', _⟩
        · rw [e2] at e; cases e
        · rw [e2] at e
          simp only [Value.ownBlock, Option.some.injEq] at e
          rw [← e] at hg'
          have := hg'.symm.trans Hv.out
          simp only [Option.some.injEq, Obj.cells.injEq] at this
          exact absurd this.2.1 (by decide))).trans ((Hv.out).below hb6 hvlt)
      refine hK.out _ _ hv7 (fun hHeldz => ?_)
      clear hK K
      try simp only [Act.put, List.setIfInBounds_toArray, List.set_cons_zero, List.set_cons_succ]
      have hrow7 := World.ownsRow.kept hrow6 hg7 (by
        rcases hob : u3.ownBlock with _ | g'
        · exact .inr (by simp [Value.ownBlock])
        · exact .inr fun e => hne g' hob e)
      have hb7 : Below w.heap.size w w7 := hb6w.grown hg7 hb6w.size fun g' hg => (hlt3 g' hg).1
      have hm7 := Lib.hid (show (xs ++ [(⟨m.v, A5, c5⟩ : Vx)]).map (·.v) = (vs M).take (k + 1) by rw [List.map_append, Hxs.out, Hts.out]; rfl)
      clear hg7 hrow6 hV6 hb6w hb6 hA6 hat6 h5at hb5 hVL hVl hVa hHeld hHeldx hHeldy hHeldz hne hlt3
      refine anyH_take (i := 15) (v := v7) (some 3) rfl rfl (by kernel_rfl) (by kernel_rfl) (by kernel_rfl) (fun _ _ _ h => h) (Or.inl ⟨by rfl, fun w' hw => by rfl⟩) (by assumption) ?_
      simp only [Act.put, List.setIfInBounds_toArray, List.set_cons_zero, List.set_cons_succ]
      refine wpAnyH_done (by kernel_rfl) ?_ _
      go_wp2_with fail
      go_roundw
      case rel => exact ⟨k + 1, by omega, by go_num, ⟨_, hV7, hm7⟩, hrow7, hb7⟩
      case measure => simp [Go.RowKit.intOf]; omega
    · obtain rfl : k = n := by omega
      have hd1 : decide (k < k) = false := by simp
      have Hfin := Lib.hid (show xs.map (·.v) = vs M by rw [Hxs.out, List.take_of_length_le (by rw [vs_length, Hn.out]; exact Nat.le_refl _)])
      have HV := Lib.hid hV
      clear hV hrow
      go_wp2_with fail
      go_ret
      exact ⟨_, xs, rfl, HV.out, Hfin.out, hbr⟩

/-- All volumes: a new row. -/
theorem all_any (s : Nat) (w : World) (F : Nat → Prop) (L : List Vol) (h : SetL w F s L) (hL : L.length ≤ 100000) : Calls Try.prog 9 #[.pointer (some ⟨s, 0, none⟩)] w fun e w' =>
    ∃ A c xs, e = .returned (.slice A xs.length c) ∧ xs.length ≤ c ∧ c ≤ maxLen ∧ VsAt w' (fun b => w.heap.size ≤ b) A xs ∧ xs.map (·.v) = L ∧ Below w.heap.size w w' := by
  obtain ⟨M, ⟨mb, hQ⟩, rfl⟩ := h
  rw [vs_length] at hL
  refine (all_anyM s mb w F M hQ hL).mono ?_
  rintro e w' ⟨v, xs, rfl, hV, hx, hb⟩
  obtain ⟨A, c, rfl, h1, h2, h3⟩ := hV.slice
  exact ⟨A, c, xs, rfl, h1, h2, h3.keep (Nat.le_refl _) (fun _ _ _ => rfl) (fun b _ h => h.elim id id), hx, hb⟩

end Go.Proofs.Ytcajhndhjlfmaaa

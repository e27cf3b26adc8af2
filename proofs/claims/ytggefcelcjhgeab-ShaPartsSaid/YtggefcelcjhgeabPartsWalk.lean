/-
  ShaParts answers true, and writes nothing that was there.
-/
import Derived.Test.YtggefcelcjhgeabRowsArg
import Derived.Test.YtggefcelcjhgeabShaSpeaks
import Derived.Test.YtggefcelcjhgeabGen
namespace Go.Proofs.Ytggefcelcjhgeab
open Go.RowKit
set_option linter.unusedVariables false
set_option linter.unusedSimpArgs false

def catF (rs : List (List UInt8)) (k : Nat) : List UInt8 := (rs.take k).flatten
theorem sum_at (l : List UInt8) (SL : List Value) (A : Option Addr) (c n : Nat) (w : World) (hS : SL = Lib.byteCells (shaF l)) (hn : l.length = n) (hb : Bs w w.heap.size A l) (hc : n ≤ c) (hcm : c ≤ maxLen) (hm : n ≤ 140737488355000) :
    Calls Try.prog 10 #[.slice A n c] w fun e w' => e = .returned (.agg SL.toArray) ∧ Below w.heap.size w w' := by
  subst hS; exact sum_any l A c n w hn hb hc hcm hm

theorem catF_snoc (rs : List (List UInt8)) {k : Nat} (hk : k < rs.length) : catF rs (k + 1) = catF rs k ++ rs.getD k [] := by
  unfold catF
  rw [List.take_succ_eq_append_getElem hk, List.flatten_append]
  simp [List.getD, hk]

set_option maxHeartbeats 8000000 in
set_option maxRecDepth 100000 in
theorem parts_walk (A : Option Addr) (n c : Nat) (rs : List (List UInt8)) (hn : rs.length = n) (hc : n ≤ c) (hcm : c ≤ maxLen) (w : World) (hr : RowsAt w w.heap.size A rs) :
    Calls Try.prog 3 #[.slice A n c] w fun e w' => e = .returned (.bool true) ∧ Below w.heap.size w w' := by
  obtain ⟨i0, hi, hz0, hz1, hz2⟩ := info_parts byteInfo
  have Hn := Lib.hid hn
  clear hn
  have hcm' : n ≤ 9223372036854775807 := by unfold maxLen at hcm; omega
  go_enter Try.func3, Try.ntmps3
  go_wp2_with fail
  refine Calls.mono (shaSpeaks_true _) ?_
  rintro e w1 ⟨rfl, hb1⟩
  have hs1 := hb1.size
  by_cases h30 : 30 < n
  · go_wp2
    go_ret
    exact ⟨rfl, hb1⟩
  · have hd0 : decide (30 < (n : Int)) = false := by simp; omega
    have hown0 : Owns (w1.alloc (.cells #[] 5)) w1.heap.size 5 (.slice (some ⟨w1.heap.size, 0, none⟩) 0 0) (catF rs 0) :=
      Owns.of_row (l := []) (cur := []) (Nat.le_refl _) (Nat.le_refl _) (by unfold maxLen; omega) (heap_alloc_new w1 _) rfl rfl
    have hb2 : Below w1.heap.size w1 (w1.alloc (.cells #[] 5)) := (Below.refl _ w1).alloc (Nat.le_refl _) _
    go_wp2_with fail
    clear hd0
    go_loopw [3, 19] (fun v i wr => ∃ k : Nat, k ≤ n ∧ i = .int .i64 k ∧ Owns wr w1.heap.size 5 v (catF rs k) ∧ (catF rs k).length ≤ 200 * k ∧ Below w1.heap.size w1 wr) (fun _ i _ => n - (intOf i).toNat)
    case atStart => exact ⟨0, by omega, rfl, hown0, by simp [catF], hb2⟩
    case round =>
      clear hown0 hb2
      obtain ⟨k, hk, rfl, hown, hlen, hbel⟩ := hrel
      have hbz := hbel.size
      by_cases hlt : k < n
      · have hkr : k < rs.length := by rw [Hn.out]; exact hlt
        have hrr : RowsAt wr w.heap.size A rs := (hr.below hb1 (Nat.le_refl _)).below hbel (by omega)
        obtain ⟨blk, off, rfl, hblk, hrow⟩ := hrr (by omega)
        obtain ⟨A', c', hcell, hlc, hcm2, hbs⟩ := hrow k hkr
        have hsn := catF_snoc rs hkr
        obtain ⟨r, hre⟩ : ∃ r, rs.getD k [] = r := ⟨_, rfl⟩
        rw [hre] at hcell hlc hbs hsn
        obtain ⟨Y, hY⟩ : ∃ Y, catF rs k = Y := ⟨_, rfl⟩
        rw [hY] at hown hsn hlen
        have hki : (k : Int) < (n : Int) := by omega
        have hd1 : decide (k < n) = true := by simp; omega
        have Hsn := Lib.hid hsn
        have hlt1 := hown.lt
        obtain ⟨m, hm⟩ : ∃ m, r.length = m := ⟨_, rfl⟩
        rw [hm] at hcell hlc
        have Hm := Lib.hid hm
        have hm63 : m ≤ 9223372036854775807 := by unfold maxLen at hcm2; omega
        clear hsn hre hY hrow hm
        by_cases h200 : 200 < m
        · go_wp2
          go_ret
          exact ⟨rfl, hb1.trans (hbel.mono (by omega))⟩
        · have hd2 : decide (200 < (m : Int)) = false := by simp; omega
          go_wp2_with (at_builtin; (refine wpList_append_bs rfl _ _ 24 rfl w1.heap.size 5 i0 (.int .u8 0) Try.underlying24 hi hz0 hz1 hz2 rfl u3 Y rfl hown w.heap.size A' m c' r rfl Hm.out hbs (by omega) (by omega) ?_; intro v2 w2 hown2 hgr2))
          have hb5 : Below w1.heap.size w1 w2 := hbel.trans (hgr2.below (by omega) (fun j hj => (hlt1 j hj).1))
          go_roundw
          case rel => exact ⟨k + 1, by omega, by go_num, by rw [Hsn.out]; exact hown2, by rw [Hsn.out, List.length_append, Hm.out]; omega, hb5⟩
          case measure => simp [intOf]; omega
      · obtain rfl : k = n := by omega
        have hd1 : decide ((k : Int) < (k : Int)) = false := by simp
        obtain ⟨A1, c1, rfl, h1, h2, hbs⟩ := hown.slice
        have hB : Below w.heap.size w wr := hb1.trans (hbel.mono hs1)
        obtain ⟨Y, hY⟩ : ∃ Y, catF rs k = Y := ⟨_, rfl⟩
        rw [hY] at h1 hbs hlen
        obtain ⟨m, hm⟩ : ∃ m, Y.length = m := ⟨_, rfl⟩
        rw [hm] at h1 hlen
        rw [hY, hm]
        have hm6 : m ≤ 6000 := by omega
        obtain ⟨C, hC⟩ : ∃ C, 2 * m + 64 = C := ⟨_, rfl⟩
        have hCI : (2 : Int) * (m : Int) + 64 = (C : Int) := by omega
        have hmC : (m : Int) < (C : Int) := by omega
        have hmk : ∀ w', (Instr.makeSlice 24 (.int .i64 (m : Nat)) (.int .i64 (C : Nat))).run Try.prog w' = .ok (.slice (some ⟨w'.heap.size, 0, none⟩) m C) (w'.alloc (.cells (Lib.byteCells (List.replicate C 0)).toArray 5)) := fun w' => by
          have h := run_make (P := Try.prog) (w := w') 24 5 i0 (.int .u8 0) Try.underlying24 hi hz0 .i64 .i64 (m : Nat) (C : Nat) (by omega) (by omega) (by rw [hz2]; omega) (by omega)
          rw [hz1, Nat.mul_one] at h
          simpa [made_zeros, Value.cells] using h
        obtain ⟨W2, hW2⟩ : ∃ W2, W2 = wr.alloc (.cells (Lib.byteCells (List.replicate C 0)).toArray 5) := ⟨_, rfl⟩
        obtain ⟨g, hg⟩ : ∃ g, g = wr.heap.size := ⟨_, rfl⟩
        have hZ2 : W2.heap[g]? = some (.cells (Lib.byteCells (List.replicate C 0)).toArray 5 (0, 0)) := by rw [hW2, hg]; exact heap_alloc_new wr _
        have hb2 : Below wr.heap.size wr W2 := by rw [hW2]; exact (Below.refl _ wr).alloc (Nat.le_refl _) _
        have hgW : g < W2.heap.size := by rw [hW2, hg]; simp
        have hbs0 := hbs
        have hbs2 : Bs W2 wr.heap.size A1 Y := hbs.below hb2 (Nat.le_refl _)
        obtain ⟨w3, hcp, hD3, hw3⟩ := run_copy_any (P := Try.prog) W2 24 24 3 5 Try.underlying24 (show (Try.prog.info? 5).map (·.size) = some 1 by kernel_rfl) (some ⟨g, 0, none⟩) A1 m C m c1 g 0 (Lib.byteCells (List.replicate C 0)) 5 hZ2 (Lib.byteCells Y) (by rw [Lib.byteCells_length, hm]; exact (Nat.min_self m).symm) (fun hp => ⟨rfl, hbs2.cells hp⟩) (by rw [Lib.byteCells_length, Lib.byteCells_length, List.length_replicate, hm]; omega) (byteCells_one Y)
        have hsp : splice (Lib.byteCells (List.replicate C (0 : UInt8))) 0 (Lib.byteCells Y) = Lib.byteCells (Y ++ List.replicate (C - m) 0) := by
          unfold splice Lib.byteCells
          rw [List.take_zero, List.nil_append, Nat.zero_add, List.length_map, hm, List.map_append, ← List.map_drop, List.drop_replicate]
        rw [hsp] at hD3
        have hD3' : Arr w3 g 5 (Lib.byteCells (Y ++ List.replicate (C - m) 0)) := hD3
        have hb3 : Below wr.heap.size W2 w3 := ⟨hw3.1.os, hw3.1.tape, hw3.1.output, hw3.1.size, fun j hj => hw3.1.block j (by have := hb2.size; omega) (fun e => by injection e with e; omega)⟩
        have hbs3 : Bs w3 wr.heap.size A1 Y := hbs2.below hb3 (Nat.le_refl _)
        have hw3s := hw3.2
        have hF3 : Bs w3 w3.heap.size (some ⟨g, 0, none⟩) Y := fun hp => ⟨g, 0, rfl, by omega, fun j hj => by
          rw [hD3'.cell, Nat.zero_add]
          have h := byteCells_get (l := Y ++ List.replicate (C - m) 0) (j := j) (by rw [List.length_append]; omega)
          rw [h, show (Y ++ List.replicate (C - m) (0 : UInt8)).getD j 0 = Y.getD j 0 from by simp [List.getD, List.getElem?_append_left hj]]⟩
        have hB3 : Below w.heap.size w w3 := hB.trans ((hb2.trans hb3).mono hB.size)
        obtain ⟨SL, hSL⟩ : ∃ V, V = Lib.byteCells (shaF Y) := ⟨_, rfl⟩
        have hi32 : (Try.prog.info? 26).map (·.size) = some SL.length := by rw [hSL, Lib.byteCells_length, shaF_length]; exact digInfo
        have HSs := Lib.hid (show (Lib.byteCells zeros).toArray.size = SL.toArray.size by rw [hSL, dig_size (shaF_length Y)]; rfl)
        have HS1 := Lib.hid (show SL.toArray.all (·.oneCell') = true by rw [hSL]; exact dig_one _)
        have heqSS := fun w => eqv_at Try.underlying26 (shaF Y) (shaF Y) (shaF_length Y) (shaF_length Y) SL SL hSL hSL w
        rw [decide_eq_true rfl] at heqSS
        have hgt2 := gt32
        have hu := Try.underlying26
        have HSL := Lib.hid hSL
        have Hm := Lib.hid hm
        have hCmx : C ≤ maxLen := by unfold maxLen; omega
        rw [hW2, hg] at hcp
        have Hg := Lib.hid hg
        have hbr3 : wr.heap.size ≤ w3.heap.size := by have := hb2.size; omega
        have hA3 : Bs w3 w3.heap.size A1 Y := hbs3.more hbr3
        rw [show (Lib.byteCells Y).length = m from by rw [Lib.byteCells_length, hm]] at hcp
        clear hown hY hC hZ2 hbs hbs0 hbs2 hD3 hw3 hsp hb2 hb3 hbs3 hW2 hSL hm hg
        go_wp2_with fail
        rw [← Hg.out]
        refine Calls.mono (sum_at Y SL (some ⟨g, 0, none⟩) C m w3 HSL.out Hm.out hF3 (by omega) hCmx (by omega)) ?_
        rintro e w4 ⟨rfl, hb4⟩
        go_wp2_with (change wpList _ _ _ _ _ (w4.alloc (.cells (Lib.byteCells zeros).toArray 26)); refine wpList_store_row rfl _ _ _ rfl w4.heap.size SL.toArray rfl rfl 26 (Lib.byteCells zeros).toArray (heap_alloc_new w4 _) hi32 HSs.out HS1.out ?_; obtain ⟨w5, hw5⟩ : ∃ x, x = (w4.alloc (.cells (Lib.byteCells zeros).toArray 26)).setRow w4.heap.size SL.toArray := ⟨_, rfl⟩; rw [← hw5]; obtain ⟨hD5, hb5⟩ := alloc_row w4 26 (Lib.byteCells zeros).toArray SL; rw [← hw5] at hD5 hb5; clear hw5)
        have hz4 := hb4.size
        have hz5 := hb5.size
        have hD4 := hD3'.up hb4
        have hG5 : Arr w5 g 5 (Lib.byteCells (Y ++ List.replicate (C - m) 0)) := hD4.up hb5
        have hF5 : Bs w5 w5.heap.size (some ⟨g, 0, none⟩) Y := ((hF3.below hb4 (Nat.le_refl _)).below hb5 hz4).more (by omega)
        have hA5 : Bs w5 w5.heap.size A1 Y := ((hA3.below hb4 (Nat.le_refl _)).below hb5 hz4).more (by omega)
        have hB4 := hB3.trans (hb4.mono hB3.size)
        have hB5 := hB4.trans (hb5.mono hB4.size)
        obtain ⟨gD, hgD⟩ : ∃ g, g = w4.heap.size := ⟨_, rfl⟩
        rw [← hgD] at hD5 ⊢
        clear hD3' hD4 hF3 hA3 hb4 hb5 hB3 hB4 hgD hcp hmk
        obtain ⟨D, hD⟩ : ∃ D, C - m = D := ⟨_, rfl⟩
        rw [hD] at hG5 ⊢
        have hDl : D ≤ 100000 := by omega
        clear hD
        obtain ⟨kk, rfl⟩ : ∃ x, x = k := ⟨_, rfl⟩
        clear hd1
        go_loopw [51] (fun i wr => ∃ t : Nat, t ≤ D ∧ i = .int .i64 t ∧ wr = w5) (fun i _ => D - (intOf i).toNat)
        case atStart => exact ⟨0, by omega, rfl, rfl⟩
        case round =>
          obtain ⟨t, ht, rfl, rfl⟩ := hrel
          by_cases htD : t < D
          · have hcell : wr.cell? ⟨g, m + t, none⟩ = some (.int .u8 0) := by
              have hm := Hm.out
              have hget := byteCells_get (l := Y ++ List.replicate D (0 : UInt8)) (j := m + t) (by rw [List.length_append, hm, List.length_replicate]; omega)
              have h0 : (Y ++ List.replicate D (0 : UInt8)).getD (m + t) 0 = 0 := by
                have e : Y.length ≤ m + t := by omega
                rw [List.getD_eq_getElem?_getD, List.getElem?_append_right e]
                simp [hm, htD]
              rw [hG5.cell, hget, h0]
              rfl
            have htI : (t : Int) < (D : Int) := by omega
            have hd1 : decide ((t : Int) < (D : Int)) = true := by simp; omega
            go_wp2_with fail
            go_roundw
            case rel => exact ⟨t + 1, by omega, by go_num, (by first | rfl | trivial)⟩
            case measure => simp [intOf]; omega
          · obtain rfl : t = D := by omega
            have hd1 : decide ((t : Int) < (t : Int)) = false := by simp
            go_wp2_with fail
            clear hd1
            refine wp_region_held_drew (S := fun w' => w'.rangeAt gD 0 SL ∧ Bs w' w'.heap.size (some ⟨g, 0, none⟩) Y ∧ Bs w' w'.heap.size A1 Y) (by kernel_rfl) ⟨hD5.range, hF5, hA5⟩ (fun hHeld => ?_)
            refine anyH_take (i := 0) (some 58) rfl rfl (by kernel_rfl) (by kernel_rfl) (by kernel_rfl) (fun _ _ _ h => h) (yieldsIf_load_mid (by rfl) 26 (.tmp 7) rfl gD 0 rfl SL _ (fun _ h => h.1) hu rfl hi32) (by assumption) ?_
            simp only [Act.put, List.setIfInBounds_toArray, List.set_cons_zero, List.set_cons_succ]
            refine anyH_take (i := 1) (v := .slice A1 m c1) (some 59) rfl rfl (by kernel_rfl) (by kernel_rfl) (by kernel_rfl) (fun _ _ _ h => h) (Or.inl ⟨by rfl, fun _ _ => by rfl⟩) (by assumption) ?_
            simp only [Act.put, List.setIfInBounds_toArray, List.set_cons_zero, List.set_cons_succ]
            refine wpAnyH_ready (rs := [2]) (by kernel_rfl) (by simp) ?_
            refine AllReadyH.cons rfl (fun K hK => ?_) AllReadyH.nil
            go_simp
            go_at_call 10
            refine Calls.mono (sum_at Y SL A1 c1 m wr.drew HSL.out Hm.out hA5 h1 h2 (by omega)) ?_
            rintro e w6 ⟨rfl, hb6⟩
            have hb6s := hb6.size
            go_wp2_with fail
            refine hK.out _ _ ⟨((hD5.drewN 1).up hb6).range, ((hF5.drewN 1).below hb6 (Nat.le_refl _)).more hb6s, ((hA5.drewN 1).below hb6 (Nat.le_refl _)).more hb6s⟩ (fun hHeld => ?_)
            clear hK K
            try simp only [Act.put, List.setIfInBounds_toArray, List.set_cons_zero, List.set_cons_succ]
            refine anyH_take (i := 3) (v := .bool true) (some 61) rfl rfl (by kernel_rfl) (by kernel_rfl) (by kernel_rfl) (fun _ _ _ h => h) (Or.inl ⟨by rfl, fun _ _ => by go_simp⟩) (by assumption) ?_
            simp only [Act.put, List.setIfInBounds_toArray, List.set_cons_zero, List.set_cons_succ]
            refine anyH_take (i := 4) (v := .bool true) (some 62) rfl rfl (by kernel_rfl) (by kernel_rfl) (by kernel_rfl) (fun _ _ _ h => h) (Or.inl ⟨by rfl, fun _ _ => by rfl⟩) (by assumption) ?_
            simp only [Act.put, List.setIfInBounds_toArray, List.set_cons_zero, List.set_cons_succ]
            refine anyH_take (i := 5) (v := .slice (some ⟨g, 0, none⟩) m C) (some 63) rfl rfl (by kernel_rfl) (by kernel_rfl) (by kernel_rfl) (fun _ _ _ h => h) (Or.inl ⟨by rfl, fun _ _ => by rfl⟩) (by assumption) ?_
            simp only [Act.put, List.setIfInBounds_toArray, List.set_cons_zero, List.set_cons_succ]
            refine anyH_take (i := 7) (v := .slice A1 m c1) (some 65) rfl rfl (by kernel_rfl) (by kernel_rfl) (by kernel_rfl) (fun _ _ _ h => h) (Or.inl ⟨by rfl, fun _ _ => by rfl⟩) (by assumption) ?_
            simp only [Act.put, List.setIfInBounds_toArray, List.set_cons_zero, List.set_cons_succ]
            refine anyH_take (i := 6) (some 64) rfl rfl (by kernel_rfl) (by kernel_rfl) (by kernel_rfl) (fun _ _ _ h => h) (yieldsIf_convert (by rfl) 24 9 (.tmp 63) rfl (.slice (some ⟨g, 0, none⟩) m C) (.string ⟨Y.toArray⟩) rfl (fun _ h => str_of_bs C h.2.1 Hm.out _ _ 5 Try.underlying24 Try.underlying5 Try.underlying9)) (by assumption) ?_
            simp only [Act.put, List.setIfInBounds_toArray, List.set_cons_zero, List.set_cons_succ]
            refine anyH_take (i := 8) (some 66) rfl rfl (by kernel_rfl) (by kernel_rfl) (by kernel_rfl) (fun _ _ _ h => h) (yieldsIf_convert (by rfl) 24 9 (.tmp 65) rfl (.slice A1 m c1) (.string ⟨Y.toArray⟩) rfl (fun _ h => str_of_bs c1 h.2.2 Hm.out _ _ 5 Try.underlying24 Try.underlying5 Try.underlying9)) (by assumption) ?_
            simp only [Act.put, List.setIfInBounds_toArray, List.set_cons_zero, List.set_cons_succ]
            refine anyH_take (i := 9) (v := .bool true) (some 67) rfl rfl (by kernel_rfl) (by kernel_rfl) (by kernel_rfl) (fun _ _ _ h => h) (Or.inl ⟨by rfl, fun _ _ => by go_simp⟩) (by assumption) ?_
            simp only [Act.put, List.setIfInBounds_toArray, List.set_cons_zero, List.set_cons_succ]
            refine anyH_take (i := 10) (v := .bool true) (some 68) rfl rfl (by kernel_rfl) (by kernel_rfl) (by kernel_rfl) (fun _ _ _ h => h) (Or.inl ⟨by rfl, fun _ _ => by rfl⟩) (by assumption) ?_
            simp only [Act.put, List.setIfInBounds_toArray, List.set_cons_zero, List.set_cons_succ]
            refine anyH_take (i := 11) (v := .bool true) (some 2) rfl rfl (by kernel_rfl) (by kernel_rfl) (by kernel_rfl) (fun _ _ _ h => h) (Or.inl ⟨by rfl, fun _ _ => by rfl⟩) (by assumption) ?_
            simp only [Act.put, List.setIfInBounds_toArray, List.set_cons_zero, List.set_cons_succ]
            refine wpAnyH_done (by kernel_rfl) ?_ _
            go_wp2_with fail
            have hbd : Below w.heap.size w wr.drew := ⟨hB5.os, hB5.tape, hB5.output, hB5.size, hB5.block⟩
            exact bodyPost_ret (v := .bool true) (by simp [results, Try.f3]) rfl ⟨rfl, hbd.trans (hb6.mono hbd.size)⟩

end Go.Proofs.Ytggefcelcjhgeab

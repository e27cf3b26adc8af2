/-
  schedule: the words of a chunk.
-/
import Derived.Test.YtlfddijmanlneaaRot
import Derived.StillTailTactics
namespace Go.Proofs.Ytlfddijmanlneaa
open Go.RowKit
set_option linter.unusedVariables false

def zeros64 : List Nat := List.replicate 64 0
theorem sizeW : (Try.prog.info? 119).map (·.size) = some 64 := by kernel_rfl

def SchedPost (l : List UInt8) (w : World) (e : Ending) (w' : World) : Prop :=
  e = .returned (.agg (wordCells (wordsF l)).toArray) ∧ Below w.heap.size w w'

set_option maxHeartbeats 8000000 in
set_option maxRecDepth 100000 in
theorem sched_any (l : List UInt8) (A : Option Addr) (c : Nat) (w : World) (hl : l.length = 64) (hb : Bs w w.heap.size A l) :
    Calls Try.prog 88 #[.slice A 64 c] w (SchedPost l w) := by
  obtain ⟨Z, hZ⟩ : ∃ Z : Array Value, Z = (wordCells zeros64).toArray := ⟨_, rfl⟩
  have hZ2 : (wordCells zeros64).toArray = (wordCells (partF l 0)).toArray := by rw [partF_zero]; rfl
  obtain ⟨W, hW⟩ : ∃ W, W = (w.alloc (.cells (wordCells zeros64).toArray 119)).alloc (.cells (wordCells zeros64).toArray 119) := ⟨_, rfl⟩
  have hWs : W.heap.size = w.heap.size + 2 := by rw [hW]; simp
  have hWR : Arr W w.heap.size 119 (wordCells zeros64) := by rw [hW]; exact (Arr.new w _ _).alloc _
  have hWD : Arr W (w.heap.size + 1) 119 (wordCells (partF l 0)) := by
    have h1 := Arr.new (w.alloc (.cells (wordCells zeros64).toArray 119)) 119 (wordCells zeros64)
    rw [show (w.alloc (.cells (wordCells zeros64).toArray 119)).heap.size = w.heap.size + 1 from by simp] at h1
    rw [partF_zero, hW]
    exact h1
  have hWb : Below w.heap.size w W := by rw [hW]; exact ((Below.refl _ w).alloc (Nat.le_refl _) _).alloc (by simp) _
  go_enter Try.func88, Try.ntmps88
  go_wp2_with fail
  change Code.wp _ _ _ _ ((w.alloc (.cells (wordCells zeros64).toArray 119)).alloc (.cells (wordCells zeros64).toArray 119))
  rw [← hW]
  have hbW : Bs W w.heap.size A l := hb.below hWb (Nat.le_refl _)
  clear hW hb hZ hZ2
  go_loopw [11] (fun i wr => ∃ k : Nat, k ≤ 64 ∧ i = .int .i64 k ∧ Arr wr (w.heap.size + 1) 119 (wordCells (partF l k)) ∧ Only (fun k => k = w.heap.size + 1) W wr ∧ wr.heap.size = W.heap.size) (fun i _ => 64 - (intOf i).toNat)
  case atStart => exact ⟨0, by omega, rfl, hWD, Only.refl _ _, rfl⟩
  case round =>
    obtain ⟨k, hk, rfl, hAr, hor, hsz⟩ := hrel
    by_cases hlt : k < 64
    · have hbr : Bs wr w.heap.size A l := hbW.keep fun b o hlt => World.cell?_of_block (hor.block b (by omega) (by omega))
      obtain ⟨b, off, x, rfl, hbB, hc, hx, Hxk⟩ := hbr.at_ (k := k) (by omega)
      have hy := pwF_lt l k
      have hset := partF_set l hlt
      rw [Hxk.out] at hset
      have hcy : wr.cell? ⟨w.heap.size + 1, k / 4, none⟩ = some (.int .u32 (pwF l k (k / 4) : Nat)) := by
        rw [hAr.cell, wordCells_get (by rw [partF_length]; omega), partF_get l k (by omega)]
      obtain ⟨y, hye⟩ : ∃ y, pwF l k (k / 4) = y := ⟨_, rfl⟩
      rw [hye] at hy hset hcy
      have hfy := hAr.frozen (k / 4)
      have hor8 := or_byte (x := y) (b := x) hy hx
      have hnew : Arr (wr.setCell ⟨w.heap.size + 1, k / 4, none⟩ (.int .u32 ((y * 256 + x : Nat) : Int))) (w.heap.size + 1) 119 (wordCells (partF l (k + 1))) := by
        rw [← hset, ← wordCells_set]
        exact hAr.set _ _
      have hon := hor.setCell (p := ⟨w.heap.size + 1, k / 4, none⟩) (.inl rfl) (.int .u32 ((y * 256 + x : Nat) : Int))
      have hki : (k : Int) / 4 < 64 := by omega
      have hk0 : 0 ≤ (k : Int) / 4 := by omega
      have hkn : ((k : Int) / 4).toNat = k / 4 := by omega
      have Hset := Lib.hid hset
      have Hnew := Lib.hid hnew
      have Hon := Lib.hid hon
      have Hye := Lib.hid hye
      have Hsz := Lib.hid hsz
      clear hset hnew hon hye hsz
      go_wp2
      go_roundw
      case rel => exact ⟨k + 1, by omega, by go_num, Hnew.out, Hon.out, by simpa [World.setCell] using Hsz.out⟩
      case measure => simp [intOf]; omega
    · obtain ⟨k0, rfl⟩ : ∃ k0, k0 = k := ⟨_, rfl⟩
      have hk64 : k0 = 64 := by omega
      rw [hk64, ← schedP_zero] at hAr
      clear hbW hWD hk64
      go_wp2
      obtain ⟨wo, rfl⟩ : ∃ wo : World, wo = wr := ⟨_, rfl⟩
      go_loopw [6] (fun i wr => ∃ k t : Nat, k ≤ 48 ∧ 16 + k = t ∧ i = .int .i64 (t : Nat) ∧ Arr wr (w.heap.size + 1) 119 (wordCells (schedP l k)) ∧ Only (fun k => k = w.heap.size + 1) W wr ∧ wr.heap.size = W.heap.size) (fun i _ => 64 - (intOf i).toNat)
      case atStart => exact ⟨0, 16, by omega, rfl, rfl, hAr, hor, hsz⟩
      case round =>
        clear hAr hor hsz
        obtain ⟨k, t, hk, ht, rfl, hAr, hor, hsz⟩ := hrel
        by_cases hlt : k < 48
        · have hfit := schedP_fit l k
          have hset := schedP_set l hlt
          have hlen := schedP_length l hk
          have hcell : ∀ i, i < 64 → wr.cell? ⟨w.heap.size + 1, i, none⟩ = some (.int .u32 ((schedP l k).getD i 0 : Nat)) := fun i hi => by
            rw [hAr.cell, wordCells_get (by rw [hlen]; exact hi)]
          obtain ⟨t2, e2⟩ : ∃ t2, 14 + k = t2 := ⟨_, rfl⟩
          obtain ⟨t15, e15⟩ : ∃ t2, 1 + k = t2 := ⟨_, rfl⟩
          obtain ⟨t7, e7⟩ : ∃ t2, 9 + k = t2 := ⟨_, rfl⟩
          rw [e2, e15, e7, ht] at hset
          have c2 := hcell t2 (by omega)
          have c15 := hcell t15 (by omega)
          have c7 := hcell t7 (by omega)
          have c16 := hcell k (by omega)
          have c0 := hcell t (by omega)
          have f0 := hAr.frozen t
          have b2 := hfit.get t2
          have b15 := hfit.get t15
          have b7 := hfit.get t7
          have b16 := hfit.get k
          obtain ⟨p, ep⟩ : ∃ p, (schedP l k).getD t2 0 = p := ⟨_, rfl⟩
          obtain ⟨q, eq⟩ : ∃ p, (schedP l k).getD t15 0 = p := ⟨_, rfl⟩
          obtain ⟨r, er⟩ : ∃ p, (schedP l k).getD t7 0 = p := ⟨_, rfl⟩
          obtain ⟨s, es⟩ : ∃ p, (schedP l k).getD k 0 = p := ⟨_, rfl⟩
          obtain ⟨z, ez⟩ : ∃ p, (schedP l k).getD t 0 = p := ⟨_, rfl⟩
          rw [ep] at hset c2 b2
          rw [eq] at hset c15 b15
          rw [er] at hset c7 b7
          rw [es] at hset c16 b16
          rw [ez] at c0
          have hnew : Arr (wr.setCell ⟨w.heap.size + 1, t, none⟩ (.int .u32 ((schN p q r s : Nat) : Int))) (w.heap.size + 1) 119 (wordCells (schedP l (k + 1))) := by
            rw [← hset, ← wordCells_set]
            exact hAr.set _ _
          have hon := hor.setCell (p := ⟨w.heap.size + 1, t, none⟩) (.inl rfl) (.int .u32 ((schN p q r s : Nat) : Int))
          have HE := Lib.hid (schN_int r s b2 b15)
          have Hnew := Lib.hid hnew
          have Hon := Lib.hid hon
          have Hsz := Lib.hid hsz
          have Hlen := Lib.hid hlen
          have i0 : 0 ≤ (t : Int) := by omega
          have i1 : (t : Int) < 64 := by omega
          have w2 : IntKind.i64.wrap ((t : Int) - 2) = (t2 : Int) := by rw [IntWalk.i64_in _ (by omega)]; omega
          have w15 : IntKind.i64.wrap ((t : Int) - 15) = (t15 : Int) := by rw [IntWalk.i64_in _ (by omega)]; omega
          have w7 : IntKind.i64.wrap ((t : Int) - 7) = (t7 : Int) := by rw [IntWalk.i64_in _ (by omega)]; omega
          have w16 : IntKind.i64.wrap ((t : Int) - 16) = (k : Int) := by rw [IntWalk.i64_in _ (by omega)]; omega
          have l2 : (t2 : Int) < 64 := by omega
          have l15 : (t15 : Int) < 64 := by omega
          have l7 : (t7 : Int) < 64 := by omega
          have l16 : (k : Int) < 64 := by omega
          have Ht := Lib.hid ht
          clear hset hnew hon hsz hlen ep eq er es ez hcell hfit hAr hor e2 e15 e7 ht
          go_wp2_with fail
          go_quiet (fail)
          go_wp2_with fail
          refine wp_region_still_tail 28 (by kernel_rfl) (by kernel_rfl) ?_
          simp only [List.take_succ_cons, List.take_zero, List.drop_succ_cons, List.drop_zero]
          change wpStill _ _ (wr.drewN nq).drew (fun a' => wpList _ _ _ _ a' (wr.drewN nq).drew) _ _
          repeat (first | still_step | (still_call (rot_at _ _ (by assumption) (by decide) (by decide) _)))
          refine wpStill_nil ?_
          go_wp2_with fail
          rw [HE.out]
          go_roundw
          case rel => exact ⟨k + 1, t + 1, by omega, by have := Ht.out; omega, by go_num, Hnew.out, Only.step Hon.out ⟨rfl, rfl, rfl, Nat.le_refl _, fun _ _ => rfl⟩, by simpa [World.setCell] using Hsz.out⟩
          case measure => simp [intOf]; omega
        · obtain rfl : k = 48 := by omega
          rw [schedP_done] at hAr
          have hR : Arr wr w.heap.size 119 (wordCells zeros64) := hWR.only hor (by simp)
          obtain ⟨DV, hDV⟩ : ∃ DV, DV = (wordCells (wordsF l)).toArray := ⟨_, rfl⟩
          have hDs : DV.size = 64 := by rw [hDV]; simp [wordCells_length, wordsF_length]
          have HDi := Lib.hid (show (Try.prog.info? 119).map (·.size) = some DV.size by rw [hDs]; exact sizeW)
          have HDb := Lib.hid hDV
          have HD1 := Lib.hid (show DV.all (·.oneCell') = true by rw [hDV]; simpa using wordCells_one (wordsF l))
          have hD2 : Hid (wr.heap[w.heap.size + 1]? = some (.cells DV 119 (0, 0))) := by
            show _ = _
            rw [hDV]; exact hAr
          have hR2 : Hid (wr.heap[w.heap.size]? = some (.cells (wordCells zeros64).toArray 119 (0, 0))) := hR
          have Hzs := Lib.hid (show (wordCells zeros64).toArray.size = DV.size by rw [hDs]; simp [wordCells_length, zeros64])
          have hset : Hid ((wr.setRow w.heap.size DV).heap[w.heap.size]? = some (.cells DV 119 (0, 0))) := setRow_heap wr w.heap.size _ DV _ _ hR2.out
          have hbel : Below w.heap.size w (wr.setRow w.heap.size DV) :=
            hWb.trans ((hor.below (by omega) (by rintro k rfl; omega)).trans (((Only.refl (fun k => k = w.heap.size) wr).setRow (.inl rfl) DV).below (by omega) (by rintro k rfl; omega)))
          obtain rfl : t = 64 := by omega
          clear hDV hDs hlt hk hAr hR hor hsz hWR
          go_wp2_with (first
            | (refine wpList_load_row rfl _ _ rfl (w.heap.size + 1) rfl 119 DV (0, 0) _ hD2.out Try.underlying119 rfl HDi.out ?_)
            | (refine wpList_store_row rfl _ _ _ rfl w.heap.size DV rfl rfl 119 _ hR2.out HDi.out Hzs.out HD1.out ?_))
          exact bodyPost_ret (v := .agg DV) (results_cell_row (by rfl) _ _ w.heap.size 119 DV (0, 0) _ (by rfl) hset.out Try.underlying119 rfl HDi.out) rfl ⟨by rw [HDb.out], hbel⟩

end Go.Proofs.Ytlfddijmanlneaa

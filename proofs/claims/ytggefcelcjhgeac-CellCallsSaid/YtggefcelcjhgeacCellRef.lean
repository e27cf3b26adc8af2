/-
  The document's own bytes of a cell.
-/
import Derived.Test.YtggefcelcjhgeacCellBytes
namespace Go.Proofs.Ytggefcelcjhgeac
open Go.RowKit
set_option linter.unusedVariables false

/-- The array behind i rounds of the first loop. -/
def rB (n i : Nat) : List UInt8 := List.replicate (8 - i) 0 ++ (bytes8 n).drop (8 - i) ++ zeros
theorem rB_zero (n : Nat) : rB n 0 = zeros40 := by
  unfold rB
  rw [List.drop_of_length_le (by rw [bytes8_length]; omega), List.append_nil]
  rfl
theorem rB_length (n : Nat) {i : Nat} (h : i ≤ 8) : (rB n i).length = 40 := by
  unfold rB zeros; rw [List.length_append, List.length_append, List.length_drop, bytes8_length, List.length_replicate, List.length_replicate]; omega
theorem rB_set (n : Nat) {i j x : Nat} (h : j + i = 7) (hx : n / 256 ^ i % 256 = x) : (Lib.byteCells (rB n i)).set j (.int .u8 (x : Nat)) = Lib.byteCells (rB n (i + 1)) := by
  have hl := bytes8_length n
  have h1 := bytes8_get n (i := j) (by omega)
  rw [show 7 - j = i from by omega, Nat.pow_mul, show (2 ^ 8 : Nat) = 256 from rfl] at h1
  have e : rB n (i + 1) = (rB n i).set j ((bytes8 n).getD j 0) := by
    unfold rB
    rw [show 8 - i = j + 1 from by omega, show 8 - (i + 1) = j from by omega, List.append_assoc, List.append_assoc, List.replicate_succ', List.append_assoc, List.set_append, if_neg (by simp), List.length_replicate, Nat.sub_self,
      List.singleton_append, List.set_cons_zero, List.drop_eq_getElem_cons (show j < (bytes8 n).length from by omega), ← List.getElem_eq_getD (h := by omega) 0]
    rfl
  rw [e, ← hx, ← h1]
  unfold Lib.byteCells
  rw [List.map_set]

/-- The array behind k rounds of the second one. -/
def cB (n : Nat) (d : List UInt8) (k : Nat) : List UInt8 := bytes8 n ++ tdB d zeros k
theorem cB_length (n : Nat) {d : List UInt8} {k : Nat} (hd : d.length = 32) (h : k ≤ 32) : (cB n d k).length = 40 := by
  unfold cB; rw [List.length_append, bytes8_length, tdB_length (by rw [hd]; rfl) (by omega), hd]
theorem cB_zero (n : Nat) (d : List UInt8) : cB n d 0 = rB n 8 := by
  unfold cB rB; rw [tdB_zero]; simp
theorem cB_done (n : Nat) {d : List UInt8} (hd : d.length = 32) : cB n d 32 = cellF n d := by
  unfold cB cellF; rw [tdB_done (by rw [hd]; rfl) (by omega)]
theorem cB_set (n : Nat) {d : List UInt8} {k x : Nat} (hd : d.length = 32) (hk : k < 32) (hx : (d.getD k 0).toNat = x) : (Lib.byteCells (cB n d k)).set (8 + k) (.int .u8 (x : Nat)) = Lib.byteCells (cB n d (k + 1)) := by
  unfold cB
  rw [Lib.byteCells_append, Lib.byteCells_append, ← tdB_set (by rw [hd]; rfl) (by omega) hx, List.set_append, if_neg (by rw [Lib.byteCells_length, bytes8_length]; omega), Lib.byteCells_length, bytes8_length, Nat.add_sub_cancel_left]

theorem forty_built : Try.prog.built 51 [] = some (Lib.byteCells zeros40).toArray := by kernel_rfl

set_option maxHeartbeats 8000000 in
set_option maxRecDepth 100000 in
theorem rbytes_any (n : Nat) (d : List UInt8) (w : World) (hn : n < 18446744073709551616) (hd : d.length = 32) :
    Calls Try.prog 22 #[.int .u64 (n : Nat), digV d] w (BytesPost n d w) := by
  unfold digV
  obtain ⟨V, hV⟩ : ∃ V, V = (Lib.byteCells d).toArray := ⟨_, rfl⟩
  obtain ⟨Z, hZ⟩ : ∃ Z, Z = (Lib.byteCells zeros40).toArray := ⟨_, rfl⟩
  obtain ⟨W1, hW1⟩ : ∃ W1, W1 = ((w.alloc (.cells V 44)).alloc (.cells (Lib.byteCells zeros40).toArray 51)).alloc (.cells (Lib.byteCells zeros40).toArray 51) := ⟨_, rfl⟩
  have hD : Arr W1 w.heap.size 44 (Lib.byteCells d) := by rw [hW1, hV]; exact ((Arr.new w _ _).alloc _).alloc _
  have hR : Arr W1 (w.heap.size + 1) 51 (Lib.byteCells zeros40) := by
    have h1 := Arr.new (w.alloc (.cells V 44)) 51 (Lib.byteCells zeros40)
    rw [show (w.alloc (.cells V 44)).heap.size = w.heap.size + 1 from by simp] at h1
    rw [hW1]; exact h1.alloc _
  have hB : Arr W1 (w.heap.size + 1 + 1) 51 (Lib.byteCells zeros40) := by
    have h1 := Arr.new ((w.alloc (.cells V 44)).alloc (.cells (Lib.byteCells zeros40).toArray 51)) 51 (Lib.byteCells zeros40)
    rw [show ((w.alloc (.cells V 44)).alloc (.cells (Lib.byteCells zeros40).toArray 51)).heap.size = w.heap.size + 1 + 1 from by simp] at h1
    rw [hW1]; exact h1
  have hb : Below w.heap.size w W1 := by rw [hW1]; exact (((Below.refl _ w).alloc (Nat.le_refl _) _).alloc (by simp) _).alloc (by simp; omega) _
  have hWs : W1.heap.size = w.heap.size + 3 := by rw [hW1]; simp
  have HZb := Lib.hid (show Try.prog.built 51 [] = some Z by rw [hZ]; exact forty_built)
  have HZi := Lib.hid (show (Try.prog.info? 51).map (·.size) = some Z.size by rw [hZ, dig_size (n := 40) (by simp [zeros40])]; exact fortyInfo)
  have HZ1 := Lib.hid (show Z.all (·.oneCell') = true by rw [hZ]; exact dig_one _)
  have HBz := Lib.hid (show W1.heap[w.heap.size + 1 + 1]? = some (.cells Z 51 (0, 0)) by rw [hZ]; exact hB)
  have Hset := Lib.hid (setRow_idle HBz.out)
  rw [← hV]
  have HW1 := Lib.hid hW1
  clear hW1 hV hZ
  go_enter Try.func22, Try.ntmps22
  go_wp2_with (first
    | (refine wpList_built rfl _ _ rfl [] rfl Z HZb.out ?_)
    | (change wpList _ _ _ _ _ (((w.alloc (.cells V 44)).alloc (.cells (Lib.byteCells zeros40).toArray 51)).alloc (.cells (Lib.byteCells zeros40).toArray 51))
       rw [← HW1.out]
       refine wpList_store_row rfl _ _ _ rfl (w.heap.size + 1 + 1) Z rfl rfl 51 Z HBz.out HZi.out rfl HZ1.out ?_
       rw [Hset.out]))
  have hB0 : Arr W1 (w.heap.size + 1 + 1) 51 (Lib.byteCells (rB n 0)) := by rw [rB_zero]; exact hB
  clear hB HW1
  obtain ⟨b, hbb⟩ : ∃ b, b = w.heap.size + 1 + 1 := ⟨_, rfl⟩
  rw [← hbb] at hB0 ⊢
  have hb_lo : w.heap.size + 1 < b := by omega
  have hb_hi : b ≤ w.heap.size + 2 := by omega
  clear hbb
  clear HBz Hset HZb HZi HZ1
  go_loopw [0, 6] (fun y c wr => ∃ (i : Nat) (z : Int), i ≤ 8 ∧ z + (i : Int) = 7 ∧ c = .int .i64 z ∧ y = .int .u64 (n / 256 ^ i : Nat) ∧ Arr wr b 51 (Lib.byteCells (rB n i)) ∧ Only (fun k => k = b) W1 wr ∧ wr.heap.size = W1.heap.size) (fun _ c _ => (intOf c + 1).toNat)
  case atStart => exact ⟨0, 7, by omega, by omega, rfl, by simp, hB0, Only.refl _ _, rfl⟩
  case round =>
    clear hB0
    obtain ⟨i, z, hi8, hz, rfl, rfl, hAi, ho, hsz⟩ := hrel
    obtain ⟨w1, rfl⟩ : ∃ wo : World, wo = wr := ⟨_, rfl⟩
    by_cases hi : i < 8
    · obtain ⟨j, rfl⟩ := Int.eq_ofNat_of_zero_le (show 0 ≤ z by omega)
      have hj7 : j + i = 7 := by omega
      have hold : w1.cell? ⟨b, j, none⟩ = some (.int .u8 (((rB n i).getD j 0).toNat : Nat)) := by rw [hAi.cell]; exact byteCells_get (by rw [rB_length n hi8]; omega)
      have hfro := hAi.frozen j
      obtain ⟨q, hq⟩ : ∃ q, ((rB n i).getD j 0).toNat = q := ⟨_, rfl⟩
      rw [hq] at hold
      have hset := rB_set n hj7 (x := n / 256 ^ i % 256) rfl
      have hyl : n / 256 ^ i < 18446744073709551616 := Nat.lt_of_le_of_lt (Nat.div_le_self _ _) hn
      have hnx : n / 256 ^ i / 256 = n / 256 ^ (i + 1) := by rw [Nat.div_div_eq_div_mul, Nat.pow_succ]
      obtain ⟨y, hy⟩ : ∃ y, n / 256 ^ i = y := ⟨_, rfl⟩
      rw [hy] at hset hyl hnx ⊢
      have Hset := Lib.hid hset
      have Hnx := Lib.hid hnx
      have hj1 : (j : Int) < 40 := by omega
      have hj0 : decide ((0 : Int) ≤ (j : Int)) = true := by simp
      clear hq hset hnx hy
      go_wp2_with fail
      go_roundw
      case rel => 
        refine ⟨i + 1, (j : Int) - 1, by omega, by omega, by go_num, ?_, ?_, ?_, ?_⟩
        · rw [← Hnx.out]; go_num
        · rw [← Hset.out]; exact hAi.set j _
        · exact ho.setCell (.inl rfl) _
        · simpa [World.setCell] using hsz
      case measure => simp [intOf]
    · obtain rfl : i = 8 := by omega
      obtain rfl : z = -1 := by omega
      rw [← cB_zero n d] at hAi
      have hWle := ho.size
      have hDg := hD.only ho (show ¬ w.heap.size = b by omega)
      have hRg := hR.only ho (show ¬ w.heap.size + 1 = b by omega)
      have hbw := hb.trans (ho.below (by omega) (by rintro k rfl; omega))
      obtain ⟨y8, hy8⟩ : ∃ y, n / 256 ^ 8 = y := ⟨_, rfl⟩
      rw [hy8]
      clear hD hR ho hy8
      go_wp2_with fail
      go_loopw [7] (fun c wr => ∃ i : Nat, i ≤ 32 ∧ c = .int .i64 i ∧ Arr wr b 51 (Lib.byteCells (cB n d i)) ∧ Only (fun k => k = b) w1 wr ∧ wr.heap.size = w1.heap.size) (fun c _ => 32 - (intOf c).toNat)
      case atStart => exact ⟨0, by omega, rfl, hAi, Only.refl _ _, rfl⟩
      case round =>
        clear hAi
        obtain ⟨k, hk, rfl, hAk, ho, hsz2⟩ := hrel
        obtain ⟨w2, rfl⟩ : ∃ wo : World, wo = wr := ⟨_, rfl⟩
        by_cases hkl : k < 32
        · have hold : w2.cell? ⟨b, 8 + k, none⟩ = some (.int .u8 (((cB n d k).getD (8 + k) 0).toNat : Nat)) := by rw [hAk.cell]; exact byteCells_get (by rw [cB_length n hd hk]; omega)
          have hfro := hAk.frozen (8 + k)
          have hsrc : w2.cell? ⟨w.heap.size, k, none⟩ = some (.int .u8 ((d.getD k 0).toNat : Nat)) := by rw [(hDg.only ho (show ¬ w.heap.size = b by omega)).cell]; exact byteCells_get (by omega)
          have hset := cB_set n hd hkl (x := (d.getD k 0).toNat) rfl
          obtain ⟨q, hq⟩ : ∃ q, ((cB n d k).getD (8 + k) 0).toNat = q := ⟨_, rfl⟩
          obtain ⟨x, hx⟩ : ∃ q, (d.getD k 0).toNat = q := ⟨_, rfl⟩
          rw [hq] at hold
          rw [hx] at hsrc hset
          obtain ⟨t, ht⟩ : ∃ t, 8 + k = t := ⟨_, rfl⟩
          rw [ht] at hold hfro hset
          have htI : (8 : Int) + (k : Int) = (t : Int) := by omega
          have htl : (t : Int) < 40 := by omega
          have hd1 : decide ((k : Int) < 32) = true := by simp; omega
          have Hset := Lib.hid hset
          clear hq hx hset ht
          go_wp2_with fail
          go_roundw
          case rel => 
            refine ⟨k + 1, by omega, by go_num, ?_, ?_, ?_⟩
            · rw [← Hset.out]; exact hAk.set t _
            · exact ho.setCell (.inl rfl) _
            · simpa [World.setCell] using hsz2
          case measure => simp [intOf]; omega
        · obtain rfl : k = 32 := by omega
          have hd1 : decide (((32 : Nat) : Int) < 32) = false := by simp
          rw [cB_done n hd] at hAk
          obtain ⟨DV, hDV⟩ : ∃ DV, DV = (Lib.byteCells (cellF n d)).toArray := ⟨_, rfl⟩
          have hDs : DV.size = 40 := by rw [hDV]; exact dig_size (cellF_length hd)
          have hD2 : Hid (w2.heap[b]? = some (.cells DV 51 (0, 0))) := by
            show _ = _
            rw [hDV]; exact hAk
          have hR2 : Hid (w2.heap[w.heap.size + 1]? = some (.cells (Lib.byteCells zeros40).toArray 51 (0, 0))) := hRg.only ho (show ¬ w.heap.size + 1 = b by omega)
          have HDi := Lib.hid (show (Try.prog.info? 51).map (·.size) = some DV.size by rw [hDs]; exact fortyInfo)
          have HD1 := Lib.hid (show DV.all (·.oneCell') = true by rw [hDV]; exact dig_one _)
          have Hzs := Lib.hid (show (Lib.byteCells zeros40).toArray.size = DV.size by rw [hDs]; simp [Lib.byteCells, zeros40])
          have hset : Hid ((w2.setRow (w.heap.size + 1) DV).heap[w.heap.size + 1]? = some (.cells DV 51 (0, 0))) := setRow_heap w2 (w.heap.size + 1) _ DV _ _ hR2.out
          have hbel : Below w.heap.size w (w2.setRow (w.heap.size + 1) DV) := by
            have hb2 := hbw.trans (ho.below (by omega) (by rintro k rfl; omega))
            exact hb2.trans (((Only.refl (fun k => k = w.heap.size + 1) w2).setRow (.inl rfl) DV).below hb2.size (by rintro k rfl; omega))
          have HDV := Lib.hid hDV
          obtain ⟨k9, rfl⟩ : ∃ k, k = b := ⟨_, rfl⟩
          clear hDV hDs hAk
          go_wp2_with (first
            | (refine wpList_load_row rfl _ _ rfl k9 rfl 51 DV (0, 0) _ hD2.out Try.underlying51 rfl HDi.out ?_)
            | (refine wpList_store_row rfl _ _ _ rfl (w.heap.size + 1) DV rfl rfl 51 _ hR2.out HDi.out Hzs.out HD1.out ?_))
          exact bodyPost_ret (v := .agg DV) (results_cell_row (by rfl) _ _ (w.heap.size + 1) 51 DV (0, 0) _ (by rfl) hset.out Try.underlying51 rfl HDi.out) rfl ⟨by unfold digV; rw [HDV.out], hbel⟩

end Go.Proofs.Ytggefcelcjhgeac

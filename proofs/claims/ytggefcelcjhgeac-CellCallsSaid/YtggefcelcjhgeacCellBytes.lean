/-
  Bytes of the cell, and the document's own.
-/
import Derived.Test.YtggefcelcjhgeacCellNew
namespace Go.Proofs.Ytggefcelcjhgeac
open Go.RowKit
set_option linter.unusedVariables false

def zeros40 : List UInt8 := List.replicate 40 0
def BytesPost (n : Nat) (d : List UInt8) (w : World) (e : Ending) (w' : World) : Prop :=
  e = .returned (digV (cellF n d)) ∧ Below w.heap.size w w'

/-- The array behind i rounds. -/
def fillB (n i : Nat) : List UInt8 := (bytes8 n).take i ++ List.replicate (40 - i) 0
theorem fillB_length (n : Nat) {i : Nat} (h : i ≤ 8) : (fillB n i).length = 40 := by
  unfold fillB; rw [List.length_append, List.length_take, bytes8_length, List.length_replicate]; omega
theorem fillB_zero (n : Nat) : fillB n 0 = zeros40 := rfl
theorem fillB_set (n : Nat) {i x : Nat} (h : i < 8) (hx : n / 2 ^ (8 * (7 - i)) % 256 = x) : (Lib.byteCells (fillB n i)).set i (.int .u8 (x : Nat)) = Lib.byteCells (fillB n (i + 1)) := by
  have h1 := bytes8_get n h
  have hl := bytes8_length n
  have e : fillB n (i + 1) = (fillB n i).set i ((bytes8 n).getD i 0) := by
    unfold fillB
    rw [List.set_append, if_neg (by rw [List.length_take]; omega), List.length_take, Nat.min_eq_left (by omega), Nat.sub_self,
      show 40 - i = (40 - (i + 1)) + 1 from by omega, List.replicate_succ, List.set_cons_zero, List.take_succ_eq_append_getElem (show i < (bytes8 n).length from by omega)]
    rw [← List.getElem_eq_getD (h := by omega) 0, List.append_assoc]
    rfl
  rw [e, ← hx, ← h1]
  unfold Lib.byteCells
  rw [List.map_set]

set_option maxHeartbeats 4000000 in
set_option maxRecDepth 100000 in
theorem cbytes_any (g n : Nat) (d : List UInt8) (w : World) (hn : n < 18446744073709551616) (hd : d.length = 32) (h : Arr w g 73 (cellC n d)) :
    Calls Try.prog 21 #[.pointer (some ⟨g, 0, none⟩)] w (BytesPost n d w) := by
  have hlt := h.lt
  obtain ⟨W, hW⟩ : ∃ W, W = (w.alloc (.cells (Lib.byteCells zeros40).toArray 51)).alloc (.cells (Lib.byteCells zeros40).toArray 51) := ⟨_, rfl⟩
  have hWs : W.heap.size = w.heap.size + 2 := by rw [hW]; simp
  have hb : Below w.heap.size w W := by rw [hW]; exact ((Below.refl _ w).alloc (Nat.le_refl _) _).alloc (by simp) _
  have hA : Arr W g 73 (cellC n d) := h.below hb hlt
  have hR : Arr W w.heap.size 51 (Lib.byteCells zeros40) := by rw [hW]; exact (Arr.new w _ _).alloc _
  have hB : Arr W (w.heap.size + 1) 51 (Lib.byteCells (fillB n 0)) := by
    have h1 := Arr.new (w.alloc (.cells (Lib.byteCells zeros40).toArray 51)) 51 (Lib.byteCells zeros40)
    rw [hW, fillB_zero]; simpa using h1
  have HW := Lib.hid hW
  clear hW h
  go_enter Try.func21, Try.ntmps21
  go_wp2_with fail
  change Code.wp _ _ _ _ ((w.alloc (.cells (Lib.byteCells zeros40).toArray 51)).alloc (.cells (Lib.byteCells zeros40).toArray 51))
  rw [← HW.out]
  go_loopw [5] (fun c wr => ∃ i : Nat, i ≤ 8 ∧ c = .int .i64 i ∧ Arr wr (w.heap.size + 1) 51 (Lib.byteCells (fillB n i)) ∧ Only (fun k => k = w.heap.size + 1) W wr ∧ wr.heap.size = W.heap.size) (fun c _ => 8 - (intOf c).toNat)
  case atStart => exact ⟨0, by omega, rfl, hB, Only.refl _ _, rfl⟩
  case round =>
    clear hB
    obtain ⟨i, hi8, rfl, hAi, ho, hsz⟩ := hrel
    obtain ⟨w1, rfl⟩ : ∃ wo : World, wo = wr := ⟨_, rfl⟩
    have hc0 : w1.cell? ⟨g, 0, none⟩ = some (.int .u64 (n : Nat)) := (hA.only ho (show ¬ g = w.heap.size + 1 by omega)).cell 0
    by_cases hi : i < 8
    · have hd1 : decide ((i : Int) < 8) = true := by simp; omega
      obtain ⟨sh, hsh⟩ : ∃ sh, 7 - i = sh := ⟨_, rfl⟩
      have hshI : (7 : Int) - (i : Int) = (sh : Int) := by omega
      have hold : w1.cell? ⟨w.heap.size + 1, i, none⟩ = some (.int .u8 (((fillB n i).getD i 0).toNat : Nat)) := by rw [hAi.cell]; exact byteCells_get (by rw [fillB_length n hi8]; omega)
      have hfro := hAi.frozen i
      obtain ⟨z, hz⟩ : ∃ z, ((fillB n i).getD i 0).toNat = z := ⟨_, rfl⟩
      rw [hz] at hold
      clear hz
      go_wp2_with fail
      have hy : (n : Int) / 2 ^ (8 * sh) % 256 = ((n / 2 ^ (8 * (7 - i)) % 256 : Nat) : Int) := by
        rw [hsh, Int.natCast_emod, Int.natCast_ediv, Int.natCast_pow]; rfl
      have hset := fillB_set n (x := n / 2 ^ (8 * (7 - i)) % 256) hi rfl
      go_roundw
      case rel =>
        refine ⟨i + 1, by omega, by go_num, ?_, ?_, ?_⟩
        · rw [hy, ← hset]; exact hAi.set i _
        · exact ho.setCell (.inl rfl) _
        · simpa [World.setCell] using hsz
      case measure => simp [intOf]; omega
    · obtain rfl : i = 8 := by omega
      have hd1 : decide (((8 : Nat) : Int) < 8) = false := by simp
      have hAg := hA.only ho (show ¬ g = w.heap.size + 1 by omega)
      have hRg := hR.only ho (show ¬ w.heap.size = w.heap.size + 1 by omega)
      have hbw := hb.trans (ho.below (by omega) (by rintro k rfl; omega))
      have hsp : splice (Lib.byteCells (fillB n 8)) 8 (Lib.byteCells d) = Lib.byteCells (cellF n d) := by
        unfold splice fillB cellF Lib.byteCells
        rw [List.take_of_length_le (Nat.le_of_eq (bytes8_length n)), List.map_append, List.map_append, List.take_append_of_le_length (by simp [bytes8_length]), List.take_of_length_le (by simp [bytes8_length]),
          List.drop_of_length_le (by simp [bytes8_length, hd]), List.append_nil]
      obtain ⟨k8, hk8⟩ : ∃ k, k = (8 : Nat) := ⟨_, rfl⟩
      have HAi := Lib.hid hAi
      have Hsp := Lib.hid hsp
      have hsrc : Hid (∀ j v, (Lib.byteCells d)[j]? = some v → w1.drew.cell? ((⟨g, 1, none⟩ : Addr).add j) = some v) := (hAg.drewN 1).part (pre := [.int .u64 (n : Nat)]) 1 rfl
      have HN := Lib.hid (show (Lib.byteCells d).length = Nat.min 32 32 by rw [Lib.byteCells_length, hd]; decide)
      have HF := Lib.hid (show 8 + (Lib.byteCells d).length ≤ (Lib.byteCells (fillB n 8)).length by rw [Lib.byteCells_length, Lib.byteCells_length, hd, fillB_length n (Nat.le_refl _)]; decide)
      have H1 := Lib.hid (byteCells_one d)
      have HAd := Lib.hid (show w1.drew.heap[w.heap.size + 1]? = some (.cells (Lib.byteCells (fillB n 8)).toArray 51 (0, 0)) from hAi)
      clear hAi ho hsp
      go_wp2_with fail
      go_region_held3 (fun w' => True) (trivial)
        (first | (refine step_copy_any (by rfl) _ _ _ _ (by rfl) 5 Try.underlying23 byteInfo1 _ _ _ _ _ _ (by rfl) (by rfl) (w.heap.size + 1) 8 (Lib.byteCells (fillB n 8)) 51 HAd.out (Lib.byteCells d) HN.out (fun hp => ⟨rfl, ⟨g, 1, none⟩, rfl, hsrc.out⟩) HF.out H1.out ?_
                  intro w2 hw2D hw2))
      have hs2 := hw2.2
      obtain ⟨DV, hDV⟩ : ∃ DV, DV = (Lib.byteCells (cellF n d)).toArray := ⟨_, rfl⟩
      have hDs : DV.size = 40 := by rw [hDV]; exact dig_size (cellF_length hd)
      have hD2 : Hid (w2.heap[w.heap.size + 1]? = some (.cells DV 51 (0, 0))) := by
        show _ = _
        rw [hDV, ← Hsp.out]
        exact hw2D.out
      have hR2 : Hid (w2.heap[w.heap.size]? = some (.cells (Lib.byteCells zeros40).toArray 51 (0, 0))) :=
        (hw2.1.block w.heap.size (by have := hRg.lt; exact this) (fun e => by injection e with e; omega)).trans hRg
      have HDi := Lib.hid (show (Try.prog.info? 51).map (·.size) = some DV.size by rw [hDs]; exact fortyInfo)
      have HD1 := Lib.hid (show DV.all (·.oneCell') = true by rw [hDV]; exact dig_one _)
      have Hzs := Lib.hid (show (Lib.byteCells zeros40).toArray.size = DV.size by rw [hDs]; simp [Lib.byteCells, zeros40])
      have hset : Hid ((w2.setRow w.heap.size DV).heap[w.heap.size]? = some (.cells DV 51 (0, 0))) := setRow_heap w2 w.heap.size _ DV _ _ hR2.out
      have hbel : Below w.heap.size w (w2.setRow w.heap.size DV) := by
        have hbd : Below w.heap.size w w1.drew := ⟨hbw.os, hbw.tape, hbw.output, hbw.size, hbw.block⟩
        have hb2 : Below w.heap.size w1.drew w2 := ⟨hw2.1.os, hw2.1.tape, hw2.1.output, hw2.1.size, fun k hk => hw2.1.block k (by have := hbd.size; exact Nat.lt_of_lt_of_le hk this) (fun e => by injection e with e; omega)⟩
        exact (hbd.trans hb2).trans (((Only.refl (fun k => k = w.heap.size) w2).setRow (.inl rfl) DV).below (hbd.trans hb2).size (by rintro k rfl; omega))
      have HDV := Lib.hid hDV
      clear hDV hDs hd1
      go_wp2_with (first
        | (refine wpList_load_row rfl _ _ rfl (w.heap.size + 1) rfl 51 DV (0, 0) _ hD2.out Try.underlying51 rfl HDi.out ?_)
        | (refine wpList_store_row rfl _ _ _ rfl w.heap.size DV rfl rfl 51 _ hR2.out HDi.out Hzs.out HD1.out ?_))
      exact bodyPost_ret (v := .agg DV) (results_cell_row (by rfl) _ _ w.heap.size 51 DV (0, 0) _ (by rfl) hset.out Try.underlying51 rfl HDi.out) rfl ⟨by unfold digV; rw [HDV.out], hbel⟩


end Go.Proofs.Ytggefcelcjhgeac

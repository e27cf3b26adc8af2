/-
  New, Get and Advance of the cell.
-/
import Derived.Test.YtggefcelcjhgeacCellMath
namespace Go.Proofs.Ytggefcelcjhgeac
open Go.RowKit
set_option linter.unusedVariables false

def NewPost (n : Nat) (d : List UInt8) (w : World) (e : Ending) (w' : World) : Prop :=
  ∃ g : Nat, e = .returned (.pointer (some ⟨g, 0, none⟩)) ∧ w.heap.size ≤ g ∧ Arr w' g 73 (cellC n d) ∧ Below w.heap.size w w'

theorem dig_size {d : List UInt8} {n : Nat} (hd : d.length = n) : (Lib.byteCells d).toArray.size = n := by simp [Lib.byteCells, hd]
theorem dig_one (d : List UInt8) : (Lib.byteCells d).toArray.all (·.oneCell') = true := by simpa using byteCells_one d

set_option maxHeartbeats 4000000 in
set_option maxRecDepth 100000 in
theorem new_any (n : Nat) (d : List UInt8) (w : World) (hd : d.length = 32) :
    Calls Try.prog 18 #[.int .u64 (n : Nat), digV d] w (NewPost n d w) := by
  unfold digV
  obtain ⟨V, hV⟩ : ∃ V, V = (Lib.byteCells d).toArray := ⟨_, rfl⟩
  obtain ⟨C, hC⟩ : ∃ C, C = (cellC n d).toArray := ⟨_, rfl⟩
  have Hi := Lib.hid (show (Try.prog.info? 44).map (·.size) = some V.size by rw [hV, dig_size hd]; exact digInfo)
  have Hb := Lib.hid (show Try.prog.built 73 [(0, .int .u64 (n : Nat)), (1, .agg V)] = some C by rw [hV, hC]; exact cell_built n _ (by simp [Lib.byteCells, hd]))
  rw [← hV]
  have HC := Lib.hid hC
  clear hV hC
  have H0 := Lib.hid (heap_alloc_new w (.cells V 44))
  go_enter Try.func18, Try.ntmps18
  go_wp2_with (first
    | (refine wpList_load_row rfl _ _ rfl w.heap.size rfl 44 V (0, 0) _ H0.out Try.underlying44 rfl Hi.out ?_)
    | (refine wpList_built rfl _ _ rfl _ rfl C Hb.out ?_))
  refine bodyPost_ret (v := .pointer (some ⟨w.heap.size + 1, 0, none⟩)) (by simp [results, Try.f18]) rfl ⟨w.heap.size + 1, rfl, by omega, ?_, ?_⟩
  · have h1 := Arr.new (w.alloc (.cells V 44)) 73 (cellC n d)
    rw [← HC.out] at h1
    simpa using h1
  · exact ((Below.refl _ w).alloc (Nat.le_refl _) _).alloc (by simp) _

def GetPost (n : Nat) (d : List UInt8) (w : World) (e : Ending) (w' : World) : Prop :=
  e = .returned (.tuple #[.int .u64 (n : Nat), digV d]) ∧ Below w.heap.size w w'

set_option maxHeartbeats 4000000 in
set_option maxRecDepth 100000 in
theorem get_any (g n : Nat) (d : List UInt8) (w : World) (hd : d.length = 32) (h : Arr w g 73 (cellC n d)) :
    Calls Try.prog 19 #[.pointer (some ⟨g, 0, none⟩)] w (GetPost n d w) := by
  have h0 : w.cell? ⟨g, 0, none⟩ = some (.int .u64 (n : Nat)) := h.cell 0
  go_enter Try.func19, Try.ntmps19
  go_wp2_with fail
  obtain ⟨Z, hZ⟩ : ∃ Z, Z = (Lib.byteCells zeros).toArray := ⟨_, rfl⟩
  obtain ⟨V, hV⟩ : ∃ V, V = (Lib.byteCells d).toArray := ⟨_, rfl⟩
  obtain ⟨W, hW⟩ : ∃ W, W = w.alloc (.cells Z 44) := ⟨_, rfl⟩
  change Code.wp _ _ _ _ (w.alloc (.cells (Lib.byteCells zeros).toArray 44))
  rw [← hZ, ← hW]
  have hb : Below w.heap.size w W := by rw [hW]; exact (Below.refl _ w).alloc (Nat.le_refl _) _
  have hC0 : W.cell? ⟨g, 0, none⟩ = some (.int .u64 (n : Nat)) := (h.below hb h.lt).cell 0
  have hC1 : Hid (∀ j v, V.toList[j]? = some v → W.cell? ((⟨g, 1, none⟩ : Addr).add j) = some v) := by
    rw [hV]
    exact (h.below hb h.lt).part (pre := [.int .u64 (n : Nat)]) (l := Lib.byteCells d) 1 rfl
  have hR : Hid (W.heap[w.heap.size]? = some (.cells Z 44 (0, 0))) := by rw [hW]; exact heap_alloc_new w _
  have HI := Lib.hid (show (Try.prog.info? 44).map (·.size) = some V.size by rw [hV, dig_size hd]; exact digInfo)
  have HS := Lib.hid (show Z.size = V.size by rw [hV, hZ, dig_size hd]; rfl)
  have H1 := Lib.hid (show V.all (·.oneCell') = true by rw [hV]; exact dig_one d)
  have HV := Lib.hid hV
  have hset : Hid ((W.setRow w.heap.size V).heap[w.heap.size]? = some (.cells V 44 (0, 0))) := setRow_heap W w.heap.size _ V _ _ hR.out
  have hbd : Below w.heap.size w W.drew := ⟨hb.os, hb.tape, hb.output, hb.size, hb.block⟩
  have hb2 : Below w.heap.size w (W.drew.setRow w.heap.size V) := hbd.trans (((Only.refl (fun k => k = w.heap.size) W.drew).setRow (.inl rfl) V).below hb.size (by rintro k rfl; omega))
  clear hW hZ hV h h0
  refine wp_region_still_tail 9 (by kernel_rfl) (by kernel_rfl) ?_
  simp only [List.take_succ_cons, List.take_zero, List.drop_succ_cons, List.drop_zero]
  repeat (first | still_step | (refine wpStill_load_at rfl _ _ rfl ⟨g, 1, none⟩ rfl V _ hC1.out Try.underlying44 rfl HI.out ?_))
  refine wpStill_nil ?_
  go_wp2_with (refine wpList_store_row rfl _ _ _ rfl w.heap.size V rfl rfl 44 Z hR.out HI.out HS.out H1.out ?_)
  refine bodyPost_ret (v := .tuple #[.int .u64 (n : Nat), .agg V]) ?_ rfl ?_
  · have r2 := run_loadVar_row (P := Try.prog) (W.drew.setRow w.heap.size V) w.heap.size 44 44 V (0, 0) _ hset.out Try.underlying44 rfl HI.out
    unfold results
    simp [r2, Try.results19, Act.put, asAddr]
  · exact ⟨by unfold digV; rw [HV.out], hb2⟩

def mostN : Nat := 18446744073709551615
def advN (n : Nat) : Nat := if n = mostN then n else n + 1
def AdvPost (g n : Nat) (d r : List UInt8) (w : World) (e : Ending) (w' : World) : Prop :=
  e = .returned (.int .i64 (if n = mostN then 9 else 0)) ∧ Arr w' g 73 (if n = mostN then cellC n d else cellC (n + 1) r) ∧ Only (fun k => k = g) w w'

set_option maxHeartbeats 4000000 in
set_option maxRecDepth 100000 in
theorem advance_any (g n : Nat) (d r : List UInt8) (w : World) (hn : n < 18446744073709551616) (hd : d.length = 32) (hr : r.length = 32) (h : Arr w g 73 (cellC n d)) :
    Calls Try.prog 23 #[.pointer (some ⟨g, 0, none⟩), digV r] w (AdvPost g n d r w) := by
  unfold digV
  obtain ⟨VL, hV⟩ : ∃ VL, VL = Lib.byteCells r := ⟨_, rfl⟩
  have HVL := Lib.hid (show VL.length = 32 by rw [hV]; simp [Lib.byteCells, hr])
  have H1 := Lib.hid (show ∀ v ∈ VL, v.oneCell' = true by rw [hV]; exact byteCells_one r)
  have HV := Lib.hid hV
  rw [← hV]
  have HD := Lib.hid hd
  clear hV hd hr
  obtain ⟨V, hVV⟩ : ∃ V, V = VL.toArray := ⟨_, rfl⟩
  have hlt := h.lt
  have h0 : (w.alloc (.cells V 44)).cell? ⟨g, 0, none⟩ = some (.int .u64 (n : Nat)) := (h.alloc (.cells V 44)).cell 0
  have hf0 := (h.alloc (.cells V 44)).frozen 0
  have hr0 : (w.alloc (.cells V 44)).rangeAt w.heap.size 0 VL := fun j v hj => by
    rw [hVV, (Arr.new w 44 VL).cell, Nat.zero_add]; exact hj
  have ht0 : (w.alloc (.cells V 44)).there g 1 32 := fun j hj => by
    rw [(h.alloc (.cells V 44)).cell, (h.alloc (.cells V 44)).frozen]
    refine ⟨?_, rfl⟩
    have : 1 + j < (cellC n d).length := by rw [cellC_length, HD.out]; omega
    simp [List.getElem?_eq_getElem this]
  have hA := Lib.hid (h.alloc (.cells V 44))
  have ho : Only (fun k => k = g) w (w.alloc (.cells V 44)) := (Only.refl _ w).alloc _
  clear h
  subst hVV
  by_cases hm : n = mostN
  · subst hm
    go_enter Try.func23, Try.ntmps23
    go_wp2_with fail
    exact bodyPost_ret (v := .int .i64 9) (by simp [results, Try.f23]) rfl ⟨by rw [if_pos rfl], by rw [if_pos rfl]; exact hA.out, ho⟩
  · have ht : ((n : Int) == 18446744073709551615) = false := by unfold mostN at hm; rw [beq_eq_false_iff_ne]; omega
    have hadd : IntKind.u64.wrap ((n : Int) + 1) = ((n + 1 : Nat) : Int) := by unfold mostN at hm; rw [IntWalk.u64_in _ (by omega)]; omega
    go_enter Try.func23, Try.ntmps23
    go_wp2_with fail
    have hu := Try.underlying44
    have hi32 : (Try.prog.info? 44).map (·.size) = some VL.length := by rw [HVL.out]; exact digInfo
    have hone := H1.out
    have hvl := HVL.out
    obtain ⟨W, hW⟩ : ∃ W, W = w.alloc (.cells VL.toArray 44) := ⟨_, rfl⟩
    rw [← hW] at h0 hf0 hr0 ht0 hA ho ⊢
    have hWs : w.heap.size < W.heap.size := by rw [hW]; simp
    have hA1 : Arr (W.setCell ⟨g, 0, none⟩ (.int .u64 ((n + 1 : Nat) : Int))) g 73 (cellC (n + 1) d) := hA.out.set 0 _
    have ht1 : (W.setCell ⟨g, 0, none⟩ (.int .u64 ((n + 1 : Nat) : Int))).there g 1 32 := fun j hj => by
      rw [hA1.cell, hA1.frozen]
      refine ⟨?_, rfl⟩
      have : 1 + j < (cellC (n + 1) d).length := by rw [cellC_length, HD.out]; omega
      simp [List.getElem?_eq_getElem this]
    have hr1 : (W.setCell ⟨g, 0, none⟩ (.int .u64 ((n + 1 : Nat) : Int))).rangeAt w.heap.size 0 VL := fun j v hj => by
      rw [World.cell?_setCell_other _ _ _ _ (by intro e; injection e with e; omega)]
      exact hr0 j v hj
    have ht2 : (W.setCell ⟨g, 0, none⟩ (.int .u64 ((n + 1 : Nat) : Int))).there g 1 VL.length := by rw [HVL.out]; exact ht1
    have hr2 : ((W.setCell ⟨g, 0, none⟩ (.int .u64 ((n + 1 : Nat) : Int))).drew.setCells g 1 VL).rangeAt w.heap.size 0 VL := World.rangeAt_setCells_apart (w := (W.setCell ⟨g, 0, none⟩ (.int .u64 ((n + 1 : Nat) : Int))).drew) hr1 g 1 VL (.inl (by omega))
    have ht3 : ((W.setCell ⟨g, 0, none⟩ (.int .u64 ((n + 1 : Nat) : Int))).drew.setCells g 1 VL).there g 1 32 := World.there_setCells (w := (W.setCell ⟨g, 0, none⟩ (.int .u64 ((n + 1 : Nat) : Int))).drew) ht1 g 1 VL
    have hA2 := Arr.setCells VL 1 _ _ (hA1.drewN 1) (by rw [cellC_length, HD.out, HVL.out])
    have HA2 := Lib.hid (show Arr ((W.setCell ⟨g, 0, none⟩ (.int .u64 ((n + 1 : Nat) : Int))).drew.setCells g 1 VL) g 73 (cellC (n + 1) r) by
      have e : (cellC (n + 1) d).take 1 ++ VL = cellC (n + 1) r := by rw [HV.out]; rfl
      rw [← e]; exact hA2)
    have HO := Lib.hid (show Only (fun k => k = g) w ((W.setCell ⟨g, 0, none⟩ (.int .u64 ((n + 1 : Nat) : Int))).drew.setCells g 1 VL) from Only.setCells (R := fun k => k = g) rfl VL 1 _ ((ho.setCell (p := ⟨g, 0, none⟩) (.inl rfl) _).drewN 1))
    clear hW hA1 hadd hA2 ho
    have hadd : IntKind.u64.wrap ((n : Int) + 1) = ((n + 1 : Nat) : Int) := by unfold mostN at hm; rw [IntWalk.u64_in _ (by omega)]; omega
    refine wp_region_held_drew (S := fun w' => w'.rangeAt w.heap.size 0 VL ∧ w'.there g 1 32) (by kernel_rfl) ⟨hr0, ht0⟩ (fun hHeld => ?_)
    refine wpAnyH_take (i := 0) (v := .pointer (some ⟨g, 0, none⟩)) rfl (by kernel_rfl) (by kernel_rfl) (by kernel_rfl) (fun _ _ _ h => h) (Or.inl ⟨by rfl, fun _ _ => by rfl⟩) (by assumption) ?_
    refine wpAnyH_take (i := 1) (v := .pointer (some ⟨g, 0, none⟩)) rfl (by kernel_rfl) (by kernel_rfl) (by kernel_rfl) (fun _ _ _ h => h) (Or.inl ⟨by rfl, fun _ _ => by rfl⟩) (by assumption) ?_
    refine wpAnyH_take (i := 2) (v := .pointer (some ⟨g, 0, none⟩)) rfl (by kernel_rfl) (by kernel_rfl) (by kernel_rfl) (fun _ _ _ h => h) (Or.inl ⟨by rfl, fun _ _ => by rfl⟩) (by assumption) ?_
    refine wpAnyH_take (i := 3) (v := .pointer (some ⟨g, 0, none⟩)) rfl (by kernel_rfl) (by kernel_rfl) (by kernel_rfl) (fun _ _ _ h => h) (Or.inl ⟨by rfl, fun _ _ => by rfl⟩) (by assumption) ?_
    refine wpAnyH_take (i := 4) (v := .pointer (some ⟨g, 0, none⟩)) rfl (by kernel_rfl) (by kernel_rfl) (by kernel_rfl) (fun _ _ _ h => h) (Or.inl ⟨by rfl, fun _ _ => by rfl⟩) (by assumption) ?_
    refine wpAnyH_take (i := 7) rfl (by kernel_rfl) (by kernel_rfl) (by kernel_rfl) (fun _ _ _ h => h) (yieldsIf_load_mid (by rfl) 44 (.tmp 3) rfl w.heap.size 0 rfl VL _ (fun _ h => h.1) hu rfl hi32) (by assumption) ?_
    refine wpAnyH_ready (rs := [5]) (by kernel_rfl) (by simp) ?_
    refine AllReadyH.cons rfl (fun K hK => ?_) AllReadyH.nil
    go_simp
    refine hK.out _ _ ⟨hr0, ht0⟩ (fun hHeld2 => ?_)
    clear hK K
    refine wpAnyH_take (i := 6) (v := .int .u64 ((n + 1 : Nat) : Int)) rfl (by kernel_rfl) (by kernel_rfl) (by kernel_rfl) (fun _ _ _ h => h) (Or.inl ⟨by rfl, fun _ _ => by go_simp⟩) (by assumption) ?_
    refine wpAnyH_take (i := 8) (v := .pointer (some ⟨g, 0, none⟩)) rfl (by kernel_rfl) (by kernel_rfl) (by kernel_rfl) (fun _ _ _ h => h) (Or.inl ⟨by rfl, fun _ _ => by rfl⟩) (by assumption) ?_
    refine wpAnyH_take (i := 9) (v := .pointer (some ⟨g, 0, none⟩)) rfl (by kernel_rfl) (by kernel_rfl) (by kernel_rfl) (fun _ _ _ h => h) (Or.inl ⟨by rfl, fun _ _ => by rfl⟩) (by assumption) ?_
    refine wpAnyH_ready (rs := [10]) (by kernel_rfl) (by simp) ?_
    refine AllReadyH.cons rfl (fun K hK => ?_) AllReadyH.nil
    go_simp
    refine hK.out _ _ ⟨hr1, ht1⟩ (fun hHeld3 => ?_)
    clear hK K
    refine wpAnyH_take (i := 11) (v := .pointer (some ⟨g, 0, none⟩)) rfl (by kernel_rfl) (by kernel_rfl) (by kernel_rfl) (fun _ _ _ h => h) (Or.inl ⟨by rfl, fun _ _ => by rfl⟩) (by assumption) ?_
    refine wpAnyH_take (i := 12) (v := .pointer (some ⟨g, 1, none⟩)) rfl (by kernel_rfl) (by kernel_rfl) (by kernel_rfl) (fun _ _ _ h => h) (Or.inl ⟨by rfl, fun _ _ => by rfl⟩) (by assumption) ?_
    refine wpAnyH_ready (rs := [13]) (by kernel_rfl) (by simp) ?_
    refine AllReadyH.cons rfl (fun K hK => ?_) AllReadyH.nil
    rw [if_pos (by rfl)]
    refine wp_store_mid 44 _ _ rfl g 1 VL.toArray rfl rfl (by rw [List.size_toArray, hvl]; exact ht1) (by rw [List.size_toArray]; exact hi32) (all_oneCell_toArray hone) ?_
    refine hK.out _ _ ⟨hr2, ht3⟩ (fun hHeld4 => ?_)
    clear hK K
    refine wpAnyH_done (by kernel_rfl) ?_ _
    go_wp2_with fail
    exact bodyPost_ret (v := .int .i64 0) (by simp [results, Try.f23]) rfl ⟨by rw [if_neg hm], by rw [if_neg hm]; exact HA2.out, HO.out⟩

end Go.Proofs.Ytggefcelcjhgeac

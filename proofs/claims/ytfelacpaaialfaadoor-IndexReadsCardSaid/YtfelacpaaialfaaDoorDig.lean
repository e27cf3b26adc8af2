/-
  Digest of pack's In.
-/
import Derived.Test.YtfelacpaaialfaaDoorInCalls
import Derived.Test.YtfelacpaaialfaaDoorPackMath
import Derived.Deep.RegionHeld3
import Derived.Deep.AppendLies
import Derived.Outline
import Derived.IntWalk
import Derived.Test.YtfelacpaaialfaaDoorDigF
import Derived.Test.YtfelacpaaialfaaDoorDig0
import Derived.Laws.Rows
import Derived.Laws.Tables
namespace Go.Proofs.YtfelacpaaialfaaDoor
open Go.RowKit
set_option linter.unusedVariables false
variable {lo : Nat}

theorem Turn.fresh {p g : Nat} {a b c : World} (h : Turn p a b) (hw : Wrote g b c) (hg : a.heap.size ≤ g) : Turn p a c :=
  ⟨hw.1.os.trans h.os, hw.1.tape.trans h.tape, hw.1.output.trans h.output, Nat.le_trans h.size hw.1.size,
    fun k hk hne => (hw.1.block k (Nat.lt_of_lt_of_le hk h.size) (fun e => by injection e with e; omega)).trans (h.block k hk hne)⟩

def DigPost (lo p : Nat) (l : List UInt8) (wr : Bool) (w : World) (e : Ending) (w' : World) : Prop :=
  e = .returned (digV (digF l)) ∧ PInL lo w' p (cutF 32 l).2.1 (wr || (cutF 32 l).2.2) ∧ Turn p w w'

theorem byteSize : (Tryd.prog.info? 5).map (·.size) = some 1 := by kernel_rfl

set_option maxHeartbeats 8000000 in
set_option maxRecDepth 100000 in
theorem digest_in (p : Nat) (l : List UInt8) (wr : Bool) (w : World) (h : PInL lo w p l wr) :
    Calls Tryd.prog 16 #[.pointer (some ⟨p, 0, none⟩)] w (DigPost lo p l wr w) := by
  have hp := h.lt
  go_enter Tryd.func16, Tryd.ntmps16
  go_wp2
  obtain ⟨W, hW⟩ : ∃ W, W = (w.alloc (.cells (Lib.byteCells zeros).toArray 39)).alloc (.cells (Lib.byteCells zeros).toArray 39) := ⟨_, rfl⟩
  have hWs : W.heap.size = w.heap.size + 2 := by rw [hW]; simp
  have hWR : W.heap[w.heap.size]? = some (.cells (Lib.byteCells zeros).toArray 39 (0, 0)) := by
    rw [hW, Below.heap_alloc _ _ _ (by simp)]; exact heap_alloc_new w _
  have hWD : W.heap[w.heap.size + 1]? = some (.cells (Lib.byteCells zeros).toArray 39 (0, 0)) := by
    have := heap_alloc_new (w.alloc (.cells (Lib.byteCells zeros).toArray 39)) (.cells (Lib.byteCells zeros).toArray 39)
    rw [hW]; simpa using this
  have hWb : Below w.heap.size w W := by rw [hW]; exact ((Below.refl _ w).alloc (Nat.le_refl _) _).alloc (by simp) _
  have hWp : PInL lo W p l wr := h.kept fun k hk => hWb.block k (by omega)
  have hWt : Turn p w W := by rw [hW]; exact ((Turn.refl p w).alloc _).alloc _
  change Code.wp _ _ _ _ ((w.alloc (.cells (Lib.byteCells zeros).toArray 39)).alloc (.cells (Lib.byteCells zeros).toArray 39))
  rw [← hW]
  clear hW h
  have hcl : Hid ((cutF 32 l).1.length ≤ 32 ∧ (cutF 32 l).1.length = (cutF 32 l).1.length ∧ (splice (Lib.byteCells zeros) 0 (Lib.byteCells (cutF 32 l).1)).toArray = (Lib.byteCells (digF l)).toArray) := by
    unfold cutF digF
    by_cases hc : l.length < 32
    · rw [if_pos hc, if_pos hc]
      exact ⟨by simp, rfl, by simp [splice, Lib.byteCells, zeros]⟩
    · rw [if_neg hc, if_neg hc]
      have h32 : (l.take 32).length = 32 := by rw [List.length_take]; omega
      refine ⟨by simp only; omega, rfl, ?_⟩
      simp only [splice, Lib.byteCells_length, h32]
      rw [List.drop_of_length_le (by simp [Lib.byteCells, zeros])]
      simp
  have hzl : (Lib.byteCells zeros).length = 32 := by simp [Lib.byteCells, zeros]
  have Hzl := Lib.hid hzl
  have HWR := Lib.hid hWR
  have HWD := Lib.hid hWD
  obtain ⟨x, hx⟩ : ∃ x, cutF 32 l = x := ⟨_, rfl⟩
  have hcl2 := hcl.out
  rw [hx] at hcl2
  have Hx := Lib.hid hx
  obtain ⟨r, l2, f⟩ := x
  obtain ⟨hr32, _, hsp⟩ := hcl2
  simp only at hr32 hsp
  have Hsp := Lib.hid hsp
  have HR1 := Lib.hid (byteCells_one r)
  have HRl := Lib.hid (Lib.byteCells_length r)
  clear hzl hWR hWD hx hsp hcl
  go_region_held3 (fun w' => True) (trivial)
    (first
      | (go_at_call 32
         refine (cut_any p 32 l wr _ (by exact hWp) (by omega)).mono ?_
         rintro e w1 ⟨A, c, rfl, h1, h2, h3, hp1, ht1⟩
         rw [Hx.out] at h1 h3 hp1 ⊢
         simp only at h1 h3 hp1 ⊢
         have hD1 := Lib.hid ((ht1.block (w.heap.size + 1) (by simp; omega) (fun e => by injection e with e; omega)).trans HWD.out)
         have hRb1 := Lib.hid ((ht1.block w.heap.size (by simp; omega) (fun e => by injection e with e; omega)).trans HWR.out)
         have hcs := Lib.hid (h3.cells))
      | (refine step_copy_any (by rfl) _ _ _ _ (by rfl) 5 Tryd.underlying22 byteSize _ _ _ _ _ _ (by rfl) (by rfl) (w.heap.size + 1) 0 (Lib.byteCells zeros) 39 hD1.out (Lib.byteCells r) (by rw [HRl.out]; exact (Nat.min_eq_left hr32).symm) (fun hp => ⟨rfl, hcs.out hp⟩) (by rw [HRl.out, Hzl.out]; omega) HR1.out ?_
         intro w2 hw2D hw2))
  have hp1lt := hp1.lt
  have hs1 : w.heap.size + 2 ≤ w1.heap.size := by have := ht1.size; simp at this; omega
  have hs2 := hw2.2
  have hpD : p ≠ w.heap.size + 1 := by omega
  obtain ⟨DV, hDV⟩ : ∃ DV, DV = (Lib.byteCells (digF l)).toArray := ⟨_, rfl⟩
  have hDs : DV.size = 32 := by rw [hDV]; simp [Lib.byteCells, digF_length]
  have hDi : (Tryd.prog.info? 39).map (·.size) = some DV.size := by rw [hDs]; exact digInfo
  have hD1' : DV.all (·.oneCell') = true := by rw [hDV]; simpa using byteCells_one (digF l)
  have hD2 : Hid (w2.heap[w.heap.size + 1]? = some (.cells DV 39 (0, 0))) := by
    show _ = _
    rw [hDV, ← Hsp.out]
    exact hw2D.out
  have hR2 : Hid (w2.heap[w.heap.size]? = some (.cells (Lib.byteCells zeros).toArray 39 (0, 0))) :=
    (hw2.1.block w.heap.size (by omega) (fun e => by injection e with e; omega)).trans hRb1.out
  have hzs : (Lib.byteCells zeros).toArray.size = DV.size := by rw [hDs]; simp [Lib.byteCells, zeros]
  have HDV := Lib.hid hDV
  have Hzs := Lib.hid hzs
  have HDi := Lib.hid hDi
  have HD1 := Lib.hid hD1'
  have hRs : w.heap.size < w2.heap.size := by omega
  have hset : Hid ((w2.setRow w.heap.size DV).heap[w.heap.size]? = some (.cells DV 39 (0, 0))) := setRow_heap w2 w.heap.size _ DV _ _ hR2.out
  clear hDV hDs hzs hDi hD1'
  go_wp2_with (first
    | (refine wpList_load_row rfl _ _ rfl (w.heap.size + 1) rfl 39 DV (0, 0) _ hD2.out Tryd.underlying39 rfl HDi.out ?_)
    | (refine wpList_store_row rfl _ _ _ rfl w.heap.size DV rfl rfl 39 _ hR2.out HDi.out Hzs.out HD1.out ?_))
  refine bodyPost_ret (v := .agg DV) (results_cell_row (by rfl) _ _ w.heap.size 39 DV (0, 0) _ (by rfl) hset.out Tryd.underlying39 rfl HDi.out) rfl ?_
  refine ⟨by unfold digV; rw [HDV.out], ?_, ?_⟩
  · rw [Hx.out]
    exact hp1.kept fun k hk => by
      rw [(Wrote.set w.heap.size w2 DV).1.block k (by omega) (fun e => by injection e with e; omega)]
      exact hw2.1.block k (by omega) (fun e => by injection e with e; omega)
  · have ht : Turn p w w1 := by first | exact hWt.trans ht1 | exact (hWt.drewN 1).trans ht1
    exact (ht.fresh hw2 (by omega)).fresh (Wrote.set w.heap.size w2 DV) (Nat.le_refl _)

end Go.Proofs.YtfelacpaaialfaaDoor

/-
  The root of blocks.
-/
import Derived.Test.YtccccpadnaocfaaBinMath
import Derived.Test.YtccccpadnaocfaaRoot
namespace Go.Proofs.Ytccccpadnaocfaa
open Go.RowKit
set_option linter.unusedVariables false
set_option linter.unusedSimpArgs false

theorem rowInfoN : (Try.prog.info? 49).map (fun i => (i.zero, i.size, i.bytes)) = some (some (.slice none 0 0), 1, 24) := by kernel_rfl
theorem run_make_rows (n : Nat) (hn : n ≤ 1000000) (w : World) :
    (Instr.makeSlice 74 (.int .i64 (n : Nat)) (.int .i64 (n : Nat))).run Try.prog w = .ok (.slice (some ⟨w.heap.size, 0, none⟩) n n) (w.alloc (.cells (List.replicate n (.slice none 0 0)).toArray 49)) := by
  obtain ⟨i0, hi, hz0, hz1, hz2⟩ := info_parts rowInfoN
  have h := run_make (P := Try.prog) w 74 49 i0 (.slice none 0 0) Try.underlying74 hi hz0 .i64 .i64 (n : Nat) (n : Nat) (by omega) (by omega) (by rw [hz2]; omega) (by omega)
  rw [h, hz1, Int.toNat_natCast]
  have e : madeCells (Value.slice none 0 0).cells (n * 1) = (List.replicate n (.slice none 0 0)).toArray := by
    rw [Nat.mul_one]
    exact made_rep (.slice none 0 0) 1 n (by omega)
  rw [e]
theorem wpList_makeRun {P : Program} {ops : Array Oper} {rest : List Oper} {o : Oper} {a : Act} {w w' : World} {Q : Exit → Act → World → Prop} (hg : o.guard = none) (t : TypeId) (x y : Operand) (ho : o.op = .makeSlice t x y)
    (xv yv v : Value) (hx : a.eval x = xv) (hy : a.eval y = yv) (hr : (Instr.makeSlice t xv yv).run P w = .ok v w') (h : wpList P ops Q rest (a.put o.dst v) w') : wpList P ops Q (o :: rest) a w := by
  refine wpList_plain hg fun K hK => ?_
  unfold Oper.wp execOp
  simp only [ho, hx, hy, Sem.run_bind, hr, Result.andThen_ok]
  exact hK _ _ h
/-- The first i rows tell where blocks stand. -/
def rowCells (b off n i : Nat) : List Value := (List.range n).map fun j => if j < i then .slice (some ⟨b, off + j * 48, none⟩) 48 48 else .slice none 0 0
theorem rowCells_zero (b off n : Nat) : rowCells b off n 0 = List.replicate n (.slice none 0 0) := by
  apply List.ext_getElem
  · simp [rowCells]
  · intro i h1 h2
    simp [rowCells]
theorem rowCells_length (b off n i : Nat) : (rowCells b off n i).length = n := by simp [rowCells]
theorem rowCells_get {b off n i j : Nat} (h : j < n) : (rowCells b off n i)[j]? = some (if j < i then .slice (some ⟨b, off + j * 48, none⟩) 48 48 else .slice none 0 0) := by
  simp [rowCells, h]
theorem rowCells_step {b off n i : Nat} (h : i < n) : (rowCells b off n i).set i (.slice (some ⟨b, off + i * 48, none⟩) 48 48) = rowCells b off n (i + 1) := by
  apply List.ext_getElem?
  intro j
  by_cases hj : j < n
  · by_cases e : j = i
    · subst e
      rw [List.getElem?_set_self (by rw [rowCells_length]; exact h), rowCells_get h, if_pos (by omega)]
    · rw [List.getElem?_set_ne (by omega), rowCells_get hj, rowCells_get hj]
      by_cases h2 : j < i
      · rw [if_pos h2, if_pos (by omega)]
      · rw [if_neg h2, if_neg (by omega)]
  · rw [List.getElem?_eq_none (by rw [List.length_set, rowCells_length]; omega), List.getElem?_eq_none (by rw [rowCells_length]; omega)]
theorem rowCells_rows {w : World} {g b off n : Nat} {bs : List (List UInt8)} (hn : bs.length = n) (h : Arr w g 49 (rowCells b off n n)) (hb : b < w.heap.size) (h48 : ∀ s ∈ bs, s.length = 48) (hr : ∀ i, i < n → w.rangeAt b (off + i * 48) (Lib.byteCells (bs.getD i []))) :
    RowsAt w w.heap.size (some ⟨g, 0, none⟩) bs := fun _ => by
  refine ⟨g, 0, rfl, h.lt, fun i hi => ?_⟩
  have e : (bs.getD i []).length = 48 := h48 _ (by simp [List.getD, hi])
  refine ⟨some ⟨b, off + i * 48, none⟩, 48, ?_, by omega, by unfold maxLen; omega, rangeAt_bs hb (hr i (by omega))⟩
  rw [Nat.zero_add, h.cell, rowCells_get (by omega), if_pos (by omega), e]

set_option maxHeartbeats 8000000 in
set_option maxRecDepth 100000 in
theorem nroot_at (bs : List (List UInt8)) (n c b off : Nat) (RL : List Value) (w : World) (hn : bs.length = n) (hn6 : n ≤ 65536) (hc : n ≤ c) (hcm : c ≤ 9223372036854775807) (h48 : ∀ s ∈ bs, s.length = 48) (hb : b < w.heap.size)
    (hr : ∀ i, i < n → w.rangeAt b (off + i * 48) (Lib.byteCells (bs.getD i []))) (hRL : RL = Lib.byteCells (rootF bs)) :
    Calls Try.prog 30 #[.slice (some ⟨b, off, none⟩) n c] w fun e w' => e = .returned (.agg RL.toArray) ∧ Below w.heap.size w w' := by
  obtain ⟨W, hW⟩ : ∃ W, W = w.alloc (.cells (Lib.byteCells zeros).toArray 29) := ⟨_, rfl⟩
  have hR : Arr W w.heap.size 29 (Lib.byteCells zeros) := by rw [hW]; exact Arr.new w _ _
  have hB : Below w.heap.size w W := by rw [hW]; exact (Below.refl _ w).alloc (Nat.le_refl _) _
  obtain ⟨V, hV⟩ : ∃ V, V = W.alloc (.cells (List.replicate n (.slice none 0 0)).toArray 49) := ⟨_, rfl⟩
  have hG : Arr V W.heap.size 49 (rowCells b off n 0) := by rw [hV, rowCells_zero]; exact Arr.new W _ _
  have hbV : Below W.heap.size W V := by rw [hV]; exact (Below.refl _ W).alloc (Nat.le_refl _) _
  obtain ⟨g, hg⟩ : ∃ g, g = W.heap.size := ⟨_, rfl⟩
  rw [← hg] at hG hbV
  have hwg : w.heap.size < g := by rw [hg]; exact hR.lt
  have hmk := run_make_rows n (by omega) W
  rw [← hg, ← hV] at hmk
  have hrl : RL.length = 32 := by rw [hRL, Lib.byteCells_length, rootF_length]
  have HI := Lib.hid (show (Try.prog.info? 29).map (·.size) = some RL.toArray.size by rw [List.size_toArray, hrl]; exact digInfo)
  have HS := Lib.hid (show (Lib.byteCells zeros).toArray.size = RL.toArray.size by rw [List.size_toArray, List.size_toArray, hrl]; rfl)
  have H1 := Lib.hid (show RL.toArray.all (·.oneCell') = true by rw [hRL]; exact dig_one _)
  have HRL := Lib.hid hRL
  have HW := Lib.hid hW
  have Hmk := Lib.hid hmk
  have Hn := Lib.hid hn
  clear hW hV hg hRL hmk hn
  go_enter Try.func30, Try.ntmps30
  go_upto_region 1 with fail
  change Code.wp _ _ _ _ (w.alloc (.cells (Lib.byteCells zeros).toArray 29))
  rw [← HW.out]
  clear HW
  go_wp2_with (first
    | (refine wpList_makeRun rfl _ _ _ rfl _ _ _ rfl rfl Hmk.out ?_))
  go_loopw [10] (fun v wr => ∃ i : Nat, i ≤ n ∧ v = .int .i64 i ∧ Arr wr g 49 (rowCells b off n i) ∧ Only (fun k => k = g) V wr) (fun v _ => n - (intOf v).toNat)
  case atStart => exact ⟨0, by omega, rfl, hG, Only.refl _ _⟩
  case round =>
    clear hG
    obtain ⟨i, hi, rfl, hGi, hO⟩ := hrel
    obtain ⟨wq, hwq⟩ : ∃ x, x = wr := ⟨_, rfl⟩
    subst hwq
    by_cases hlt : i < n
    · have hd : decide ((i : Int) < (n : Int)) = true := by simp; exact hlt
      have hdn : decide (i < n) = true := by simp; exact hlt
      have hcell : wq.cell? ⟨g, i, none⟩ = some (.slice none 0 0) := by rw [hGi.cell, rowCells_get hlt, if_neg (by omega)]
      have hfro := hGi.frozen i
      have hset := hGi.set i (.slice (some ⟨b, off + i * 48, none⟩) 48 48)
      rw [rowCells_step hlt] at hset
      have hO2 : Only (fun k => k = g) V (wq.setCell ⟨g, i, none⟩ (.slice (some ⟨b, off + i * 48, none⟩) 48 48)) := hO.setCell (p := ⟨g, i, none⟩) (.inl rfl) _
      clear hGi hO
      go_wp2_with fail
      case roundEnd => exact ⟨⟨i + 1, by omega, by simp, hset, hO2⟩, by simp [intOf]; omega⟩
    · obtain rfl : i = n := by omega
      have hd : decide ((i : Int) < (i : Int)) = false := by simp
      have hdn : decide (i < i) = false := by simp
      have hbq : Below w.heap.size w wq := (hB.trans (hbV.mono (Nat.le_of_lt hwg))).trans (hO.below (Nat.le_trans hB.size hbV.size) (by rintro k rfl; exact Nat.le_of_lt hwg))
      have hRq : Arr wq w.heap.size 29 (Lib.byteCells zeros) := (hR.below hbV hwg).only hO (by omega)
      have hrq : ∀ j, j < i → wq.rangeAt b (off + j * 48) (Lib.byteCells (bs.getD j [])) := fun j hj k v hv => (hbq.cell (p := ⟨b, _, none⟩) hb).trans (hr j hj k v hv)
      have hrows := rowCells_rows Hn.out hGi (Nat.lt_of_lt_of_le hb hbq.size) h48 hrq
      go_wp2_with fail
      go_at_call 47
      refine Calls.mono (root_at bs RL (some ⟨g, 0, none⟩) i i wq Hn.out HRL.out (by omega) (Nat.le_refl _) (by omega) (fun r hr => by have := h48 r hr; omega) hrows) ?_
      rintro e w5 ⟨rfl, hb5⟩
      have hR5 := Lib.hid (hRq.below hb5 hRq.lt)
      have hB5 := hbq.trans (hb5.mono hbq.size)
      clear hRq hb5 hrows hrq hbq
      go_wp2_with (first
        | (refine wpList_store_row rfl _ _ _ rfl w.heap.size RL.toArray rfl rfl 29 (Lib.byteCells zeros).toArray hR5.out HI.out HS.out H1.out ?_))
      have hset : Arr (w5.setRow w.heap.size RL.toArray) w.heap.size 29 RL := Arr.setRow hR5.out RL
      have hfin : Below w.heap.size w (w5.setRow w.heap.size RL.toArray) := hB5.trans (((Only.refl (fun k => k = w.heap.size) w5).setRow (.inl rfl) RL.toArray).below hB5.size (by rintro k rfl; exact Nat.le_refl _))
      exact bodyPost_ret (v := .agg RL.toArray) (results_cell_row (by rfl) _ _ w.heap.size 29 RL.toArray (0, 0) _ (by rfl) hset Try.underlying29 rfl HI.out) rfl ⟨rfl, hfin⟩


end Go.Proofs.Ytccccpadnaocfaa

/-
  The document's own Less (R8Less, for index's seat), and that it is ltD.
-/
import Derived.Test.YtfelacpaaialfaaDoorIxItem
import Derived.Test.YtfelacpaaialfaaDoorArr
import Derived.Deep.DeepCutAuto
import Derived.Deep.CutBlock
import Derived.IntWalk
namespace Go.Proofs.YtfelacpaaialfaaDoor
open Go.RowKit
set_option linter.unusedVariables false
set_option linter.unusedSimpArgs false

/-- Is a row of bytes less than another one? -/
def lessF : List UInt8 → List UInt8 → Bool
  | a :: xs, b :: ys => if a = b then lessF xs ys else decide (a.toNat < b.toNat)
  | _, _ => false
theorem lessF_cons (a b : UInt8) (xs ys : List UInt8) : lessF (a :: xs) (b :: ys) = if a = b then lessF xs ys else decide (a.toNat < b.toNat) := rfl
theorem lessF_drop {a b : List UInt8} {i x y : Nat} (ha : i < a.length) (hb : i < b.length) (hx : (a.getD i 0).toNat = x) (hy : (b.getD i 0).toNat = y) :
    lessF (a.drop i) (b.drop i) = if x = y then lessF (a.drop (i + 1)) (b.drop (i + 1)) else decide (x < y) := by
  rw [List.drop_eq_getElem_cons ha, List.drop_eq_getElem_cons hb]
  have e1 : a.getD i 0 = a[i] := by simp [List.getD, ha]
  have e2 : b.getD i 0 = b[i] := by simp [List.getD, hb]
  rw [e1] at hx
  rw [e2] at hy
  rw [lessF_cons]
  by_cases h : a[i] = b[i]
  · rw [if_pos h, if_pos (by rw [← hx, ← hy, h])]
  · rw [if_neg h, if_neg (fun e => h (UInt8.toNat_inj.1 (by rw [hx, hy, e]))), hx, hy]

set_option maxHeartbeats 4000000 in
set_option maxRecDepth 100000 in
theorem less_run (a b : List UInt8) (ha : a.length = 32) (hb : b.length = 32) (AL BL : List Value) (hAL : AL = Lib.byteCells a) (hBL : BL = Lib.byteCells b) (r : Bool) (hr : lessF a b = r) (w : World) :
    Calls Tryd.prog 36 #[.agg AL.toArray, .agg BL.toArray] w fun e w' => e = .returned (.bool r) ∧ Below w.heap.size w w' := by
  obtain ⟨W1, hW1⟩ : ∃ W1, W1 = w.alloc (.cells AL.toArray 39) := ⟨_, rfl⟩
  obtain ⟨W2, hW2⟩ : ∃ W2, W2 = W1.alloc (.cells BL.toArray 39) := ⟨_, rfl⟩
  have hA1 : Arr W1 w.heap.size 39 AL := by rw [hW1]; exact Arr.new w _ _
  have hb1 : Below w.heap.size w W1 := by rw [hW1]; exact (Below.refl _ w).alloc (Nat.le_refl _) _
  have hz1 : W1.heap.size = w.heap.size + 1 := by rw [hW1]; simp
  have hA2 : Arr W2 w.heap.size 39 AL := by rw [hW2]; exact hA1.alloc _
  obtain ⟨g, hg⟩ : ∃ g, g = w.heap.size + 1 := ⟨_, rfl⟩
  have hB2 : Arr W2 g 39 BL := by rw [hW2, hg, ← hz1]; exact Arr.new W1 _ _
  have hb2 : Below w.heap.size w W2 := by rw [hW2]; exact hb1.alloc hb1.size _
  have HW1 := Lib.hid hW1
  have HW2 := Lib.hid hW2
  have Hg := Lib.hid hg
  have HAL := Lib.hid hAL
  have HBL := Lib.hid hBL
  have Hr0 : Hid (lessF (a.drop 0) (b.drop 0) = r) := hr
  clear hW1 hW2 hg hA1 hb1 hz1 hAL hBL hr
  go_enter Tryd.func36, Tryd.ntmps36
  go_upto_region 1 with fail
  change Code.wp _ _ _ _ ((w.alloc (.cells AL.toArray 39)).alloc (.cells BL.toArray 39))
  rw [← HW1.out, ← HW2.out, ← Hg.out]
  clear HW1 HW2 Hg
  go_upto_region 2 with fail
  go_loopw [5] (fun x wr => ∃ i : Nat, i ≤ 32 ∧ x = .int .i64 i ∧ Arr wr w.heap.size 39 AL ∧ Arr wr g 39 BL ∧ Below w.heap.size w wr ∧ Hid (lessF (a.drop i) (b.drop i) = r)) (fun x _ => 32 - (intOf x).toNat)
  case atStart => exact ⟨0, by omega, rfl, hA2, hB2, hb2, Hr0⟩
  case round =>
    clear hA2 hB2 hb2 Hr0
    obtain ⟨i, hi32, rfl, hA, hB, hbw, Hr⟩ := hrel
    by_cases hlt : i < 32
    · obtain ⟨x, hx⟩ : ∃ x, (a.getD i 0).toNat = x := ⟨_, rfl⟩
      obtain ⟨y, hy⟩ : ∃ y, (b.getD i 0).toNat = y := ⟨_, rfl⟩
      have hd := Hr.out
      rw [lessF_drop (by omega) (by omega) hx hy] at hd
      have hx256 : x < 256 := by rw [← hx]; exact UInt8.toNat_lt _
      have hy256 : y < 256 := by rw [← hy]; exact UInt8.toNat_lt _
      have hcx : wr.cell? ⟨w.heap.size, i, none⟩ = some (.int .u8 (x : Nat)) := by rw [hA.cell, HAL.out, ← hx]; exact byteCells_get (by omega)
      have hcy : wr.cell? ⟨g, i, none⟩ = some (.int .u8 (y : Nat)) := by rw [hB.cell, HBL.out, ← hy]; exact byteCells_get (by omega)
      have hd1 : decide ((i : Int) < (32 : Int)) = true := by simp; omega
      have hi2 : (i : Int) < 32 := by omega
      by_cases hxy : x = y
      · rw [if_pos hxy] at hd
        have Hd := Lib.hid hd
        subst hxy
        clear hd hx hy Hr
        go_upto_region 4 with fail
        go_quiet (fail)
        go_wp2_with fail
        go_roundw
        case rel => exact ⟨i + 1, by omega, by go_num, hA.drewN _, hB.drewN _, Below.dN hbw _, Hd⟩
        case measure => simp [intOf]; omega
      · rw [if_neg hxy] at hd
        have hne : ((x : Int) == (y : Int)) = false := by rw [beq_eq_false_iff_ne]; omega
        have hd2 : decide (x < y) = r := hd
        clear hd hx hy Hr
        go_upto_region 4 with fail
        go_quiet (fail)
        go_wp2_with fail
        go_quiet (fail)
        go_wp2_with fail
        go_ret
        refine ⟨?_, ?_⟩
        · first | rfl | (rw [hd2]; rfl)
        · first | exact Below.dN (Below.dN hbw _) _ | exact Below.dN hbw _
    · obtain rfl : i = 32 := by omega
      have hd1 : decide (((32 : Nat) : Int) < (32 : Int)) = false := by simp
      have hd := Hr.out
      rw [List.drop_of_length_le (by omega)] at hd
      have hr : r = false := by rw [← hd]; unfold lessF; rfl
      subst hr
      go_wp2_with fail
      go_ret
      exact ⟨rfl, hbw⟩

/-- On rows of one length Less is the bytes' order. -/
theorem lessF_ltD : ∀ (a b : List UInt8), a.length = b.length → lessF a b = ltD a b
  | [], [], _ => rfl
  | a :: x, b :: y, h => by
    rw [lessF_cons]
    unfold ltD
    by_cases e : a = b
    · subst e
      rw [if_pos rfl, if_neg (by omega), if_neg (by omega)]
      exact lessF_ltD x y (by simpa using h)
    · rw [if_neg e]
      have hne : a.toNat ≠ b.toNat := fun h => e (UInt8.toNat_inj.1 h)
      by_cases hlt : a.toNat < b.toNat
      · rw [if_pos hlt, decide_eq_true hlt]
      · rw [if_neg hlt, if_pos (by omega), decide_eq_false hlt]
theorem iless_any (a b : List UInt8) (ha : a.length = 32) (hb : b.length = 32) (AL BL : List Value) (hAL : AL = Lib.byteCells a) (hBL : BL = Lib.byteCells b) (w : World) :
    Calls Tryd.prog 36 #[.agg AL.toArray, .agg BL.toArray] w fun e w' => e = .returned (.bool (ltD a b)) ∧ Below w.heap.size w w' :=
  less_run a b ha hb AL BL hAL hBL _ (lessF_ltD a b (by rw [ha, hb])) w

end Go.Proofs.YtfelacpaaialfaaDoor

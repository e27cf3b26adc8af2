/-
  An index in memory; a new one.
-/
import Derived.Test.YtfelacpaaialfaaDoorIxMem
import Derived.Test.YtfelacpaaialfaaDoorIxCmp
namespace Go.Proofs.YtfelacpaaialfaaDoor
open Go.RowKit
set_option linter.unusedVariables false
set_option linter.unusedSimpArgs false

theorem World.ownsMap.at_ {H : Type} {P : Program} {k : TypeId} {R : Value → Option (DataW H × List MemPlace)} {w w' : World} {b n : Nat} {D : DataW H} (h : w.ownsMap P k R b n D) (he : w'.heap[b]? = w.heap[b]?) : w'.ownsMap P k R b n D := by
  obtain ⟨es, clock, hb, F, hs, hD⟩ := h
  exact ⟨es, clock, he.trans hb, F, hs, hD⟩

/-- An index at block s, its map at block mb. -/
structure IxQ (w : World) (s mb : Nat) (L : List Ix) : Prop where
  hs : Arr w s 55 [.map (some mb)]
  hm : w.ownsMap Tryd.prog 39 stR mb L.length (ixD L)
  ne : s ≠ mb
theorem IxQ.lt {w : World} {s mb : Nat} {L : List Ix} (h : IxQ w s mb L) : s < w.heap.size ∧ mb < w.heap.size := ⟨h.hs.lt, World.ownsMap.lt h.hm⟩
theorem IxQ.kept {w w' : World} {s mb : Nat} {L : List Ix} (h : IxQ w s mb L) (h1 : w'.heap[s]? = w.heap[s]?) (h2 : w'.heap[mb]? = w.heap[mb]?) : IxQ w' s mb L := ⟨h1.trans h.hs, World.ownsMap.at_ h.hm h2, h.ne⟩
theorem IxQ.up {w w' : World} {s mb : Nat} {L : List Ix} (h : IxQ w s mb L) (hb : Below w.heap.size w w') : IxQ w' s mb L := h.kept (hb.block _ h.lt.1) (hb.block _ h.lt.2)

set_option maxHeartbeats 4000000 in
set_option maxRecDepth 100000 in
theorem inew_any (w : World) :
    Calls Tryd.prog 11 #[] w fun e w' => e = .returned (.pointer (some ⟨w.heap.size + 1, 0, none⟩)) ∧ IxQ w' (w.heap.size + 1) w.heap.size [] ∧ Below w.heap.size w w' := by
  have hmk := @run_makeMap Tryd.prog
  obtain ⟨mb, hmb⟩ : ∃ z, z = w.heap.size := ⟨_, rfl⟩
  obtain ⟨w2, hw2⟩ : ∃ z, z = (w.alloc (.map #[] 0)).alloc (.cells #[.map (some mb)] 55) := ⟨_, rfl⟩
  have hb12 : Below w.heap.size w w2 := by rw [hw2]; exact ((Below.refl _ _).alloc (Nat.le_refl _) _).alloc (by simp) _
  have hQ : IxQ w2 (mb + 1) mb [] := by
    refine ⟨?_, ?_, by omega⟩
    · have := Arr.new (w.alloc (.map #[] 0)) 55 [.map (some mb)]
      rw [hw2, hmb]
      rw [hmb] at this
      simpa using this
    · rw [hw2, hmb]
      exact (World.ownsMap_made (H := Unit) w Tryd.prog 39 stR).alloc _
  have Hw2 := Lib.hid hw2
  have Hmb := Lib.hid hmb
  rw [← hmb]
  rw [← hmb] at hb12
  clear hw2 hmb
  go_enter Tryd.func11, Tryd.ntmps11
  go_wp2_with fail
  rw [← Hmb.out]
  rw [← Hw2.out]
  go_ret
  exact ⟨rfl, hQ, hb12⟩

end Go.Proofs.YtfelacpaaialfaaDoor

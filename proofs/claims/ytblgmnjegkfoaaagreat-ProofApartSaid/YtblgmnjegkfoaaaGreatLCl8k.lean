/-
  The cells of a call of the laws: its key, its value.
-/
import Derived.Test.YtblgmnjegkfoaaaGreatLCalls8Arg
namespace Go.Proofs.YtblgmnjegkfoaaaGreat
open Go.RowKit
set_option linter.unusedVariables false
set_option linter.unusedSimpArgs false

theorem cl8k_key {w : World} {b : Nat} {x : Cl8} {T : TypeId} (h : Arr w b T (clC x)) (XL : List Value) (hX : XL = Lib.byteCells x.itm.key) : w.rangeAt b 1 XL := fun j v hj => by
  have := h.cell (1 + j)
  rw [this]
  subst hX
  unfold clC itC
  rw [Nat.add_comm, List.getElem?_cons_succ, List.getElem?_append_left (List.getElem?_eq_some_iff.1 hj).1]
  exact hj
theorem cl8k_val {w : World} {b : Nat} {x : Cl8} {T : TypeId} (h : Arr w b T (clC x)) (h32 : x.itm.key.length = 32) : w.cell? ⟨b, 33, none⟩ = some (.slice x.itm.adr x.itm.val.length x.itm.cap) := by
  rw [h.cell]
  unfold clC itC
  rw [List.getElem?_cons_succ, List.getElem?_append_right (by rw [Lib.byteCells_length, h32]; exact Nat.le_refl _), Lib.byteCells_length, h32]
  rfl

end Go.Proofs.YtblgmnjegkfoaaaGreat

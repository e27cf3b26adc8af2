/-
  The document's own In: Bytes, Done.
-/
import Derived.Test.YtfelacpaaialfaaDoorDigF
import Derived.Test.YtfelacpaaialfaaDoorRefTake
namespace Go.Proofs.YtfelacpaaialfaaDoor
open Go.RowKit
set_option linter.unusedVariables false

def rbF (most : Int) (L : List UInt8) (o : Nat) (wr : Bool) : List UInt8 × Nat × Bool :=
  if most < 0 then ([], o, true) else takeF (rnF most.toNat L o wr).1 L (rnF most.toNat L o wr).2.1 (rnF most.toNat L o wr).2.2

def RBytesPost (q : Nat) (most : Int) (L : List UInt8) (A : Option Addr) (c o : Nat) (wr : Bool) (w : World) (e : Ending) (w' : World) : Prop :=
  ∃ v, e = .returned v ∧ Owns w' w.heap.size 5 v (rbF most L o wr).1 ∧ RIn w' q L A c (rbF most L o wr).2.1 (rbF most L o wr).2.2 ∧ Turn q w w'

theorem rnF_bounds (most : Nat) (L : List UInt8) (o : Nat) (wr : Bool) (ho : o ≤ L.length) : (rnF most L o wr).1 ≤ most ∧ (rnF most L o wr).2.1 ≤ L.length := by
  unfold rnF
  split
  · exact ⟨Nat.zero_le _, ho⟩
  · exact ⟨numF_le _ _, by simp only; omega⟩

theorem RFix.turn {w w' : World} {q : Nat} {L : List UInt8} {A : Option Addr} {c : Nat} (h : RFix w q L A c) (ht : Turn q w w') (hq : q < w.heap.size) : RFix w' q L A c :=
  ⟨h.le, h.lim, h.cap, ht.bs hq h.bytes⟩

set_option maxHeartbeats 2000000 in
set_option maxRecDepth 100000 in
theorem rdone_in (q : Nat) (L : List UInt8) (A : Option Addr) (c o : Nat) (wr : Bool) (w : World) (h : RIn w q L A c o wr) (hf : RFix w q L A c) :
    Calls Tryd.prog 24 #[.pointer (some ⟨q, 0, none⟩)] w fun e w' => e = .returned (.int .i64 (doneF (L.drop o) wr)) ∧ ∃ k, w' = w.drewN k := by
  obtain ⟨c0, c1, c2, f0, f1, f2⟩ := h.cells
  obtain ⟨hle, hlim, hcap, hb⟩ := hf
  have hd : doneF (L.drop o) wr = if wr = true ∨ 0 < (L.drop o).length then 3 else 0 := rfl
  rw [List.length_drop] at hd
  clear h hle hcap hb
  cases wr with
  | true =>
    rw [if_pos (.inl rfl)] at hd
    have HD := Lib.hid hd
    clear hd
    go_enter Tryd.func24, Tryd.ntmps24
    go_wp2
    go_quiet (fail)
    go_wp2
    go_ret
    exact ⟨by rw [HD.out]; rfl, _, rfl⟩
  | false =>
    by_cases hp : o < L.length
    · rw [if_pos (.inr (by omega))] at hd
      have HD := Lib.hid hd
      have hpd : decide ((o : Int) < (L.length : Int)) = true := by simp; omega
      clear hd
      go_enter Tryd.func24, Tryd.ntmps24
      go_wp2
      go_quiet (fail)
      go_wp2
      go_ret
      exact ⟨by rw [HD.out]; rfl, _, rfl⟩
    · rw [if_neg (by simp; omega)] at hd
      have HD := Lib.hid hd
      have hpd : decide ((o : Int) < (L.length : Int)) = false := by simp; omega
      clear hd
      go_enter Tryd.func24, Tryd.ntmps24
      go_wp2
      go_quiet (fail)
      go_wp2
      go_ret
      exact ⟨by rw [HD.out]; rfl, _, rfl⟩

end Go.Proofs.YtfelacpaaialfaaDoor

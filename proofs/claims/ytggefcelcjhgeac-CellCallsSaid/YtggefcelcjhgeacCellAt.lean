/-
  The cell's contracts, their arrays said by the caller; '==' on arrays, whatever they hold.
-/
import Derived.Test.YtggefcelcjhgeacCellLoad
import Derived.Test.YtggefcelcjhgeacCellRef
import Derived.Test.YtggefcelcjhgeacCellSpeaks
import Derived.Test.YtggefcelcjhgeacArrArg
namespace Go.Proofs.Ytggefcelcjhgeac
open Go.RowKit
set_option linter.unusedVariables false

theorem new_at (n : Nat) (d : List UInt8) (VL : List Value) (w : World) (hd : d.length = 32) (hV : VL = Lib.byteCells d) :
    Calls Try.prog 18 #[.int .u64 (n : Nat), .agg VL.toArray] w (NewPost n d w) := by
  subst hV; exact new_any n d w hd

theorem get_at (g n : Nat) (d : List UInt8) (VL : List Value) (w : World) (hd : d.length = 32) (hV : VL = Lib.byteCells d) (h : Arr w g 73 (cellC n d)) :
    Calls Try.prog 19 #[.pointer (some ⟨g, 0, none⟩)] w fun e w' => e = .returned (.tuple #[.int .u64 (n : Nat), .agg VL.toArray]) ∧ Below w.heap.size w w' := by
  subst hV; exact get_any g n d w hd h

theorem cbytes_at (g n : Nat) (d : List UInt8) (BL : List Value) (w : World) (hn : n < 18446744073709551616) (hd : d.length = 32) (hB : BL = Lib.byteCells (cellF n d)) (h : Arr w g 73 (cellC n d)) :
    Calls Try.prog 21 #[.pointer (some ⟨g, 0, none⟩)] w fun e w' => e = .returned (.agg BL.toArray) ∧ Below w.heap.size w w' := by
  subst hB; exact cbytes_any g n d w hn hd h

theorem rbytes_at (n : Nat) (d : List UInt8) (VL BL : List Value) (w : World) (hn : n < 18446744073709551616) (hd : d.length = 32) (hV : VL = Lib.byteCells d) (hB : BL = Lib.byteCells (cellF n d)) :
    Calls Try.prog 22 #[.int .u64 (n : Nat), .agg VL.toArray] w fun e w' => e = .returned (.agg BL.toArray) ∧ Below w.heap.size w w' := by
  subst hB hV; exact rbytes_any n d w hn hd

theorem load_at (n : Nat) (d : List UInt8) (BL : List Value) (w : World) (hn : n < 18446744073709551616) (hd : d.length = 32) (hB : BL = Lib.byteCells (cellF n d)) :
    Calls Try.prog 20 #[.agg BL.toArray] w (NewPost n d w) := by
  have h1 : (cellF n d).take 8 = bytes8 n := by unfold cellF; rw [List.take_append_of_le_length (by rw [bytes8_length]; omega), List.take_of_length_le (by rw [bytes8_length]; omega)]
  have h2 : (cellF n d).drop 8 = d := by unfold cellF; rw [List.drop_append_of_le_length (by rw [bytes8_length]; omega), List.drop_of_length_le (by rw [bytes8_length]; omega), List.nil_append]
  have h := load_any (cellF n d) w (cellF_length hd)
  rw [h1, h2, un8_bytes8 hn] at h
  subst hB; exact h

theorem advance_at (g n : Nat) (d r : List UInt8) (RL : List Value) (w : World) (hn : n < 18446744073709551616) (hd : d.length = 32) (hr : r.length = 32) (hR : RL = Lib.byteCells r) (h : Arr w g 73 (cellC n d)) :
    Calls Try.prog 23 #[.pointer (some ⟨g, 0, none⟩), .agg RL.toArray] w (AdvPost g n d r w) := by
  subst hR; exact advance_any g n d r w hn hd hr h

theorem eqv_at {T : TypeId} {n : Nat} (hT : Try.prog.underlying T = some (.array n 5)) (X Y : List UInt8) (hX : X.length = n) (hY : Y.length = n) (XL YL : List Value) (hXL : XL = Lib.byteCells X) (hYL : YL = Lib.byteCells Y) (w : World) :
    (Op.equalIn 10000 T (.agg XL.toArray) (.agg YL.toArray)).run Try.prog w = .ok (decide (X = Y)) w := by
  subst hXL hYL
  have hi : Try.prog.info? 5 = some ((Try.prog.info? 5).get (by kernel_rfl)) := (Option.some_get _).symm
  have h1 := run_equalIn_array (P := Try.prog) (w := w) 9999 (Lib.byteCells X).toArray (Lib.byteCells Y).toArray hT hi
  have hc : Try.prog.cellsOf 5 = 1 := by kernel_rfl
  rw [hc, eqItems_bytes 9998 X Y w (List.range n) (fun i hi => by have := List.mem_range.1 hi; omega), all_getD hX hY] at h1
  exact h1
theorem gt40 : Try.prog.eqGuardType Try.prog.depth 51 = false := by kernel_rfl
theorem gt32 : Try.prog.eqGuardType Try.prog.depth 44 = false := by kernel_rfl

/-- A new block, filled at once. -/
theorem alloc_row (w : World) (T : TypeId) (Z : Array Value) (VL : List Value) : Arr ((w.alloc (.cells Z T)).setRow w.heap.size VL.toArray) w.heap.size T VL ∧ Below w.heap.size w ((w.alloc (.cells Z T)).setRow w.heap.size VL.toArray) := by
  have h1 : Below w.heap.size w (w.alloc (.cells Z T)) := (Below.refl _ w).alloc (Nat.le_refl _) _
  exact ⟨setRow_heap (w.alloc (.cells Z T)) w.heap.size Z VL.toArray T (0, 0) (heap_alloc_new w _), h1.trans (((Only.refl (fun k => k = w.heap.size) _).setRow (.inl rfl) _).below h1.size (by rintro k rfl; omega))⟩

theorem Arr.up {w w' : World} {g : Nat} {T : TypeId} {cs : List Value} (h : Arr w g T cs) (hb : Below w.heap.size w w') : Arr w' g T cs := h.below hb h.lt

end Go.Proofs.Ytggefcelcjhgeac

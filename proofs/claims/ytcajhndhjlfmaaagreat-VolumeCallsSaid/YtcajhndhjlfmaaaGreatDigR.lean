/-
  How an array of 32 bytes reads as an element of a map.
-/
import Derived.Test.YtcajhndhjlfmaaaGreatGen
import Derived.Maps.OwnSet
namespace Go.Proofs.YtcajhndhjlfmaaaGreat
open Go.RowKit

theorem byteCells_inj {a b : List UInt8} (h : Lib.byteCells a = Lib.byteCells b) : a = b := by
  have hl : a.length = b.length := by have := congrArg List.length h; simpa [Lib.byteCells_length] using this
  refine List.ext_getElem hl fun j h1 h2 => ?_
  have e1 := byteCells_get h1
  have e2 := byteCells_get h2
  rw [h, e2] at e1
  simp only [Option.some.injEq, Value.int.injEq, true_and] at e1
  have e3 : (b.getD j 0).toNat = (a.getD j 0).toNat := by omega
  have e4 := UInt8.toNat_inj.1 e3
  simp only [List.getD, List.getElem?_eq_getElem h1, List.getElem?_eq_getElem h2, Option.getD_some] at e4
  exact e4.symm
/-- How a digest in a map reads. -/
noncomputable def digR (v : Value) : Option (DataW Unit × List MemPlace) :=
  open Classical in if h : ∃ d : List UInt8, d.length = 32 ∧ v = .agg (Lib.byteCells d).toArray then some (.lit (.string (Classical.choose h)), []) else none
theorem digR_mk {d : List UInt8} (hd : d.length = 32) : digR (.agg (Lib.byteCells d).toArray) = some (.lit (.string d), []) := by
  have h : ∃ d' : List UInt8, d'.length = 32 ∧ Value.agg (Lib.byteCells d).toArray = .agg (Lib.byteCells d').toArray := ⟨d, hd, rfl⟩
  unfold digR
  rw [dif_pos h]
  have hs : Value.agg (Lib.byteCells d).toArray = .agg (Lib.byteCells (Classical.choose h)).toArray := (Classical.choose_spec h).2
  have hs2 : Lib.byteCells d = Lib.byteCells (Classical.choose h) := by injection hs with hs; exact List.toArray_inj hs
  have hs3 : Classical.choose h = d := (byteCells_inj hs2).symm
  rw [hs3]
theorem digR_inv {v : Value} {d : List UInt8} {ps : List MemPlace} (h : digR v = some (.lit (.string d), ps)) : d.length = 32 ∧ v = .agg (Lib.byteCells d).toArray := by
  unfold digR at h
  split at h
  · rename_i hx
    simp only [Option.some.injEq, Prod.mk.injEq, DataW.lit.injEq, Lit.string.injEq] at h
    have hs := Classical.choose_spec hx
    rw [h.1] at hs
    exact hs
  · cases h
theorem zeroDig (w : World) : (zeroValue 29).run Tryz.prog w = .ok (.agg (Lib.byteCells zeros).toArray) w := by kernel_rfl

end Go.Proofs.YtcajhndhjlfmaaaGreat

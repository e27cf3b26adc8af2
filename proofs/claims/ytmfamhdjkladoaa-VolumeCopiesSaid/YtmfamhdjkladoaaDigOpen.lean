/-
  An argument that is a digest, opened.
-/
import Derived.Test.YtmfamhdjkladoaaGen
import Derived.Deep.Slices
import Derived.Deep.Fields
import Derived.ChangeSame
import Derived.OpenShut
namespace Go.Proofs.Ytmfamhdjkladoaa
open Go.RowKit Go.ChangeShapes Go.WideShapes
set_option linter.unusedVariables false

set_option maxRecDepth 100000 in
theorem arr_open {H : Type} {enc : TypeId × Value → H} {W : World} {r : Reach} {b0 base : Nat} {sp : Nat → Bool} {held : Bool} {T : TypeId} {n : Nat} {v : Value} {d : DataW H} {p : List MemPlace} (hT : Try.prog.underlying T = some (.array n 5)) (hC : Try.prog.cellsOf T = n)
    (hv : Value.okWide Try.prog W r b0 T v) (h : DataW.Trod enc Try.prog W base sp held T v d p) : ∃ l : List UInt8, l.length = n ∧ v = digV l := by
  obtain ⟨cs, rfl, hsz, _⟩ : ∃ cs, v = .agg cs ∧ cs.size = Try.prog.cellsOf T ∧ Row.okWide Try.prog W r b0 T cs := by
    simpa [Value.okWide, hT] using hv
  obtain ⟨fuel, hf⟩ := h
  obtain ⟨xs, m, _, _, hlen, hn, hel⟩ := DataW.trod_array hT hf
  obtain ⟨l⟩ := cs
  rw [hC] at hsz
  have hl : l.length = n := hsz
  have hc1 : Try.prog.cellsOf 5 = 1 := by kernel_rfl
  have hall : ∀ i, i < n → ∃ b : UInt8, l[i]? = some (.int .u8 (b.toNat : Nat)) := by
    intro i hi
    have h1 := hel i hi
    rw [hc1, Nat.mul_one] at h1
    have hx : xs[i]? = some (xs[i]'(by omega)) := List.getElem?_eq_getElem (by omega)
    rw [hx] at h1
    have hcs : (Value.agg l.toArray).cells.toList = l := by simp [Value.cells]
    have hd : ((l.drop i).take 1) = [l[i]'(by omega)] := by rw [List.drop_eq_getElem_cons (by omega)]; rfl
    have h2 : DataW.trod enc Try.prog W base sp held m 5 [l[i]'(by omega)] = some (xs[i]'(by omega)) := by
      rw [← hd]
      simpa [Value.cells] using h1
    obtain ⟨k, e, _, hw⟩ := DataW.trod_int Try.underlying5 h2
    have hb := bounds_u8 hw
    simp only [List.cons.injEq, and_true] at e
    refine ⟨k.toNat.toUInt8, ?_⟩
    rw [List.getElem?_eq_getElem (by omega), e, Lib.toUInt8_toNat (by omega), Int.toNat_of_nonneg hb.1]
  have hch : ∃ f : Nat → UInt8, ∀ i, i < n → l[i]? = some (.int .u8 ((f i).toNat : Nat)) := by
    classical
    refine ⟨fun i => if hi : i < n then Classical.choose (hall i hi) else 0, fun i hi => ?_⟩
    simp only [dif_pos hi]
    exact Classical.choose_spec (hall i hi)
  obtain ⟨f, hf2⟩ := hch
  refine ⟨(List.range n).map f, by simp, ?_⟩
  unfold digV
  congr 2
  apply List.ext_getElem?
  intro i
  by_cases hi : i < n
  · rw [hf2 i hi]
    simp [Lib.byteCells, hi]
  · rw [List.getElem?_eq_none (by omega), List.getElem?_eq_none (by simp [Lib.byteCells]; omega)]

end Go.Proofs.Ytmfamhdjkladoaa

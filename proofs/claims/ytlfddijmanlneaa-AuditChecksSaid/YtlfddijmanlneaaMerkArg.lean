/-
  Arguments that are a digest, or a slice of them, opened.
-/
import Derived.Test.YtlfddijmanlneaaGen
import Derived.Deep.Slices
import Derived.Deep.Fields
import Derived.ChangeSame
import Derived.OpenShut
namespace Go.Proofs.Ytlfddijmanlneaa
open Go.RowKit Go.ChangeShapes Go.WideShapes
set_option linter.unusedVariables false
set_option maxRecDepth 100000


theorem arr_open {H : Type} {enc : TypeId × Value → H} {W : World} {r : Reach} {b0 base : Nat} {sp : Nat → Bool} {held : Bool} {T : TypeId} {n : Nat} {v : Value} {d : DataW H} {p : List MemPlace} (hT : Try.prog.underlying T = some (.array n 5)) (hC : Try.prog.cellsOf T = n)
    (hv : Value.okWide Try.prog W r b0 T v) (h : DataW.Trod enc Try.prog W base sp held T v d p) : ∃ l : List UInt8, l.length = n ∧ v = digV l := by
  obtain ⟨cs, rfl, hsz, _⟩ : ∃ cs, v = .agg cs ∧ cs.size = Try.prog.cellsOf T ∧ Row.okWide Try.prog W r b0 T cs := by
    simpa [Value.okWide, hT] using hv
  obtain ⟨fuel, hf⟩ := h
  obtain ⟨xs, m, _, _, hlen, hn, hel⟩ := DataW.trod_array hT hf
  obtain ⟨l⟩ := cs
  rw [hC] at hsz
  have hl : l.length = n := hsz
  have hc1 : Try.prog.cellsOf 5 = 1 := by kernel_rfl
  have hall : ∀ i, i < n → ∃ b : UInt8, l[i]? = some (.int .u8 (b.toNat : Nat)) := by
    intro i hi
    have h1 := hel i hi
    rw [hc1, Nat.mul_one] at h1
    have hx : xs[i]? = some (xs[i]'(by omega)) := List.getElem?_eq_getElem (by omega)
    rw [hx] at h1
    have hcs : (Value.agg l.toArray).cells.toList = l := by simp [Value.cells]
    have hd : ((l.drop i).take 1) = [l[i]'(by omega)] := by rw [List.drop_eq_getElem_cons (by omega)]; rfl
    have h2 : DataW.trod enc Try.prog W base sp held m 5 [l[i]'(by omega)] = some (xs[i]'(by omega)) := by
      rw [← hd]
      simpa [Value.cells] using h1
    obtain ⟨k, e, _, hw⟩ := DataW.trod_int Try.underlying5 h2
    have hb := bounds_u8 hw
    simp only [List.cons.injEq, and_true] at e
    refine ⟨k.toNat.toUInt8, ?_⟩
    rw [List.getElem?_eq_getElem (by omega), e, Lib.toUInt8_toNat (by omega), Int.toNat_of_nonneg hb.1]
  have hch : ∃ f : Nat → UInt8, ∀ i, i < n → l[i]? = some (.int .u8 ((f i).toNat : Nat)) := by
    classical
    refine ⟨fun i => if hi : i < n then Classical.choose (hall i hi) else 0, fun i hi => ?_⟩
    simp only [dif_pos hi]
    exact Classical.choose_spec (hall i hi)
  obtain ⟨f, hf2⟩ := hch
  refine ⟨(List.range n).map f, by simp, ?_⟩
  unfold digV
  congr 2
  apply List.ext_getElem?
  intro i
  by_cases hi : i < n
  · rw [hf2 i hi]
    simp [Lib.byteCells, hi]
  · rw [List.getElem?_eq_none (by omega), List.getElem?_eq_none (by simp [Lib.byteCells]; omega)]

/-- Digests in memory, one behind the other. -/
def DigsAt (w : World) (A : Option Addr) (ds : List (List UInt8)) : Prop :=
  0 < ds.length → ∃ b off, A = some ⟨b, off, none⟩ ∧ b < w.heap.size ∧ ∀ i, i < ds.length → (ds.getD i []).length = 32 ∧ w.rangeAt b (off + i * 32) (Lib.byteCells (ds.getD i []))

theorem dig_cells {H : Type} {enc : TypeId × Value → H} {W : World} {base : Nat} {sp : Nat → Bool} {held : Bool} {m : Nat} {cs : List Value} {x : DataW H × List MemPlace} (hl : cs.length = 32) (h : DataW.trod enc Try.prog W base sp held m 24 cs = some x) : ∃ l : List UInt8, l.length = 32 ∧ cs = Lib.byteCells l := by
  have hr : ∃ l : List UInt8, l.length = 32 ∧ (.agg cs.toArray : Value) = digV l := by
    obtain ⟨xs, m', _, _, hlen, hn, hel⟩ := DataW.trod_array Try.underlying24 h
    have hc1 : Try.prog.cellsOf 5 = 1 := by kernel_rfl
    have hall : ∀ i, i < 32 → ∃ b : UInt8, cs[i]? = some (.int .u8 (b.toNat : Nat)) := by
      intro i hi
      have h1 := hel i hi
      rw [hc1, Nat.mul_one] at h1
      have hx : xs[i]? = some (xs[i]'(by omega)) := List.getElem?_eq_getElem (by omega)
      rw [hx] at h1
      have hd : ((cs.drop i).take 1) = [cs[i]'(by omega)] := by rw [List.drop_eq_getElem_cons (by omega)]; rfl
      rw [hd] at h1
      obtain ⟨k, e, _, hw⟩ := DataW.trod_int Try.underlying5 h1
      have hb := bounds_u8 hw
      simp only [List.cons.injEq, and_true] at e
      refine ⟨k.toNat.toUInt8, ?_⟩
      rw [List.getElem?_eq_getElem (by omega), e, Lib.toUInt8_toNat (by omega), Int.toNat_of_nonneg hb.1]
    have hch : ∃ f : Nat → UInt8, ∀ i, i < 32 → cs[i]? = some (.int .u8 ((f i).toNat : Nat)) := by
      classical
      refine ⟨fun i => if hi : i < 32 then Classical.choose (hall i hi) else 0, fun i hi => ?_⟩
      simp only [dif_pos hi]
      exact Classical.choose_spec (hall i hi)
    obtain ⟨f, hf2⟩ := hch
    refine ⟨(List.range 32).map f, by simp, ?_⟩
    unfold digV
    congr 2
    apply List.ext_getElem?
    intro i
    by_cases hi : i < 32
    · rw [hf2 i hi]
      simp [Lib.byteCells, hi]
    · rw [List.getElem?_eq_none (by omega), List.getElem?_eq_none (by simp [Lib.byteCells]; omega)]
  obtain ⟨l, h1, h2⟩ := hr
  refine ⟨l, h1, ?_⟩
  unfold digV at h2
  injection h2 with h2
  simpa using congrArg Array.toList h2

theorem digs_arg {H : Type} {enc : TypeId × Value → H} {W : World} {A : Option Addr} {len cap : Nat} {d : DataW H} {p : List MemPlace} (h : DataW.Trod enc Try.prog W 0 (fun _ => true) true 48 (.slice A len cap) d p) :
    ∃ ds : List (List UInt8), ds.length = len ∧ len ≤ cap ∧ cap ≤ maxLen ∧ DigsAt W A ds := by
  obtain ⟨fuel, hf⟩ := h
  rcases Go.Deep.open_slice Try.underlying48 hf with ⟨h0, _⟩ | ⟨a, len', cap', m, n, D, Pl, hcs, _, hl, hm, hmm, _, hi⟩
  · simp [Value.cells] at h0
    obtain ⟨rfl, rfl, rfl⟩ := h0
    exact ⟨[], rfl, Nat.le_refl _, by unfold maxLen; omega, fun h => absurd h (by simp)⟩
  · simp [Value.cells] at hcs
    obtain ⟨rfl, rfl, rfl⟩ := hcs
    have hC : Try.prog.cellsOf 24 = 32 := by kernel_rfl
    have hle : len ≤ m := by rw [hmm]; split <;> omega
    have hall : ∀ i, i < len → ∃ l : List UInt8, l.length = 32 ∧ ∀ j v, (Lib.byteCells l)[j]? = some v → W.cell? (a.add (i * 32 + j)) = some v := by
      intro i him
      obtain ⟨cs', hc, ht'⟩ := hi i (by omega)
      rw [hC] at hc
      obtain ⟨_, hcl, hat⟩ := World.cells?_some hc
      obtain ⟨l, hl32, rfl⟩ := dig_cells hcl ht'
      refine ⟨l, hl32, fun j v hj => ?_⟩
      have hj32 : j < 32 := by have := (List.getElem?_eq_some_iff.1 hj).1; rw [Lib.byteCells_length] at this; omega
      have h0 := hat j hj32
      rw [Go.Deep.add_add] at h0
      rw [h0, hj]
    have hch : ∃ f : Nat → List UInt8, ∀ i, i < len → (f i).length = 32 ∧ ∀ j v, (Lib.byteCells (f i))[j]? = some v → W.cell? (a.add (i * 32 + j)) = some v := by
      classical
      refine ⟨fun i => if hi : i < len then Classical.choose (hall i hi) else [], fun i hi => ?_⟩
      simp only [dif_pos hi]
      exact Classical.choose_spec (hall i hi)
    clear hall
    obtain ⟨f, hf2⟩ := hch
    refine ⟨(List.range len).map f, by simp, hl, hm, fun hp => ?_⟩
    have hp' : 0 < len := by simpa using hp
    obtain ⟨b, off, spot⟩ := a
    obtain ⟨h32, hc0⟩ := hf2 0 hp'
    have hc00 := hc0 0 _ (byteCells_get (l := f 0) (j := 0) (by omega))
    have hspot : spot = none := by simpa [Addr.add] using World.cell?_spot hc00
    subst hspot
    refine ⟨b, off, rfl, World.block_lt_of_cell? W _ (by simpa [Addr.add] using hc00), fun i hi => ?_⟩
    have hi' : i < len := by simpa using hi
    have hg : ((List.range len).map f).getD i [] = f i := by simp [List.getD, hi']
    rw [hg]
    refine ⟨(hf2 i hi').1, fun j v hj => ?_⟩
    have h1 := (hf2 i hi').2 j v hj
    have hadd : (⟨b, off, none⟩ : Addr).add (i * 32 + j) = ⟨b, off + i * 32 + j, none⟩ := by unfold Addr.add; split <;> simp_all <;> omega
    rwa [hadd] at h1

theorem DigsAt.below {w w' : World} {A : Option Addr} {ds : List (List UInt8)} (h : DigsAt w A ds) (hB : Below w.heap.size w w') : DigsAt w' A ds := fun hn => by
  obtain ⟨b, off, e, hb, hd⟩ := h hn
  refine ⟨b, off, e, Nat.lt_of_lt_of_le hb hB.size, fun i hi => ⟨(hd i hi).1, fun j v hj => ?_⟩⟩
  rw [World.cell?_of_block (hB.block b hb)]
  exact (hd i hi).2 j v hj
theorem DigsAt.take {w : World} {A : Option Addr} {ds : List (List UInt8)} (h : DigsAt w A ds) (k : Nat) : DigsAt w A (ds.take k) := fun hn => by
  rw [List.length_take] at hn
  obtain ⟨b, off, e, hb, hd⟩ := h (by omega)
  refine ⟨b, off, e, hb, fun i hi => ?_⟩
  rw [List.length_take] at hi
  have hg : (ds.take k).getD i [] = ds.getD i [] := by simp [List.getD, show i < k by omega]
  rw [hg]
  exact hd i (by omega)
theorem DigsAt.nil (w : World) (A : Option Addr) : DigsAt w A [] := fun h => absurd h (by simp)

end Go.Proofs.Ytlfddijmanlneaa

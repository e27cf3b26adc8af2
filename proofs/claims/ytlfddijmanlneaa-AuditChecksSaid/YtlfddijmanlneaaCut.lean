/-
  s[k:] and s[:k] of bytes in memory, whatever the address, under one name. No program.
-/
import Derived.Test.YtlfddijmanlneaaArr
import Derived.Laws.Slices
namespace Go.Proofs.Ytlfddijmanlneaa
open Go.RowKit
set_option linter.unusedVariables false

/-- The address of s[k:]. -/
def cutA (A : Option Addr) (c k : Nat) : Option Addr := if c = k then A else A.map (·.add k)

theorem Bs.cutA {w : World} {B : Nat} {A : Option Addr} {l : List UInt8} {c k : Nat} (h : Bs w B A l) (hk : k ≤ l.length) (hc : l.length ≤ c) : Bs w B (cutA A c k) (l.drop k) := fun hn => by
  rw [List.length_drop] at hn
  obtain ⟨b, off, rfl, hb, hcell⟩ := h (by omega)
  unfold Proofs.Ytlfddijmanlneaa.cutA
  rw [if_neg (by omega)]
  refine ⟨b, off + k, ?_, hb, fun j hj => ?_⟩
  · show some _ = some _
    congr 1
    unfold Addr.add
    split <;> simp_all
  · rw [List.length_drop] at hj
    have := hcell (k + j) (by omega)
    rw [show off + k + j = off + (k + j) from by omega, this]
    simp [List.getD, List.getElem?_drop]

theorem Bs.upto {w : World} {B : Nat} {A : Option Addr} {l : List UInt8} (k : Nat) (h : Bs w B A l) : Bs w B A (l.take k) := fun hn => by
  rw [List.length_take] at hn
  obtain ⟨b, off, rfl, hb, hc⟩ := h (by omega)
  refine ⟨b, off, rfl, hb, fun j hj => ?_⟩
  rw [List.length_take] at hj
  rw [hc j (by omega)]
  have : (l.take k).getD j 0 = l.getD j 0 := by simp [List.getD, show j < k from by omega]
  rw [this]

section
variable {P : Program} (T : TypeId) (hT : P.underlying T = some (.slice (P.elem T))) (hs : (P.info? (P.elem T)).map (·.size) = some 1)
include hT hs
theorem run_from (A : Option Addr) (n c i : Nat) (k : IntKind) (z : Int) (hz : z = (i : Int)) (hi : i ≤ n) (w : World) :
    (Instr.sliceAt T (.slice A n c) (some (.int k z)) none none).run P w = .ok (.slice (cutA A c i) (n - i) (c - i)) w := by
  subst hz
  rw [run_sliceAt_slice w T _ _ _ _ hT, run_slice_l w T A n c hT k i (by omega) (by omega)]
  cases hq : P.info? (P.elem T) with
  | none => simp [hq] at hs
  | some i0 =>
    have h1 : i0.size = 1 := by simpa [hq] using hs
    simp [sizeOf, typeInfo, hq, h1, sliced, cutA, Result.andThen]
theorem run_upto (A : Option Addr) (n c i : Nat) (k : IntKind) (z : Int) (hz : z = (i : Int)) (hi : i ≤ c) (w : World) :
    (Instr.sliceAt T (.slice A n c) none (some (.int k z)) none).run P w = .ok (.slice A i c) w := by
  subst hz
  rw [run_sliceAt_slice w T _ _ _ _ hT, run_slice_h w T A n c hT k i (by omega) (by omega)]
  cases hq : P.info? (P.elem T) with
  | none => simp [hq] at hs
  | some i0 =>
    have h1 : i0.size = 1 := by simpa [hq] using hs
    cases A with
    | none => simp [sizeOf, typeInfo, hq, h1, sliced, Result.andThen]
    | some a => simp [sizeOf, typeInfo, hq, h1, sliced, Result.andThen, Addr.add]
end

/-- A new block of one cell, as append reads it. -/
theorem one_new (w : World) (T : TypeId) (v : Value) : ∀ j u, [v][j]? = some u → (w.alloc (.cells #[v] T)).cell? ((⟨w.heap.size, 0, none⟩ : Addr).add j) = some u := by
  intro j u hj
  match j, hj with
  | 0, hj =>
    simp at hj
    subst hj
    have h := (Arr.new w T [v]).cell 0
    simp only [Addr.add, if_true]
    exact h
theorem one_u8 (z : Int) : ∀ u ∈ [Value.int .u8 z], u.oneCell' = true := by intro u hu; simp at hu; subst hu; rfl
theorem one_u32 (z : Int) : ∀ u ∈ [Value.int .u32 z], u.oneCell' = true := by intro u hu; simp at hu; subst hu; rfl

/-- What append of one byte leaves. -/
theorem Owns.more1 {w : World} {B : Nat} {T : TypeId} {v : Value} {l : List UInt8} {z : Int} {x : UInt8} (hz : z = (x.toNat : Nat)) (h : w.ownsRow B T 1 v (l.length + 1) (Lib.byteCells l ++ [.int .u8 z])) : Owns w B T v (l ++ [x]) := by
  subst hz
  unfold Owns
  simpa [Lib.byteCells] using h

/-- How long a slice is. -/
def sliceLen : Value → Nat
  | .slice _ n _ => n
  | _ => 0

/-- As Bs, and not in block g. -/
def BsX (w : World) (g B : Nat) (A : Option Addr) (l : List UInt8) : Prop :=
  0 < l.length → ∃ b off, A = some ⟨b, off, none⟩ ∧ b < B ∧ b ≠ g ∧ ∀ j, j < l.length → w.cell? ⟨b, off + j, none⟩ = some (.int .u8 ((l.getD j 0).toNat : Nat))
theorem BsX.bs {w : World} {g B : Nat} {A : Option Addr} {l : List UInt8} (h : BsX w g B A l) : Bs w B A l := fun hn => by
  obtain ⟨b, off, e, hb, _, hc⟩ := h hn
  exact ⟨b, off, e, hb, hc⟩
theorem BsX.of {w : World} {g B B' : Nat} {A : Option Addr} {l : List UInt8} (h : Bs w B A l) (hg : B ≤ g) (hB : B ≤ B') : BsX w g B' A l := fun hn => by
  obtain ⟨b, off, e, hb, hc⟩ := h hn
  exact ⟨b, off, e, by omega, by omega, hc⟩
theorem BsX.keep {w w' : World} {g B : Nat} {A : Option Addr} {l : List UInt8} (h : BsX w g B A l) (hk : ∀ b, b < B → b ≠ g → w'.heap[b]? = w.heap[b]?) : BsX w' g B A l := fun hn => by
  obtain ⟨b, off, e, hb, hg, hc⟩ := h hn
  exact ⟨b, off, e, hb, hg, fun j hj => (World.cell?_of_block (hk b hb hg)).trans (hc j hj)⟩
theorem BsX.cutA {w : World} {g B : Nat} {A : Option Addr} {l : List UInt8} {c k : Nat} (h : BsX w g B A l) (hk : k ≤ l.length) (hc : l.length ≤ c) : BsX w g B (cutA A c k) (l.drop k) := fun hn => by
  have hn' := hn
  rw [List.length_drop] at hn
  obtain ⟨b, off, rfl, hb, hg, _⟩ := h (by omega)
  obtain ⟨b', off', e, hb', hc'⟩ := (h.bs.cutA hk hc) hn'
  have e2 : Proofs.Ytlfddijmanlneaa.cutA (some ⟨b, off, none⟩) c k = some ⟨b, off + k, none⟩ := by
    unfold Proofs.Ytlfddijmanlneaa.cutA
    rw [if_neg (by omega)]
    show some _ = some _
    congr 1
    unfold Addr.add
    split <;> simp_all
  rw [e2] at e
  injection e with e
  injection e with e3 e4
  subst e3 e4
  exact ⟨b, off + k, e2, hb, hg, hc'⟩

end Go.Proofs.Ytlfddijmanlneaa

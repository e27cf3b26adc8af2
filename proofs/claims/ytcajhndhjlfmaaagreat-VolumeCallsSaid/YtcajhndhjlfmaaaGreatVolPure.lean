/-
  What each call does to a row of volumes, as plain lists. No program.
-/
import Derived.Test.YtcajhndhjlfmaaaGreatVolHas
namespace Go.Proofs.YtcajhndhjlfmaaaGreat
open Go.RowKit
set_option linter.unusedVariables false
set_option linter.unusedSimpArgs false

def vkey (v : Vol) : List UInt8 := v.name.data.toList
def findV (L : List Vol) (nm : ByteArray) : Option Vol := L.find? fun v => decide (vkey v = nm.data.toList)
def hasV (L : List Vol) (nm : ByteArray) : Bool := L.any fun v => decide (vkey v = nm.data.toList)
def insV (x : Vol) : List Vol → List Vol
  | [] => [x]
  | y :: r => if bytesBefore (vkey x) (vkey y) then x :: y :: r else y :: insV x r
def delV (L : List Vol) (nm : ByteArray) : List Vol := L.filter fun v => decide (vkey v ≠ nm.data.toList)
def setV (L : List Vol) (nm : ByteArray) (cs : List Cl) : List Vol := L.map fun v => if vkey v = nm.data.toList then { v with cells := cs } else v
def RiseV (L : List Vol) : Prop := L.Pairwise fun a b => bytesBefore (vkey a) (vkey b) = true
def vs (M : List Vm) : List Vol := M.map (·.v)

theorem vs_find (M : List Vm) (nm : ByteArray) : findV (vs M) nm = (findM M nm).map (·.v) := by
  unfold findV vs findM
  rw [List.find?_map]
  rfl
theorem vs_has (M : List Vm) (nm : ByteArray) : hasV (vs M) nm = hasM M nm := by
  unfold hasV vs hasM
  rw [List.any_map]
  rfl
theorem vs_ins (x : Vm) : ∀ M : List Vm, vs (insM x M) = insV x.v (vs M)
  | [] => rfl
  | y :: r => by
    have ih := vs_ins x r
    show vs (if bytesBefore (key x) (key y) then x :: y :: r else y :: insM x r) = if bytesBefore (key x) (key y) then x.v :: y.v :: vs r else y.v :: insV x.v (vs r)
    split
    · rfl
    · rw [← ih]; rfl
theorem vs_del (M : List Vm) (nm : ByteArray) : vs (delM M nm) = delV (vs M) nm := by
  unfold delM vs delV
  rw [List.filter_map]
  rfl
theorem vs_set (M : List Vm) (nm : ByteArray) (cs : List Cl) : vs (setM M nm cs) = setV (vs M) nm cs := by
  unfold setM vs setV
  rw [List.map_map, List.map_map]
  apply List.map_congr_left
  intro m _
  show (if key m = nm.data.toList then { m with v := { m.v with cells := cs } } else m).v = if key m = nm.data.toList then { m.v with cells := cs } else m.v
  by_cases h : key m = nm.data.toList
  · rw [if_pos h, if_pos h]
  · rw [if_neg h, if_neg h]
theorem vs_length (M : List Vm) : (vs M).length = M.length := by simp [vs]

def createL (L : List Vol) (nm : ByteArray) (q : Int) : List Vol × Int :=
  if (namedB nm.data.toList && quotaB q) = false then (L, 1) else if hasV L nm = true then (L, 6) else (insV ⟨nm, q.toNat, false, []⟩ L, 0)
def copyL (L : List Vol) (nm other : ByteArray) (q : Int) (fr : Bool) : List Vol × Int :=
  if (namedB other.data.toList && quotaB q) = false then (L, 1) else
  match findV L nm with
  | none => (L, 5)
  | some v => if hasV L other = true then (L, 6) else if q < v.cells.length then (L, 8) else (insV ⟨other, q.toNat, fr, v.cells⟩ L, 0)
def deleteL (L : List Vol) (nm : ByteArray) : List Vol × Int := if hasV L nm = true then (delV L nm, 0) else (L, 5)
def getL (L : List Vol) (nm : ByteArray) (n : Int) : List UInt8 × Bool × Int :=
  match findV L nm with
  | none => (zeros, false, 5)
  | some v => if numB n = true then (atC v.cells n, hasC v.cells n, 0) else (zeros, false, 2)
def putL (L : List Vol) (nm : ByteArray) (n : Int) (f : List UInt8) : List Vol × List UInt8 × Bool × Int :=
  match findV L nm with
  | none => (L, zeros, false, 5)
  | some v => if numB n = true then if v.frozen = true then (L, zeros, false, 10) else if hasC v.cells n = false ∧ v.quota ≤ v.cells.length then (L, zeros, false, 8) else (setV L nm (putC v.cells n.toNat f), atC v.cells n, hasC v.cells n, 0) else (L, zeros, false, 2)
def dropL (L : List Vol) (nm : ByteArray) (n : Int) : List Vol × List UInt8 × Bool × Int :=
  match findV L nm with
  | none => (L, zeros, false, 5)
  | some v => if numB n = true then if v.frozen = true then (L, zeros, false, 10) else (setV L nm (delC v.cells n.toNat), atC v.cells n, hasC v.cells n, 0) else (L, zeros, false, 2)

/-- A set at block s holds these volumes. -/
def SetL (w : World) (F : Nat → Prop) (s : Nat) (L : List Vol) : Prop := ∃ M, SetW w F s M ∧ vs M = L
theorem SetL.only {R : Nat → Prop} {w w' : World} {F : Nat → Prop} {s : Nat} {L : List Vol} (h : SetL w F s L) (hO : Only R w w') (hR : ∀ b, F b → ¬ R b) : SetL w' F s L := by
  obtain ⟨M, h, e⟩ := h
  exact ⟨M, h.only hO hR, e⟩
theorem SetL.below {w w' : World} {F : Nat → Prop} {s : Nat} {L : List Vol} (h : SetL w F s L) (hb : Below w.heap.size w w') : SetL w' F s L := by
  obtain ⟨M, h, e⟩ := h
  exact ⟨M, h.below hb, e⟩
theorem SetL.more {w : World} {F F' : Nat → Prop} {s : Nat} {L : List Vol} (h : SetL w F s L) (hF : ∀ b, F b → F' b) (hlt : ∀ b, F' b → b < w.heap.size) : SetL w F' s L := by
  obtain ⟨M, h, e⟩ := h
  exact ⟨M, h.more hF hlt, e⟩
theorem SetL.lt {w : World} {F : Nat → Prop} {s : Nat} {L : List Vol} (h : SetL w F s L) : ∀ b, F b → b < w.heap.size := by
  obtain ⟨M, h, e⟩ := h
  exact h.lt
theorem SetL.rise {w : World} {F : Nat → Prop} {s : Nat} {L : List Vol} (h : SetL w F s L) : RiseV L := by
  obtain ⟨M, ⟨mb, h⟩, rfl⟩ := h
  have := h.rs
  unfold RiseM at this
  unfold RiseV vs
  rw [List.pairwise_map]
  exact this
theorem SetL.ok {w : World} {F : Nat → Prop} {s : Nat} {L : List Vol} (h : SetL w F s L) : ∀ v ∈ L, VolOk v := by
  obtain ⟨M, ⟨mb, h⟩, rfl⟩ := h
  intro v hv
  obtain ⟨m, hm, rfl⟩ := List.mem_map.1 hv
  exact (h.vm m hm).ok
/-- The set as it was. -/
theorem SetL.same {w w' : World} {F : Nat → Prop} {s : Nat} {L : List Vol} (h : SetL w F s L) (hb : Below w.heap.size w w') : SetL w' (newF F w w') s L :=
  (h.below hb).more (fun _ h => .inl h) (newF_lt h.lt hb.size)

end Go.Proofs.YtcajhndhjlfmaaaGreat

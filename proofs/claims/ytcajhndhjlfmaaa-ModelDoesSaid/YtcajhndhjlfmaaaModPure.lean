/-
  What each operation does to a row of images, as plain lists. No program.
-/
import Derived.Test.YtcajhndhjlfmaaaModSet
namespace Go.Proofs.Ytcajhndhjlfmaaa
open Go.RowKit
set_option linter.unusedVariables false
set_option linter.unusedSimpArgs false

/-- An operation. -/
structure Op15 where
  kind : Int
  name : ByteArray
  other : ByteArray
  num : Int
  quota : Int
  blk : List UInt8
def opC (o : Op15) : List Value := [.int .i64 o.kind, .string o.name, .string o.other, .int .i64 o.num, .int .i64 o.quota] ++ Lib.byteCells o.blk
structure OpOk (o : Op15) : Prop where
  b48 : o.blk.length = 48
  n1 : o.name.size ≤ maxLen
  n2 : o.other.size ≤ maxLen
  i1 : -9223372036854775808 ≤ o.num ∧ o.num ≤ 9223372036854775807
  i2 : -9223372036854775808 ≤ o.quota ∧ o.quota ≤ 9223372036854775807
  i3 : -9223372036854775808 ≤ o.kind ∧ o.kind ≤ 9223372036854775807
theorem opC_length {o : Op15} (h : o.blk.length = 48) : (opC o).length = 53 := by simp [opC, Lib.byteCells_length, h]
theorem opC_one (o : Op15) : ∀ v ∈ opC o, v.oneCell' = true := by
  intro v hv
  rcases List.mem_append.1 hv with hv | hv
  · simp only [List.mem_cons, List.mem_nil_iff, or_false] at hv
    rcases hv with rfl | rfl | rfl | rfl | rfl <;> rfl
  · simp only [Lib.byteCells, List.mem_map] at hv
    obtain ⟨b, _, rfl⟩ := hv
    rfl
/-- An answer. -/
structure Ans where
  k : Int
  th : Bool
  blk : List UInt8
  nms : List ByteArray
def aE (k : Int) : Ans := ⟨k, false, zB, []⟩
def changesB (k : Int) : Bool := decide (k = 1) || decide (k = 2) || decide (k = 3) || decide (k = 4) || decide (k = 6) || decide (k = 7)

/-- The error of an operation on a block. -/
def ofE (L : List Vol) (nm : ByteArray) (n : Int) (ch : Bool) : Int :=
  match findV L nm with
  | none => 5
  | some v => if numB n = false then 2 else if (v.frozen && ch) = true then 10 else 0
def writeL (L : List Vol) (nm : ByteArray) (n : Int) (b : List UInt8) : List Vol × Int :=
  if ofE L nm n true ≠ 0 then (L, ofE L nm n true) else
  match findV L nm with
  | none => (L, 5)
  | some v => if hasC v.cells n = false ∧ v.quota ≤ v.cells.length then (L, 8) else (setV L nm (putC v.cells n.toNat b), 0)
def trimL (L : List Vol) (nm : ByteArray) (n : Int) : List Vol × Int :=
  if ofE L nm n true ≠ 0 then (L, ofE L nm n true) else
  match findV L nm with
  | none => (L, 5)
  | some v => (setV L nm (delC v.cells n.toNat), 0)
def readL (L : List Vol) (nm : ByteArray) (n : Int) : Ans :=
  if ofE L nm n false ≠ 0 then aE (ofE L nm n false) else
  match findV L nm with
  | none => aE 5
  | some v => ⟨0, hasC v.cells n, atB v.cells n, []⟩
def quotaL (L : List Vol) (nm : ByteArray) : Int := match findV L nm with | none => 0 | some v => (v.quota : Int)
def ePair (r : List Vol × Int) : List Vol × Ans := (r.1, aE r.2)
def doL (L : List Vol) (o : Op15) : List Vol × Ans :=
  if o.kind = 1 then ePair (createL L o.name o.quota)
  else if o.kind = 2 then ePair (deleteL L o.name)
  else if o.kind = 3 then ePair (writeL L o.name o.num o.blk)
  else if o.kind = 4 then ePair (trimL L o.name o.num)
  else if o.kind = 5 then (L, readL L o.name o.num)
  else if o.kind = 6 then ePair (copyL L o.name o.other (quotaL L o.name) true)
  else if o.kind = 7 then ePair (copyL L o.name o.other o.quota false)
  else if o.kind = 8 then (L, ⟨0, false, zB, L.map (·.name)⟩)
  else (L, aE 1)
theorem doL_length (L : List Vol) (o : Op15) : (doL L o).1.length ≤ L.length + 1 := by
  have hins : ∀ (x : Vol) (L : List Vol), (insV x L).length = L.length + 1 := fun x L => by
    induction L with
    | nil => rfl
    | cons y r ih => unfold insV; split <;> simp [ih]
  have hc : ∀ (nm other : ByteArray) (q : Int) (fr : Bool), (copyL L nm other q fr).1.length ≤ L.length + 1 := fun nm other q fr => by
    unfold copyL
    split
    · simp
    · split
      · simp
      · split
        · simp
        · split <;> simp [hins]
  unfold doL ePair
  split
  · unfold createL
    split
    · simp
    · split <;> simp [hins]
  split
  · unfold deleteL
    split
    · simp only [delV]; have := List.length_filter_le (fun v => decide (vkey v ≠ o.name.data.toList)) L; simp only [ne_eq, decide_not] at this ⊢; omega
    · simp
  split
  · unfold writeL
    split
    · simp
    · split
      · simp
      · split <;> simp [setV]
  split
  · unfold trimL
    split
    · simp
    · split <;> simp [setV]
  split
  · simp
  split
  · exact hc _ _ _ _
  split
  · exact hc _ _ _ _
  split
  · simp
  · simp

end Go.Proofs.Ytcajhndhjlfmaaa

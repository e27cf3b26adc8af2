/-
  Images, as plain lists: how a model's maps read. No program.
-/
import Derived.Test.YtcajhndhjlfmaaaVolMath
import Derived.Test.YtcajhndhjlfmaaaDigR
namespace Go.Proofs.Ytcajhndhjlfmaaa
open Go.RowKit
set_option linter.unusedVariables false
set_option linter.unusedSimpArgs false

/-! ### readers -/
/-- A reader of the values V a, read as D a. -/
noncomputable def mkR {α : Type} (V : α → Value) (D : α → DataW Unit) (v : Value) : Option (DataW Unit × List MemPlace) :=
  open Classical in if h : ∃ a, v = V a then some (D (Classical.choose h), []) else none
theorem mkR_mk {α : Type} {V : α → Value} {D : α → DataW Unit} (hV : ∀ a b, V a = V b → a = b) (a : α) : mkR V D (V a) = some (D a, []) := by
  have h : ∃ b, V a = V b := ⟨a, rfl⟩
  unfold mkR
  rw [dif_pos h]
  rw [hV _ _ (Classical.choose_spec h).symm]
theorem mkR_inv {α : Type} {V : α → Value} {D : α → DataW Unit} (hD : ∀ a b, D a = D b → a = b) {v : Value} {a : α} {ps : List MemPlace} (h : mkR V D v = some (D a, ps)) : v = V a := by
  unfold mkR at h
  split at h
  · rename_i hx
    simp only [Option.some.injEq, Prod.mk.injEq] at h
    have hs := Classical.choose_spec hx
    rw [hD _ _ h.1] at hs
    exact hs
  · cases h

/-- A block's bytes. -/
def blkV (l : List UInt8) : Value := .agg (Lib.byteCells l).toArray
theorem blkV_inj (a b : List UInt8) (h : blkV a = blkV b) : a = b := by
  unfold blkV at h
  injection h with h
  exact byteCells_inj (List.toArray_inj h)
noncomputable def blkR := mkR blkV fun l => .lit (.string l)
theorem blkR_mk (l : List UInt8) : blkR (blkV l) = some (.lit (.string l), []) := mkR_mk blkV_inj l
theorem blkR_inv {v : Value} {l : List UInt8} {ps : List MemPlace} (h : blkR v = some (.lit (.string l), ps)) : v = blkV l :=
  mkR_inv (V := blkV) (D := fun l => .lit (.string l)) (fun a b h => by injection h with h; injection h) h
def zB : List UInt8 := List.replicate 48 0

/-- An image: its quota, whether it is frozen, its blocks' map. -/
structure Ix where
  q : Int
  fr : Bool
  mo : Option Nat
def imgV (a : Ix) : Value := .agg #[.int .i64 a.q, .bool a.fr, .map a.mo]
def imgDx (q : Int) (fr : Bool) (mo : Option Nat) : DataW Unit := .agg [.lit (.int .i64 q), .lit (.bool fr), match mo with | none => .nil | some b => .lit (.int .i64 (b : Nat))]
theorem imgV_inj (a b : Ix) (h : imgV a = imgV b) : a = b := by
  obtain ⟨a1, a2, a3⟩ := a
  obtain ⟨b1, b2, b3⟩ := b
  unfold imgV at h
  simp only [Value.agg.injEq, Array.mk.injEq, List.cons.injEq, Value.int.injEq, Value.bool.injEq, Value.map.injEq, true_and, and_true] at h
  obtain ⟨rfl, rfl, rfl⟩ := h
  rfl
theorem imgDx_inj (a b : Ix) (h : imgDx a.q a.fr a.mo = imgDx b.q b.fr b.mo) : a = b := by
  obtain ⟨a1, a2, a3⟩ := a
  obtain ⟨b1, b2, b3⟩ := b
  unfold imgDx at h
  simp only [DataW.agg.injEq, List.cons.injEq, DataW.lit.injEq, Lit.int.injEq, Lit.bool.injEq, true_and, and_true] at h
  obtain ⟨rfl, rfl, h3⟩ := h
  cases a3 <;> cases b3
  · rfl
  · cases h3
  · cases h3
  · rename_i x y
    simp only [DataW.lit.injEq, Lit.int.injEq, true_and] at h3
    have : x = y := by omega
    rw [this]
noncomputable def imgR := mkR imgV fun a => imgDx a.q a.fr a.mo
theorem imgR_mk (a : Ix) : imgR (imgV a) = some (imgDx a.q a.fr a.mo, []) := mkR_mk imgV_inj a
theorem imgR_inv {v : Value} {q : Int} {fr : Bool} {mo : Option Nat} {ps : List MemPlace} (h : imgR v = some (imgDx q fr mo, ps)) : v = imgV ⟨q, fr, mo⟩ :=
  mkR_inv (V := imgV) (D := fun a => imgDx a.q a.fr a.mo) imgDx_inj (a := ⟨q, fr, mo⟩) h

/-! ### the map of images -/
def litI (m : Vm) : Lit × DataW Unit := (.string (key m), imgDx m.v.quota m.v.frozen (some m.bb))
def imgD (M : List Vm) : DataW Unit := .map (M.map litI)
theorem imgD_has (M : List Vm) (nm : ByteArray) : Maps.has (imgD M) (.string nm.data.toList) = hasM M nm := by
  unfold imgD hasM
  rw [Maps.has_eq, List.any_map]
  congr 1
  funext c
  simp only [litI, Lit.sameKey, Function.comp]
  rw [Bool.eq_iff_iff, beq_iff_eq, decide_eq_true_eq]
theorem imgD_at (M : List Vm) (nm : ByteArray) (z : DataW Unit) : (imgD M).atKey (.string nm.data.toList) z = match findM M nm with | some m => imgDx m.v.quota m.v.frozen (some m.bb) | none => z := by
  unfold imgD findM DataW.atKey
  dsimp only
  rw [List.find?_map]
  have e : ((fun p : Lit × DataW Unit => p.1.sameKey (.string nm.data.toList)) ∘ litI) = fun m : Vm => decide (key m = nm.data.toList) := by
    funext c
    simp only [litI, Lit.sameKey, Function.comp]
    rw [Bool.eq_iff_iff, beq_iff_eq, decide_eq_true_eq]
  rw [e]
  cases h : M.find? (fun m : Vm => decide (key m = nm.data.toList)) <;> simp [litI]
theorem imgD_size (M : List Vm) : Maps.size (imgD M) = M.length := by
  unfold imgD
  rw [Maps.size_eq, List.length_map]
theorem imgD_ins (x : Vm) : ∀ M : List Vm, DataW.insert (litI x) (M.map litI) = (insM x M).map litI
  | [] => rfl
  | y :: r => by
    unfold insM
    rw [List.map_cons]
    unfold DataW.insert
    have e : (litI x).1.before (litI y).1 = bytesBefore (key x) (key y) := rfl
    rw [e]
    split
    · rfl
    · simp [imgD_ins x r]
theorem imgD_filter (M : List Vm) (nm : ByteArray) : (M.map litI).filter (fun p => !p.1.sameKey (.string nm.data.toList)) = (delM M nm).map litI := by
  unfold delM
  rw [List.filter_map]
  congr 1
  congr 1
  funext c
  show (!(litI c).1.sameKey _) = _
  simp only [litI, Lit.sameKey]
  by_cases h : key c = nm.data.toList <;> simp [h]
theorem imgD_put {M : List Vm} {x : Vm} (h : hasM M x.v.name = false) : (imgD M).put (.string x.v.name.data.toList) (imgDx x.v.quota x.v.frozen (some x.bb)) = imgD (insM x M) := by
  unfold imgD DataW.put
  dsimp only
  rw [imgD_filter, delM_none h, ← imgD_ins]
  rfl
theorem imgD_del (M : List Vm) (nm : ByteArray) : (imgD M).del (.string nm.data.toList) = imgD (delM M nm) := by
  unfold imgD DataW.del
  dsimp only
  rw [imgD_filter]
theorem imgD_set (M : List Vm) (nm : ByteArray) (cs : List Cl) : imgD (setM M nm cs) = imgD M := by
  unfold imgD setM
  rw [List.map_map]
  congr 2
  funext m
  simp only [Function.comp]
  split <;> rfl
theorem strKeys_img (M : List Vm) : strKeys (imgD M) = M.map key := by
  unfold imgD strKeys
  dsimp only
  rw [List.map_map]
  congr 1
theorem sorted_namesI {M : List Vm} (hr : RiseM M) {ss : List (List UInt8)} (h : ss.Perm (strKeys (imgD M))) : ss.mergeSort (fun x y => decide (x ≤ y)) = M.map key := by
  rw [strKeys_img] at h
  have tr : ∀ a b c : List UInt8, decide (a ≤ b) = true → decide (b ≤ c) = true → decide (a ≤ c) = true := fun a b c h1 h2 => by simp only [decide_eq_true_eq] at *; exact List.le_trans h1 h2
  have to : ∀ a b : List UInt8, (decide (a ≤ b) || decide (b ≤ a)) = true := fun a b => by simp only [Bool.or_eq_true, decide_eq_true_eq]; exact List.le_total a b
  refine List.Perm.eq_of_pairwise (le := fun a b => decide (a ≤ b) = true) (fun a b _ _ h1 h2 => ?_) (List.pairwise_mergeSort tr to ss) ?_ ((List.mergeSort_perm ss _).trans h)
  · simp only [decide_eq_true_eq] at h1 h2
    exact List.le_antisymm h1 h2
  · rw [List.pairwise_map]
    refine hr.imp fun {a b} h => ?_
    rw [decide_eq_true_eq]
    exact List.le_of_lt ((bytesBefore_lt _ _).1 h)


end Go.Proofs.Ytcajhndhjlfmaaa

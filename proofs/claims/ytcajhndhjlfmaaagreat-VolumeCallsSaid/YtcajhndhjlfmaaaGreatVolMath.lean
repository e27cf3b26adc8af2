/-
  Volumes, as plain lists: what a set holds, and how its maps read. No program.
-/
import Derived.Test.YtcajhndhjlfmaaaGreatLib
import Derived.Maps.OwnSet
import Derived.Maps.Views
import Derived.Maps.Keyed
import Derived.Lib.SlKeysI
import Derived.Sort.KeysCollected
namespace Go.Proofs.YtcajhndhjlfmaaaGreat
open Go.RowKit
set_option linter.unusedVariables false
set_option linter.unusedSimpArgs false

/-- A block's number, its fingerprint. -/
abbrev Cl := Nat × List UInt8
structure Vol where
  name : ByteArray
  quota : Nat
  frozen : Bool
  cells : List Cl
def nmB (a b : ByteArray) : Prop := bytesBefore a.data.toList b.data.toList = true

theorem ba_ext {a b : ByteArray} (h : a.data.toList = b.data.toList) : a = b := by
  cases a; cases b; congr; exact Array.toList_inj.1 h

/-! ### blocks -/
def hasC (cs : List Cl) (n : Int) : Bool := cs.any fun c => decide ((c.1 : Int) = n)
def getC (cs : List Cl) (n : Int) : Option (List UInt8) := (cs.find? fun c => decide ((c.1 : Int) = n)).map (·.2)
def insC (x : Cl) : List Cl → List Cl
  | [] => [x]
  | y :: r => if x.1 < y.1 then x :: y :: r else y :: insC x r
def delC (cs : List Cl) (n : Nat) : List Cl := cs.filter fun c => decide (c.1 ≠ n)
def putC (cs : List Cl) (n : Nat) (f : List UInt8) : List Cl := insC (n, f) (delC cs n)
def Rise (cs : List Cl) : Prop := cs.Pairwise fun a b => a.1 < b.1

def litC (c : Cl) : Lit × DataW Unit := (.int .i64 (c.1 : Nat), .lit (.string c.2))
def cellsD (cs : List Cl) : DataW Unit := .map (cs.map litC)

theorem insC_mem {x c : Cl} : ∀ {cs : List Cl}, c ∈ insC x cs ↔ c = x ∨ c ∈ cs
  | [] => by simp [insC]
  | y :: r => by
    unfold insC
    split
    · simp
    · simp only [List.mem_cons, insC_mem (cs := r)]
      constructor
      · rintro (h | h | h) <;> simp [h]
      · rintro (h | h | h) <;> simp [h]
theorem insC_length (x : Cl) : ∀ cs : List Cl, (insC x cs).length = cs.length + 1
  | [] => rfl
  | y :: r => by
    unfold insC
    split
    · rfl
    · simp [insC_length x r]
theorem insC_rise {x : Cl} : ∀ {cs : List Cl}, Rise cs → (∀ c ∈ cs, c.1 ≠ x.1) → Rise (insC x cs)
  | [], _, _ => by simp [insC, Rise]
  | y :: r, h, hn => by
    unfold Rise at h ⊢
    rw [List.pairwise_cons] at h
    have hy := hn y List.mem_cons_self
    unfold insC
    split
    · rename_i hlt
      rw [List.pairwise_cons]
      refine ⟨fun c hc => ?_, List.pairwise_cons.2 h⟩
      rcases List.mem_cons.1 hc with rfl | hc
      · exact hlt
      · exact Nat.lt_trans hlt (h.1 c hc)
    · rename_i hlt
      rw [List.pairwise_cons]
      refine ⟨fun c hc => ?_, insC_rise h.2 fun c hc => hn c (List.mem_cons_of_mem _ hc)⟩
      rcases insC_mem.1 hc with rfl | hc
      · omega
      · exact h.1 c hc
theorem delC_rise {cs : List Cl} (h : Rise cs) (n : Nat) : Rise (delC cs n) := h.filter _
theorem delC_mem {cs : List Cl} {n : Nat} {c : Cl} : c ∈ delC cs n ↔ c ∈ cs ∧ c.1 ≠ n := by simp [delC]
theorem putC_rise {cs : List Cl} (h : Rise cs) (n : Nat) (f : List UInt8) : Rise (putC cs n f) :=
  insC_rise (delC_rise h n) fun c hc => (delC_mem.1 hc).2
theorem putC_mem {cs : List Cl} {n : Nat} {f : List UInt8} {c : Cl} : c ∈ putC cs n f ↔ c = (n, f) ∨ (c ∈ cs ∧ c.1 ≠ n) := by
  unfold putC
  rw [insC_mem, delC_mem]
theorem delC_none {cs : List Cl} {n : Nat} (h : hasC cs n = false) : delC cs n = cs := by
  unfold delC hasC at *
  rw [List.filter_eq_self]
  intro c hc
  have := List.any_eq_false.1 h c hc
  simp at this ⊢
  omega
theorem delC_length {cs : List Cl} (hr : Rise cs) {n : Nat} (h : hasC cs n = true) : (delC cs n).length + 1 = cs.length := by
  induction cs with
  | nil => simp [hasC] at h
  | cons c r ih =>
    unfold Rise at hr
    rw [List.pairwise_cons] at hr
    unfold delC
    by_cases e : c.1 = n
    · rw [List.filter_cons_of_neg (by simp [e])]
      have : r.filter (fun c => decide (c.1 ≠ n)) = r := by
        rw [List.filter_eq_self]
        intro d hd
        have := hr.1 d hd
        simp
        omega
      rw [this]
      rfl
    · rw [List.filter_cons_of_pos (by simp [e])]
      have h2 : hasC r n = true := by
        unfold hasC at h ⊢
        rw [List.any_cons] at h
        simpa [show ¬ ((c.1 : Int) = (n : Int)) by omega] using h
      have := ih hr.2 h2
      unfold delC at this
      simp only [List.length_cons]
      omega
theorem putC_length {cs : List Cl} (hr : Rise cs) (n : Nat) (f : List UInt8) : (putC cs n f).length = if hasC cs n then cs.length else cs.length + 1 := by
  unfold putC
  rw [insC_length]
  cases h : hasC cs n with
  | false => rw [delC_none h]; rfl
  | true => have := delC_length hr h; simp only [if_true]; omega

theorem int_same (a b : Nat) : (Lit.int .i64 (a : Nat)).sameKey (.int .i64 (b : Nat)) = decide (a = b) := by
  simp only [Lit.sameKey, true_and]
  exact decide_eq_decide.2 (by omega)
theorem cellsD_has (cs : List Cl) (n : Int) : Maps.has (cellsD cs) (.int .i64 n) = hasC cs n := by
  unfold cellsD hasC
  rw [Maps.has_eq, List.any_map]
  congr 1
  funext c
  simp [litC, Lit.sameKey, Function.comp]
theorem cellsD_at (cs : List Cl) (n : Int) (z : DataW Unit) : (cellsD cs).atKey (.int .i64 n) z = match getC cs n with | some f => .lit (.string f) | none => z := by
  unfold cellsD getC DataW.atKey
  dsimp only
  rw [List.find?_map]
  have e : ((fun p : Lit × DataW Unit => p.1.sameKey (.int .i64 n)) ∘ litC) = fun c : Cl => decide ((c.1 : Int) = n) := by
    funext c
    simp [litC, Lit.sameKey]
  rw [e]
  cases h : cs.find? (fun c : Cl => decide ((c.1 : Int) = n)) <;> simp [litC]
theorem cellsD_size (cs : List Cl) : Maps.size (cellsD cs) = cs.length := by
  unfold cellsD
  rw [Maps.size_eq, List.length_map]
theorem cellsD_ins (x : Cl) : ∀ cs : List Cl, DataW.insert (litC x) (cs.map litC) = (insC x cs).map litC
  | [] => rfl
  | y :: r => by
    unfold insC
    rw [List.map_cons]
    unfold DataW.insert
    have e : (litC x).1.before (litC y).1 = decide (x.1 < y.1) := by
      simp only [litC, Lit.before]
      exact decide_eq_decide.2 (by omega)
    rw [e]
    by_cases h : x.1 < y.1
    · simp [h]
    · simp [h, cellsD_ins x r]
theorem cellsD_filter (cs : List Cl) (n : Nat) : (cs.map litC).filter (fun p => !p.1.sameKey (.int .i64 (n : Nat))) = (delC cs n).map litC := by
  unfold delC
  rw [List.filter_map]
  congr 1
  congr 1
  funext c
  show (!(litC c).1.sameKey _) = _
  simp only [litC, int_same]
  by_cases h : c.1 = n <;> simp [h]
theorem cellsD_put (cs : List Cl) (n : Nat) (f : List UInt8) : (cellsD cs).put (.int .i64 (n : Nat)) (.lit (.string f)) = cellsD (putC cs n f) := by
  unfold cellsD DataW.put putC
  dsimp only
  rw [cellsD_filter, ← cellsD_ins]
  rfl
theorem cellsD_del (cs : List Cl) (n : Nat) : (cellsD cs).del (.int .i64 (n : Nat)) = cellsD (delC cs n) := by
  unfold cellsD DataW.del
  dsimp only
  rw [cellsD_filter]

theorem hasC_get {cs : List Cl} {n : Int} : hasC cs n = (getC cs n).isSome := by
  unfold hasC getC
  rw [Option.isSome_map, Bool.eq_iff_iff, List.find?_isSome, List.any_eq_true]
theorem getC_mem {cs : List Cl} {n : Int} {f : List UInt8} (h : getC cs n = some f) : ∃ m : Nat, (m, f) ∈ cs ∧ (m : Int) = n := by
  unfold getC at h
  rw [Option.map_eq_some_iff] at h
  obtain ⟨c, hc, rfl⟩ := h
  exact ⟨c.1, List.mem_of_find?_eq_some hc, by simpa using List.find?_some hc⟩
theorem getC_of {cs : List Cl} (hr : Rise cs) {n : Nat} {f : List UInt8} (h : (n, f) ∈ cs) : getC cs n = some f := by
  unfold getC
  induction cs with
  | nil => simp at h
  | cons c r ih =>
    unfold Rise at hr
    rw [List.pairwise_cons] at hr
    rcases List.mem_cons.1 h with rfl | h
    · simp
    · have := hr.1 _ h
      rw [List.find?_cons_of_neg (by simp at this ⊢; omega)]
      exact ih hr.2 h
theorem intKeys_cells (cs : List Cl) : intKeys (cellsD cs) = cs.map fun c => (c.1 : Int) := by
  unfold cellsD intKeys
  dsimp only
  rw [List.map_map]
  congr 1
theorem sorted_ints {cs : List Cl} (hr : Rise cs) {ss : List Int} (h : ss.Perm (intKeys (cellsD cs))) : ss.mergeSort (fun x y => decide (x ≤ y)) = cs.map fun c => (c.1 : Int) := by
  rw [intKeys_cells] at h
  have tr : ∀ a b c : Int, decide (a ≤ b) = true → decide (b ≤ c) = true → decide (a ≤ c) = true := fun a b c h1 h2 => by simp at *; omega
  have to : ∀ a b : Int, (decide (a ≤ b) || decide (b ≤ a)) = true := fun a b => by simp; omega
  refine List.Perm.eq_of_pairwise (le := fun a b => decide (a ≤ b) = true) (fun a b _ _ h1 h2 => by simp at h1 h2; omega) (List.pairwise_mergeSort tr to ss) ?_ ((List.mergeSort_perm ss _).trans h)
  rw [List.pairwise_map]
  exact hr.imp fun h => by simp; omega

/-! ### a set's volumes: each with the block where it stands, and its blocks' map's -/
structure Vm where
  v : Vol
  vb : Nat
  bb : Nat
def key (m : Vm) : List UInt8 := m.v.name.data.toList
def findM (M : List Vm) (nm : ByteArray) : Option Vm := M.find? fun m => decide (key m = nm.data.toList)
def hasM (M : List Vm) (nm : ByteArray) : Bool := M.any fun m => decide (key m = nm.data.toList)
def insM (x : Vm) : List Vm → List Vm
  | [] => [x]
  | y :: r => if bytesBefore (key x) (key y) then x :: y :: r else y :: insM x r
def delM (M : List Vm) (nm : ByteArray) : List Vm := M.filter fun m => decide (key m ≠ nm.data.toList)
def setM (M : List Vm) (nm : ByteArray) (cs : List Cl) : List Vm := M.map fun m => if key m = nm.data.toList then { m with v := { m.v with cells := cs } } else m
def RiseM (M : List Vm) : Prop := M.Pairwise fun a b => bytesBefore (key a) (key b) = true
def litM (m : Vm) : Lit × DataW Unit := (.string (key m), .lit (.int .i64 (m.vb : Nat)))
def ptrD (M : List Vm) : DataW Unit := .map (M.map litM)

theorem hasM_find {M : List Vm} {nm : ByteArray} : hasM M nm = (findM M nm).isSome := by
  unfold hasM findM
  rw [Bool.eq_iff_iff, List.find?_isSome, List.any_eq_true]
theorem findM_mem {M : List Vm} {nm : ByteArray} {m : Vm} (h : findM M nm = some m) : m ∈ M ∧ m.v.name = nm := by
  unfold findM at h
  exact ⟨List.mem_of_find?_eq_some h, ba_ext (by simpa [key] using List.find?_some h)⟩
theorem key_apart {M : List Vm} (h : RiseM M) {a b : Vm} (ha : a ∈ M) (hb : b ∈ M) (e : key a = key b) : a = b := by
  unfold RiseM at h
  induction M with
  | nil => simp at ha
  | cons y r ih =>
    rw [List.pairwise_cons] at h
    rcases List.mem_cons.1 ha with ha | ha <;> rcases List.mem_cons.1 hb with hb | hb
    · rw [ha, hb]
    · have := h.1 b hb
      rw [← ha, e, Go.WideAt.bytes_irrefl] at this
      cases this
    · have := h.1 a ha
      rw [← hb, e, Go.WideAt.bytes_irrefl] at this
      cases this
    · exact ih h.2 ha hb
theorem findM_of {M : List Vm} (h : RiseM M) {m : Vm} (hm : m ∈ M) {nm : ByteArray} (e : m.v.name = nm) : findM M nm = some m := by
  unfold findM
  cases hf : M.find? (fun m => decide (key m = nm.data.toList)) with
  | none =>
    have := List.find?_eq_none.1 hf m hm
    simp [key, e] at this
  | some x =>
    have h1 := List.mem_of_find?_eq_some hf
    have h2 : key x = nm.data.toList := by simpa using List.find?_some hf
    rw [key_apart h h1 hm (by rw [h2]; simp [key, e])]
theorem insM_mem {x c : Vm} : ∀ {M : List Vm}, c ∈ insM x M ↔ c = x ∨ c ∈ M
  | [] => by simp [insM]
  | y :: r => by
    unfold insM
    split
    · simp
    · simp only [List.mem_cons, insM_mem (M := r)]
      constructor
      · rintro (h | h | h) <;> simp [h]
      · rintro (h | h | h) <;> simp [h]
theorem insM_length (x : Vm) : ∀ M : List Vm, (insM x M).length = M.length + 1
  | [] => rfl
  | y :: r => by
    unfold insM
    split
    · rfl
    · simp [insM_length x r]
theorem insM_rise {x : Vm} : ∀ {M : List Vm}, RiseM M → (∀ c ∈ M, key c ≠ key x) → RiseM (insM x M)
  | [], _, _ => by simp [insM, RiseM]
  | y :: r, h, hn => by
    unfold RiseM at h ⊢
    rw [List.pairwise_cons] at h
    have hy := hn y List.mem_cons_self
    unfold insM
    split
    · rename_i hlt
      rw [List.pairwise_cons]
      refine ⟨fun c hc => ?_, List.pairwise_cons.2 h⟩
      rcases List.mem_cons.1 hc with rfl | hc
      · exact hlt
      · exact Go.WideShapes.bytes_trans _ _ _ hlt (h.1 c hc)
    · rename_i hlt
      rw [List.pairwise_cons]
      refine ⟨fun c hc => ?_, insM_rise h.2 fun c hc => hn c (List.mem_cons_of_mem _ hc)⟩
      rcases insM_mem.1 hc with rfl | hc
      · rcases Go.WideAt.bytes_total _ _ hy with h1 | h1
        · exact h1
        · exact absurd h1 hlt
      · exact h.1 c hc
/-- What holds between each two of a row, one way or the other, holds with one more. -/
theorem insM_pair {R : Vm → Vm → Prop} (sym : ∀ a b, R a b → R b a) {x : Vm} : ∀ {M : List Vm}, M.Pairwise R → (∀ c ∈ M, R x c) → (insM x M).Pairwise R
  | [], _, _ => by simp [insM]
  | y :: r, h, hn => by
    rw [List.pairwise_cons] at h
    unfold insM
    split
    · rw [List.pairwise_cons]
      exact ⟨hn, List.pairwise_cons.2 h⟩
    · rw [List.pairwise_cons]
      refine ⟨fun c hc => ?_, insM_pair sym h.2 fun c hc => hn c (List.mem_cons_of_mem _ hc)⟩
      rcases insM_mem.1 hc with rfl | hc
      · exact sym _ _ (hn y List.mem_cons_self)
      · exact h.1 c hc
theorem delM_mem {M : List Vm} {nm : ByteArray} {c : Vm} : c ∈ delM M nm ↔ c ∈ M ∧ c.v.name ≠ nm := by
  simp only [delM, List.mem_filter, decide_eq_true_eq]
  exact and_congr Iff.rfl (not_congr ⟨fun e => ba_ext e, fun e => by rw [key, e]⟩)
theorem delM_none {M : List Vm} {nm : ByteArray} (h : hasM M nm = false) : delM M nm = M := by
  unfold delM hasM at *
  rw [List.filter_eq_self]
  intro c hc
  have := List.any_eq_false.1 h c hc
  simpa using this
theorem setM_rise {M : List Vm} (h : RiseM M) (nm : ByteArray) (cs : List Cl) : RiseM (setM M nm cs) := by
  unfold RiseM setM at *
  rw [List.pairwise_map]
  refine h.imp fun {a b} h => ?_
  have e : ∀ m : Vm, key (if key m = nm.data.toList then { m with v := { m.v with cells := cs } } else m) = key m := fun m => by split <;> rfl
  rw [e, e]
  exact h
theorem setM_mem {M : List Vm} {nm : ByteArray} {cs : List Cl} {c : Vm} (h : c ∈ setM M nm cs) : ∃ m ∈ M, c.vb = m.vb ∧ c.bb = m.bb ∧ (c = m ∧ m.v.name ≠ nm ∨ m.v.name = nm ∧ c = { m with v := { m.v with cells := cs } }) := by
  unfold setM at h
  obtain ⟨m, hm, rfl⟩ := List.mem_map.1 h
  refine ⟨m, hm, ?_⟩
  split
  · rename_i e
    exact ⟨rfl, rfl, .inr ⟨ba_ext e, rfl⟩⟩
  · rename_i e
    exact ⟨rfl, rfl, .inl ⟨rfl, fun e2 => e (by rw [key, e2])⟩⟩

theorem ptrD_has (M : List Vm) (nm : ByteArray) : Maps.has (ptrD M) (.string nm.data.toList) = hasM M nm := by
  unfold ptrD hasM
  rw [Maps.has_eq, List.any_map]
  congr 1
  funext c
  simp only [litM, Lit.sameKey, Function.comp]
  rw [Bool.eq_iff_iff, beq_iff_eq, decide_eq_true_eq]
theorem ptrD_at (M : List Vm) (nm : ByteArray) (z : DataW Unit) : (ptrD M).atKey (.string nm.data.toList) z = match findM M nm with | some m => .lit (.int .i64 (m.vb : Nat)) | none => z := by
  unfold ptrD findM DataW.atKey
  dsimp only
  rw [List.find?_map]
  have e : ((fun p : Lit × DataW Unit => p.1.sameKey (.string nm.data.toList)) ∘ litM) = fun m : Vm => decide (key m = nm.data.toList) := by
    funext c
    simp only [litM, Lit.sameKey, Function.comp]
    rw [Bool.eq_iff_iff, beq_iff_eq, decide_eq_true_eq]
  rw [e]
  cases h : M.find? (fun m : Vm => decide (key m = nm.data.toList)) <;> simp [litM]
theorem ptrD_size (M : List Vm) : Maps.size (ptrD M) = M.length := by
  unfold ptrD
  rw [Maps.size_eq, List.length_map]
theorem ptrD_ins (x : Vm) : ∀ M : List Vm, DataW.insert (litM x) (M.map litM) = (insM x M).map litM
  | [] => rfl
  | y :: r => by
    unfold insM
    rw [List.map_cons]
    unfold DataW.insert
    have e : (litM x).1.before (litM y).1 = bytesBefore (key x) (key y) := rfl
    rw [e]
    split
    · rfl
    · simp [ptrD_ins x r]
theorem ptrD_filter (M : List Vm) (nm : ByteArray) : (M.map litM).filter (fun p => !p.1.sameKey (.string nm.data.toList)) = (delM M nm).map litM := by
  unfold delM
  rw [List.filter_map]
  congr 1
  congr 1
  funext c
  show (!(litM c).1.sameKey _) = _
  simp only [litM, Lit.sameKey]
  by_cases h : key c = nm.data.toList <;> simp [h]
theorem ptrD_put {M : List Vm} {x : Vm} (h : hasM M x.v.name = false) : (ptrD M).put (.string x.v.name.data.toList) (.lit (.int .i64 (x.vb : Nat))) = ptrD (insM x M) := by
  unfold ptrD DataW.put
  dsimp only
  rw [ptrD_filter, delM_none h, ← ptrD_ins]
  rfl
theorem ptrD_del (M : List Vm) (nm : ByteArray) : (ptrD M).del (.string nm.data.toList) = ptrD (delM M nm) := by
  unfold ptrD DataW.del
  dsimp only
  rw [ptrD_filter]
theorem ptrD_set (M : List Vm) (nm : ByteArray) (cs : List Cl) : ptrD (setM M nm cs) = ptrD M := by
  unfold ptrD setM
  rw [List.map_map]
  congr 2
  funext m
  simp only [Function.comp]
  split <;> rfl
theorem strKeys_ptr (M : List Vm) : strKeys (ptrD M) = M.map key := by
  unfold ptrD strKeys
  dsimp only
  rw [List.map_map]
  congr 1
theorem bytesBefore_lt : ∀ (a b : List UInt8), bytesBefore a b = true ↔ a < b
  | [], [] => by simp [bytesBefore]
  | [], _ :: _ => by simp [bytesBefore]
  | _ :: _, [] => by simp [bytesBefore]
  | a :: r, b :: s => by
    simp only [bytesBefore, Bool.or_eq_true, decide_eq_true_eq, Bool.and_eq_true, beq_iff_eq, List.cons_lt_cons_iff, bytesBefore_lt r s]
theorem sorted_names {M : List Vm} (hr : RiseM M) {ss : List (List UInt8)} (h : ss.Perm (strKeys (ptrD M))) : ss.mergeSort (fun x y => decide (x ≤ y)) = M.map key := by
  rw [strKeys_ptr] at h
  have tr : ∀ a b c : List UInt8, decide (a ≤ b) = true → decide (b ≤ c) = true → decide (a ≤ c) = true := fun a b c h1 h2 => by simp only [decide_eq_true_eq] at *; exact List.le_trans h1 h2
  have to : ∀ a b : List UInt8, (decide (a ≤ b) || decide (b ≤ a)) = true := fun a b => by simp only [Bool.or_eq_true, decide_eq_true_eq]; exact List.le_total a b
  refine List.Perm.eq_of_pairwise (le := fun a b => decide (a ≤ b) = true) (fun a b _ _ h1 h2 => ?_) (List.pairwise_mergeSort tr to ss) ?_ ((List.mergeSort_perm ss _).trans h)
  · simp only [decide_eq_true_eq] at h1 h2
    exact List.le_antisymm h1 h2
  · rw [List.pairwise_map]
    refine hr.imp fun {a b} h => ?_
    rw [decide_eq_true_eq]
    exact List.le_of_lt ((bytesBefore_lt _ _).1 h)

/-! ### how a pointer in a map reads -/
def ptrR : Value → Option (DataW Unit × List MemPlace)
  | .pointer none => some (.nil, [])
  | .pointer (some ⟨b, 0, none⟩) => some (.lit (.int .i64 (b : Nat)), [])
  | _ => none
theorem ptrR_nil : ptrR (.pointer none) = some (.nil, []) := rfl
theorem ptrR_mk (b : Nat) : ptrR (.pointer (some ⟨b, 0, none⟩)) = some (.lit (.int .i64 (b : Nat)), []) := rfl
theorem ptrR_inv {v : Value} {b : Nat} {ps : List MemPlace} (h : ptrR v = some (.lit (.int .i64 (b : Nat)), ps)) : v = .pointer (some ⟨b, 0, none⟩) := by
  unfold ptrR at h
  split at h
  · simp at h
  · rename_i c
    simp only [Option.some.injEq, Prod.mk.injEq, DataW.lit.injEq, Lit.int.injEq, true_and] at h
    have : c = b := by omega
    rw [this]
  · cases h
theorem ptrR_invNil {v : Value} {ps : List MemPlace} (h : ptrR v = some (.nil, ps)) : v = .pointer none := by
  unfold ptrR at h
  split at h
  · rfl
  · simp at h
  · cases h

end Go.Proofs.YtcajhndhjlfmaaaGreat

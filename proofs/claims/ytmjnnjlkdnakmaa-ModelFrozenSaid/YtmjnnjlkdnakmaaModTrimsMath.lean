/-
  What a trim leaves, as plain lists.
-/
import Derived.Test.YtmjnnjlkdnakmaaModSpeaks
import Derived.Test.YtmjnnjlkdnakmaaModArg
namespace Go.Proofs.Ytmjnnjlkdnakmaa
open Go.RowKit
set_option linter.unusedVariables false
set_option linter.unusedSimpArgs false

theorem find_set (L : List Vol) (nm : ByteArray) (cs : List Cl) : findV (setV L nm cs) nm = (findV L nm).map fun v => { v with cells := cs } := by
  unfold findV setV
  induction L with
  | nil => rfl
  | cons a r ih =>
    rw [List.map_cons]
    by_cases e : vkey a = nm.data.toList
    · rw [if_pos e, List.find?_cons_of_pos (by simpa [vkey] using e), List.find?_cons_of_pos (by simpa using e)]
      rfl
    · rw [if_neg e, List.find?_cons_of_neg (by simpa using e), List.find?_cons_of_neg (by simpa using e)]
      exact ih
theorem set_set (L : List Vol) (nm : ByteArray) (a b : List Cl) : setV (setV L nm a) nm b = setV L nm b := by
  unfold setV
  rw [List.map_map]
  apply List.map_congr_left
  intro v _
  simp only [Function.comp]
  by_cases e : vkey v = nm.data.toList
  · rw [if_pos e, if_pos (by simpa [vkey] using e), if_pos e]
  · rw [if_neg e, if_neg e]
theorem has_del (cs : List Cl) (n : Nat) : hasC (delC cs n) (n : Nat) = false := by
  unfold hasC
  rw [List.any_eq_false]
  intro c hc
  have := (delC_mem.1 hc).2
  simp
  omega
theorem at_del (cs : List Cl) (n : Nat) : atB (delC cs n) (n : Nat) = zB := by
  have h := has_del cs n
  rw [hasC_get] at h
  unfold atB
  cases hg : getC (delC cs n) (n : Nat) with
  | none => rfl
  | some f => rw [hg] at h; cases h
theorem get_put {cs : List Cl} (hr : Rise cs) (n : Nat) (b : List UInt8) : getC (putC cs n b) (n : Nat) = some b := getC_of (putC_rise hr n b) (putC_mem.2 (.inl rfl))
theorem ofE_zero {L : List Vol} {nm : ByteArray} {n : Int} (h : ofE L nm n true = 0) : ∃ v, findV L nm = some v ∧ numB n = true ∧ v.frozen = false := by
  unfold ofE at h
  split at h
  · cases h
  · rename_i v hv
    split at h
    · cases h
    · rename_i hn
      split at h
      · cases h
      · rename_i hf
        exact ⟨v, hv, by simpa using hn, by simpa using hf⟩
theorem ofE_of {L : List Vol} {nm : ByteArray} {n : Int} {v : Vol} (hv : findV L nm = some v) (hn : numB n = true) (hf : v.frozen = false) (ch : Bool) : ofE L nm n ch = 0 := by
  unfold ofE
  rw [hv]
  dsimp only
  rw [hn, hf]
  rfl
def opK (o : Op15) (k : Int) : Op15 := { o with kind := k }
theorem do4 (L : List Vol) (o : Op15) : doL L (opK o 4) = ePair (trimL L o.name o.num) := by rfl
theorem do3 (L : List Vol) (o : Op15) : doL L (opK o 3) = ePair (writeL L o.name o.num o.blk) := by rfl
theorem do5 (L : List Vol) (o : Op15) : doL L (opK o 5) = (L, readL L o.name o.num) := by rfl
/-- Behind a trim a block isn't there, and there is room for another one. -/
theorem trims_pure {w : World} {F : Nat → Prop} {s : Nat} {L : List Vol} (h : MdL w F s L) (o : Op15) {L1 : List Vol} {a : Ans} (hd : doL L (opK o 4) = (L1, a)) (hk : a.k = 0) :
    doL L1 (opK o 5) = (L1, ⟨0, false, zB, []⟩) ∧ (doL L1 (opK o 3) = (L1, aE 8) ∨ ∃ L2, doL L1 (opK o 3) = (L2, aE 0) ∧ doL L2 (opK o 5) = (L2, ⟨0, true, o.blk, []⟩)) := by
  rw [do4] at hd
  unfold ePair at hd
  injection hd with h1 h2
  rw [← h2] at hk
  have hk : (trimL L o.name o.num).2 = 0 := hk
  unfold trimL at hk h1
  by_cases he : ofE L o.name o.num true = 0
  · obtain ⟨v, hv, hn, hf⟩ := ofE_zero he
    rw [if_neg (by simpa using he), hv] at h1
    dsimp only at h1
    obtain ⟨n, hnn⟩ := Int.eq_ofNat_of_zero_le (numB_yes hn).1
    have hvo := h.ok v (List.mem_of_find?_eq_some hv)
    have hto : o.num.toNat = n := by rw [hnn]; rfl
    rw [hto] at h1
    have hf1 : findV L1 o.name = some { v with cells := delC v.cells n } := by rw [← h1, find_set, hv]; rfl
    rw [do5, do3]
    have hr1 : readL L1 o.name o.num = ⟨0, false, zB, []⟩ := by
      unfold readL
      rw [ofE_of hf1 hn hf false, if_neg (by simp), hf1]
      dsimp only
      rw [hnn, has_del, at_del]
    refine ⟨by rw [hr1], ?_⟩
    unfold writeL
    rw [ofE_of hf1 hn hf true, if_neg (by simp), hf1]
    dsimp only
    by_cases hq : hasC (delC v.cells n) o.num = false ∧ v.quota ≤ (delC v.cells n).length
    · rw [if_pos hq]
      exact .inl rfl
    · rw [if_neg hq]
      refine .inr ⟨_, rfl, ?_⟩
      rw [do5]
      have hf2 : findV (setV L1 o.name (putC (delC v.cells n) o.num.toNat o.blk)) o.name = some { v with cells := putC (delC v.cells n) o.num.toNat o.blk } := by rw [find_set, hf1]; rfl
      unfold readL
      rw [ofE_of hf2 hn hf false, if_neg (by simp), hf2]
      dsimp only
      have hg := get_put (delC_rise hvo.rs n) n o.blk
      rw [hto]
      rw [hnn, hasC_get]
      unfold atB
      rw [hg]
      rfl
  · rw [if_pos (by simpa using he)] at hk
    exact absurd hk he
theorem opC_blkT {o : Op15} (j : Nat) (v : Value) (hj : (Lib.byteCells o.blk)[j]? = some v) : (opC o)[5 + j]? = some v := by
  unfold opC
  rw [List.getElem?_append_right (by simp)]
  simpa using hj
theorem opK_set (o : Op15) (k : Int) : (opC o).set 0 (.int .i64 k) = opC (opK o k) := by rfl
theorem opK_ok {o : Op15} (h : OpOk o) {k : Int} (hk : 0 ≤ k ∧ k ≤ 100) : OpOk (opK o k) := ⟨h.b48, h.n1, h.n2, h.i1, h.i2, ⟨by show -9223372036854775808 ≤ k; omega, by show k ≤ _; omega⟩⟩
theorem ans_f0 {w : World} {B : Nat} {AL : List Value} {a : Ans} (h : AnsAt w B AL a) (w' : World) : (Instr.field 35 (.agg AL.toArray) 0).run Try.prog w' = .ok (.int .i64 a.k) w' := by
  obtain ⟨nv, e, _⟩ := h.nm
  rw [e]
  unfold ansV ansC
  kernel_rfl

end Go.Proofs.Ytmjnnjlkdnakmaa

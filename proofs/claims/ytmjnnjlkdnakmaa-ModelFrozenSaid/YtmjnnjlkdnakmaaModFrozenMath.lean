/-
  A snapshot stays.
-/
import Derived.Test.YtmjnnjlkdnakmaaModQuietMath
import Derived.Test.YtmjnnjlkdnakmaaModFind
namespace Go.Proofs.Ytmjnnjlkdnakmaa
open Go.RowKit
set_option linter.unusedVariables false
set_option linter.unusedSimpArgs false

theorem find_ins_ne {x : Vol} {nm : ByteArray} (h : vkey x ≠ nm.data.toList) : ∀ L : List Vol, findV (insV x L) nm = findV L nm
  | [] => by unfold insV findV; rw [List.find?_cons_of_neg (by simpa using h)]
  | y :: r => by
    unfold insV
    split
    · unfold findV
      rw [List.find?_cons_of_neg (by simpa using h)]
    · have ih := find_ins_ne h r
      unfold findV at ih ⊢
      by_cases e : vkey y = nm.data.toList
      · rw [List.find?_cons_of_pos (by simpa using e), List.find?_cons_of_pos (by simpa using e)]
      · rw [List.find?_cons_of_neg (by simpa using e), List.find?_cons_of_neg (by simpa using e)]
        exact ih
theorem find_ins_eq {x : Vol} {nm : ByteArray} (hx : vkey x = nm.data.toList) : ∀ L : List Vol, hasV L nm = false → findV (insV x L) nm = some x
  | [], _ => by unfold insV findV; rw [List.find?_cons_of_pos (by simpa using hx)]
  | y :: r, h => by
    unfold hasV at h
    rw [List.any_cons, Bool.or_eq_false_iff] at h
    unfold insV
    split
    · unfold findV
      rw [List.find?_cons_of_pos (by simpa using hx)]
    · have ih := find_ins_eq hx r (by unfold hasV; exact h.2)
      unfold findV at ih ⊢
      rw [List.find?_cons_of_neg (by simpa using h.1)]
      exact ih
theorem find_set_ne {nm nm' : ByteArray} (h : nm' ≠ nm) (cs : List Cl) : ∀ L : List Vol, findV (setV L nm cs) nm' = findV L nm'
  | [] => rfl
  | y :: r => by
    have ih := find_set_ne h cs r
    unfold findV setV at ih ⊢
    rw [List.map_cons]
    by_cases e : vkey y = nm.data.toList
    · have hne : ¬ vkey y = nm'.data.toList := fun e2 => h (ba_ext (e2.symm.trans e))
      rw [if_pos e, List.find?_cons_of_neg (by simpa [vkey] using hne), List.find?_cons_of_neg (by simpa using hne)]
      exact ih
    · rw [if_neg e]
      by_cases e2 : vkey y = nm'.data.toList
      · rw [List.find?_cons_of_pos (by simpa using e2), List.find?_cons_of_pos (by simpa using e2)]
      · rw [List.find?_cons_of_neg (by simpa using e2), List.find?_cons_of_neg (by simpa using e2)]
        exact ih
theorem find_del_ne {nm nm' : ByteArray} (h : nm' ≠ nm) : ∀ L : List Vol, findV (delV L nm) nm' = findV L nm'
  | [] => rfl
  | y :: r => by
    have ih := find_del_ne h r
    unfold findV delV at ih ⊢
    by_cases e : vkey y = nm.data.toList
    · have hne : ¬ vkey y = nm'.data.toList := fun e2 => h (ba_ext (e2.symm.trans e))
      rw [List.filter_cons_of_neg (by simpa using e), List.find?_cons_of_neg (by simpa using hne)]
      exact ih
    · rw [List.filter_cons_of_pos (by simpa using e)]
      by_cases e2 : vkey y = nm'.data.toList
      · rw [List.find?_cons_of_pos (by simpa using e2), List.find?_cons_of_pos (by simpa using e2)]
      · rw [List.find?_cons_of_neg (by simpa using e2), List.find?_cons_of_neg (by simpa using e2)]
        exact ih
theorem has_of_find {L : List Vol} {kn : ByteArray} {v0 : Vol} (h : findV L kn = some v0) : hasV L kn = true := by
  unfold hasV
  rw [List.any_eq_true]
  unfold findV at h
  exact ⟨v0, List.mem_of_find?_eq_some h, List.find?_some (p := fun v => decide (vkey v = kn.data.toList)) h⟩
theorem ins_keep {L : List Vol} {kn : ByteArray} {v0 x : Vol} (h : findV L kn = some v0) {nm : ByteArray} (hx : vkey x = nm.data.toList) (hn : hasV L nm = false) : findV (insV x L) kn = some v0 := by
  rw [find_ins_ne (fun e => ?_), h]
  have hk := has_of_find h
  unfold hasV at hk hn
  rw [← e, hx, hn] at hk
  cases hk
theorem create_keep {L : List Vol} {kn : ByteArray} {v0 : Vol} (h : findV L kn = some v0) (nm : ByteArray) (q : Int) : findV (createL L nm q).1 kn = some v0 := by
  unfold createL
  split
  · exact h
  · split
    · exact h
    · rename_i h1
      exact ins_keep h rfl (by simpa using h1)
theorem copy_keep {L : List Vol} {kn : ByteArray} {v0 : Vol} (h : findV L kn = some v0) (nm other : ByteArray) (q : Int) (fr : Bool) : findV (copyL L nm other q fr).1 kn = some v0 := by
  unfold copyL
  split
  · exact h
  · split
    · exact h
    · split
      · exact h
      · rename_i h1
        split
        · exact h
        · exact ins_keep h rfl (by simpa using h1)
theorem ofE_frozen {L : List Vol} {nm : ByteArray} {n : Int} {v : Vol} (h : findV L nm = some v) (hf : v.frozen = true) : ofE L nm n true ≠ 0 := by
  unfold ofE
  rw [h]
  dsimp only
  rw [hf]
  split
  · decide
  · simp
theorem write_keep {L : List Vol} {kn : ByteArray} {v0 : Vol} (h : findV L kn = some v0) (hf : v0.frozen = true) (nm : ByteArray) (n : Int) (b : List UInt8) : findV (writeL L nm n b).1 kn = some v0 := by
  unfold writeL
  by_cases e : kn = nm
  · subst e
    rw [if_pos (ofE_frozen h hf)]
    exact h
  · split
    · exact h
    · split
      · exact h
      · split
        · exact h
        · rw [find_set_ne e]; exact h
theorem trim_keep {L : List Vol} {kn : ByteArray} {v0 : Vol} (h : findV L kn = some v0) (hf : v0.frozen = true) (nm : ByteArray) (n : Int) : findV (trimL L nm n).1 kn = some v0 := by
  unfold trimL
  by_cases e : kn = nm
  · subst e
    rw [if_pos (ofE_frozen h hf)]
    exact h
  · split
    · exact h
    · split
      · exact h
      · rw [find_set_ne e]; exact h
theorem delete_keep {L : List Vol} {kn : ByteArray} {v0 : Vol} (h : findV L kn = some v0) {nm : ByteArray} (hne : nm ≠ kn) : findV (deleteL L nm).1 kn = some v0 := by
  unfold deleteL
  split
  · rw [find_del_ne fun e => hne e.symm]; exact h
  · exact h
theorem frozen_step {L : List Vol} {o : Op15} {kn : ByteArray} {v0 : Vol} (h : findV L kn = some v0) (hf : v0.frozen = true) (hno : ¬ (o.kind = 2 ∧ o.name = kn)) : findV (doL L o).1 kn = some v0 := by
  unfold doL
  by_cases h1 : o.kind = 1
  · rw [if_pos h1]; exact create_keep h _ _
  rw [if_neg h1]
  by_cases h2 : o.kind = 2
  · rw [if_pos h2]; exact delete_keep h fun e => hno ⟨h2, e⟩
  rw [if_neg h2]
  by_cases h3 : o.kind = 3
  · rw [if_pos h3]; exact write_keep h hf _ _ _
  rw [if_neg h3]
  by_cases h4 : o.kind = 4
  · rw [if_pos h4]; exact trim_keep h hf _ _
  rw [if_neg h4]
  by_cases h5 : o.kind = 5
  · rw [if_pos h5]; exact h
  rw [if_neg h5]
  by_cases h6 : o.kind = 6
  · rw [if_pos h6]; exact copy_keep h _ _ _ _
  rw [if_neg h6]
  by_cases h7 : o.kind = 7
  · rw [if_pos h7]; exact copy_keep h _ _ _ _
  rw [if_neg h7]
  split <;> exact h
/-- The name of the laws' snapshot. -/
def nmK : ByteArray := ⟨#[107, 101, 112, 116, 45, 97, 115, 45, 105, 116, 45, 105, 115]⟩
def opS (nm : ByteArray) : Op15 := ⟨6, nm, nmK, 0, 0, zB⟩
theorem opS_ok {nm : ByteArray} (h : nm.size ≤ maxLen) : OpOk (opS nm) := ⟨rfl, h, (by decide : nmK.size ≤ maxLen), (by decide : (-9223372036854775808 : Int) ≤ 0 ∧ (0 : Int) ≤ 9223372036854775807), (by decide : (-9223372036854775808 : Int) ≤ 0 ∧ (0 : Int) ≤ 9223372036854775807), (by decide : (-9223372036854775808 : Int) ≤ 6 ∧ (6 : Int) ≤ 9223372036854775807)⟩
theorem bS_built (nm : ByteArray) : Try.prog.built 31 [(0, .int .i64 6), (1, .string nm), (2, .string nmK)] = some (opC (opS nm)).toArray := by kernel_rfl
theorem snap_found (L : List Vol) (nm : ByteArray) (h : (doL L (opS nm)).2.k = 0) : ∃ v0, findV (doL L (opS nm)).1 nmK = some v0 ∧ v0.frozen = true ∧ v0.name = nmK := by
  have e : doL L (opS nm) = ePair (copyL L nm nmK (quotaL L nm) true) := by rfl
  rw [e] at h ⊢
  unfold ePair at h ⊢
  dsimp only [aE] at h ⊢
  unfold copyL at h ⊢
  by_cases h1 : (namedB nmK.data.toList && quotaB (quotaL L nm)) = false
  · rw [if_pos h1] at h; cases h
  rw [if_neg h1] at h ⊢
  cases hf : findV L nm with
  | none => rw [hf] at h; cases h
  | some v =>
    rw [hf] at h
    dsimp only at h ⊢
    by_cases h2 : hasV L nmK = true
    · rw [if_pos h2] at h; cases h
    rw [if_neg h2] at h ⊢
    by_cases h3 : quotaL L nm < v.cells.length
    · rw [if_pos h3] at h; cases h
    rw [if_neg h3] at h ⊢
    exact ⟨_, find_ins_eq rfl L (by simpa using h2), rfl, rfl⟩
theorem findI_of {kn : ByteArray} : ∀ {L : List Vol} {v0 : Vol}, findV L kn = some v0 → ∃ i : Nat, findI L kn = (i : Nat) ∧ L[i]? = some v0
  | [], v0, h => by unfold findV at h; cases h
  | y :: r, v0, h => by
    unfold findV at h
    by_cases e : vkey y = kn.data.toList
    · rw [List.find?_cons_of_pos (by simpa using e)] at h
      injection h with h
      subst h
      exact ⟨0, findI_some (L := y :: r) (i := 0) rfl (ba_ext e) (fun j v hj => by omega), rfl⟩
    · rw [List.find?_cons_of_neg (by simpa using e)] at h
      obtain ⟨i, hi, hg⟩ := findI_of (L := r) (kn := kn) h
      refine ⟨i + 1, ?_, by rw [List.getElem?_cons_succ]; exact hg⟩
      unfold findI at hi ⊢
      rw [List.findIdx?_cons]
      have hd : decide (y.name = kn) = false := decide_eq_false fun e2 => e (by rw [vkey, e2])
      rw [hd]
      cases hx : r.findIdx? (fun v => decide (v.name = kn)) with
      | none => rw [hx] at hi; dsimp only at hi; omega
      | some j =>
        rw [hx] at hi
        dsimp only at hi
        have : j = i := by omega
        subst this
        simp

end Go.Proofs.Ytmjnnjlkdnakmaa

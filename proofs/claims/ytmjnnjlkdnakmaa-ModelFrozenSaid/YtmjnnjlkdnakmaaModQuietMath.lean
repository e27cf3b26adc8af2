/-
  What is answered with an error changes nothing.
-/
import Derived.Test.YtmjnnjlkdnakmaaModTrimsMath
namespace Go.Proofs.Ytmjnnjlkdnakmaa
open Go.RowKit
set_option linter.unusedVariables false
set_option linter.unusedSimpArgs false

theorem create_quiet {L : List Vol} {nm : ByteArray} {q : Int} (h : (createL L nm q).2 ≠ 0) : (createL L nm q).1 = L := by
  unfold createL at *
  split
  · rfl
  · split
    · rfl
    · rename_i h1 h2
      rw [if_neg h1, if_neg h2] at h
      exact absurd rfl h
theorem delete_quiet {L : List Vol} {nm : ByteArray} (h : (deleteL L nm).2 ≠ 0) : (deleteL L nm).1 = L := by
  unfold deleteL at *
  split
  · rename_i h1
    rw [if_pos h1] at h
    exact absurd rfl h
  · rfl
theorem copy_quiet {L : List Vol} {nm other : ByteArray} {q : Int} {fr : Bool} (h : (copyL L nm other q fr).2 ≠ 0) : (copyL L nm other q fr).1 = L := by
  unfold copyL at *
  by_cases h1 : (namedB other.data.toList && quotaB q) = false
  · rw [if_pos h1]
  · rw [if_neg h1] at h ⊢
    cases hf : findV L nm with
    | none => rfl
    | some v =>
      rw [hf] at h
      dsimp only at h ⊢
      by_cases h2 : hasV L other = true
      · rw [if_pos h2]
      · rw [if_neg h2] at h ⊢
        by_cases h3 : q < v.cells.length
        · rw [if_pos h3]
        · rw [if_neg h3] at h
          exact absurd rfl h
theorem write_quiet {L : List Vol} {nm : ByteArray} {n : Int} {b : List UInt8} (h : (writeL L nm n b).2 ≠ 0) : (writeL L nm n b).1 = L := by
  unfold writeL at *
  by_cases h1 : ofE L nm n true ≠ 0
  · rw [if_pos h1]
  · rw [if_neg h1] at h ⊢
    cases hf : findV L nm with
    | none => rfl
    | some v =>
      rw [hf] at h
      dsimp only at h ⊢
      by_cases h2 : hasC v.cells n = false ∧ v.quota ≤ v.cells.length
      · rw [if_pos h2]
      · rw [if_neg h2] at h
        exact absurd rfl h
theorem trim_quiet {L : List Vol} {nm : ByteArray} {n : Int} (h : (trimL L nm n).2 ≠ 0) : (trimL L nm n).1 = L := by
  unfold trimL at *
  by_cases h1 : ofE L nm n true ≠ 0
  · rw [if_pos h1]
  · rw [if_neg h1] at h ⊢
    cases hf : findV L nm with
    | none => rfl
    | some v =>
      rw [hf] at h
      exact absurd rfl h
theorem read_quiet {L : List Vol} {nm : ByteArray} {n : Int} (h : (readL L nm n).k ≠ 0) : readL L nm n = aE (readL L nm n).k := by
  unfold readL at *
  by_cases h1 : ofE L nm n false ≠ 0
  · rw [if_pos h1]; rfl
  · rw [if_neg h1] at h ⊢
    cases hf : findV L nm with
    | none => rfl
    | some v =>
      rw [hf] at h
      exact absurd rfl h
theorem do_quiet (L : List Vol) (o : Op15) (h : (doL L o).2.k ≠ 0) : (doL L o).1 = L ∧ (doL L o).2 = aE (doL L o).2.k := by
  unfold doL at *
  split
  · rename_i h1; rw [if_pos h1] at h; exact ⟨create_quiet h, rfl⟩
  rename_i h1; rw [if_neg h1] at h
  split
  · rename_i h1; rw [if_pos h1] at h; exact ⟨delete_quiet h, rfl⟩
  rename_i h1; rw [if_neg h1] at h
  split
  · rename_i h1; rw [if_pos h1] at h; exact ⟨write_quiet h, rfl⟩
  rename_i h1; rw [if_neg h1] at h
  split
  · rename_i h1; rw [if_pos h1] at h; exact ⟨trim_quiet h, rfl⟩
  rename_i h1; rw [if_neg h1] at h
  split
  · rename_i h1; rw [if_pos h1] at h; exact ⟨rfl, read_quiet h⟩
  rename_i h1; rw [if_neg h1] at h
  split
  · rename_i h1; rw [if_pos h1] at h; exact ⟨copy_quiet h, rfl⟩
  rename_i h1; rw [if_neg h1] at h
  split
  · rename_i h1; rw [if_pos h1] at h; exact ⟨copy_quiet h, rfl⟩
  rename_i h1; rw [if_neg h1] at h
  split
  · rename_i h1; rw [if_pos h1] at h; exact absurd rfl h
  · exact ⟨rfl, rfl⟩
theorem do_still (L : List Vol) (o : Op15) (h : changesB o.kind = false) : (doL L o).1 = L := by
  unfold changesB at h
  simp only [Bool.or_eq_false_iff, decide_eq_false_iff_not] at h
  obtain ⟨⟨⟨⟨⟨h1, h2⟩, h3⟩, h4⟩, h6⟩, h7⟩ := h
  unfold doL
  rw [if_neg h1, if_neg h2, if_neg h3, if_neg h4]
  by_cases h5 : o.kind = 5
  · rw [if_pos h5]
  · rw [if_neg h5, if_neg h6, if_neg h7]
    split <;> rfl
/-- An answer with an error, and one of that error alone, are one. -/
theorem ans_err {w : World} {B : Nat} {AL : List Value} {k : Int} (h : AnsAt w B AL (aE k)) : ∃ A c, AL = ansC k false (Lib.byteCells zB) (.slice A 0 c) := by
  obtain ⟨nv, e, hn⟩ := h.nm
  rcases hn.2 with ⟨e2, _⟩ | ⟨g, cap, cur, e2, _⟩
  · exact ⟨none, 0, by rw [e, e2]; rfl⟩
  · exact ⟨_, cap, by rw [e, e2]; rfl⟩

set_option maxHeartbeats 8000000 in
set_option maxRecDepth 100000 in
theorem sans_quiet (k : Int) (A : Option Addr) (c : Nat) (AL BL : List Value) (hA : AL = ansC k false (Lib.byteCells zB) (.slice A 0 c)) (hB : BL = ansC k false (Lib.byteCells zB) nilS) (w : World) :
    Calls Try.prog 12 #[.agg AL.toArray, .agg BL.toArray] w fun e w' => e = .returned (.bool true) ∧ Below w.heap.size w w' := by
  obtain ⟨W1, hW1⟩ : ∃ z, z = (w.alloc (.cells AL.toArray 35)).alloc (.cells BL.toArray 35) := ⟨_, rfl⟩
  have hbA : Below w.heap.size w (w.alloc (.cells AL.toArray 35)) := (Below.refl _ _).alloc (Nat.le_refl _) _
  have hb1 : Below w.heap.size w W1 := by rw [hW1]; exact hbA.alloc hbA.size _
  obtain ⟨g, hg⟩ : ∃ z, z = w.heap.size := ⟨_, rfl⟩
  have hX1 : Arr W1 g 35 AL := by rw [hW1, hg]; exact (Arr.new w _ AL).up ((Below.refl _ _).alloc (Nat.le_refl _) _)
  have hY1 : Arr W1 (g + 1) 35 BL := by rw [hW1, hg]; have := Arr.new (w.alloc (.cells AL.toArray 35)) 35 BL; simpa using this
  obtain ⟨ZB, hZB⟩ : ∃ z, z = Lib.byteCells zB := ⟨_, rfl⟩
  have hzl : (Lib.byteCells zB).length = 48 := rfl
  have a0 : W1.cell? ⟨g, 0, none⟩ = some (.int .i64 k) := by rw [hX1.cell, hA]; rfl
  have a1 : W1.cell? ⟨g, 1, none⟩ = some (.bool false) := by rw [hX1.cell, hA]; rfl
  have a3 : W1.cell? ⟨g, 50, none⟩ = some (.slice A 0 c) := by rw [hX1.cell, hA]; rfl
  have b0 : W1.cell? ⟨g + 1, 0, none⟩ = some (.int .i64 k) := by rw [hY1.cell, hB]; rfl
  have b1 : W1.cell? ⟨g + 1, 1, none⟩ = some (.bool false) := by rw [hY1.cell, hB]; rfl
  have b3 : W1.cell? ⟨g + 1, 50, none⟩ = some (.slice none 0 0) := by rw [hY1.cell, hB]; rfl
  have hr : ∀ (nv : Value) (j : Nat) (v : Value), ZB[j]? = some v → (ansC k false (Lib.byteCells zB) nv)[2 + j]? = some v := fun nv j v hj => by
    rw [hZB] at hj
    unfold ansC
    rw [show 2 + j = j + 1 + 1 by omega, List.getElem?_cons_succ, List.getElem?_cons_succ, List.getElem?_append_left (List.getElem?_eq_some_iff.1 hj).1]
    exact hj
  have a2 : W1.rangeAt g 2 ZB := fun j v hj => by rw [hX1.cell, hA]; exact hr _ j v hj
  have b2 : W1.rangeAt (g + 1) 2 ZB := fun j v hj => by rw [hY1.cell, hB]; exact hr _ j v hj
  have HZn := Lib.hid (show (Try.prog.info? 29).map (·.size) = some ZB.length by rw [hZB]; exact blkSize)
  have Hzq := Lib.hid (fun w : World => show (Op.equalIn 10000 29 (.agg ZB.toArray) (.agg ZB.toArray)).run Try.prog w = .ok true w by have := eqv_at Try.underlying29 zB zB rfl rfl ZB ZB hZB hZB w; simpa using this)
  have hkk : (k != k) = false := by simp
  have hl0 : decide ((0 : Int) < 0) = false := by simp
  have hn0 : ((0 : Int) != 0) = false := by simp
  have HW1 := Lib.hid hW1
  have Hg := Lib.hid hg
  clear hW1 hbA hg hX1 hY1 hZB hr hA hB hzl
  go_enter Try.func12, Try.ntmps12
  go_upto_region 1 with fail
  rw [← HW1.out, ← Hg.out]
  clear HW1
  go_upto_region 3 with (first | ((with_reducible refine wpList_at 20 (by rfl) ?_); refine wpList_load_mid_ifC (by rfl) 29 _ rfl g 2 rfl ZB _ a2 Try.underlying29 rfl HZn.out ?_) | ((with_reducible refine wpList_at 22 (by rfl) ?_); refine wpList_load_mid_ifC (by rfl) 29 _ rfl (g + 1) 2 rfl ZB _ b2 Try.underlying29 rfl HZn.out ?_) | ((with_reducible refine wpList_at 23 (by rfl) ?_); refine wpList_neq_ifC (by rfl) 29 _ _ _ rfl ZB ZB rfl rfl true Hzq.out gtB ?_))
  go_wp2_with fail
  go_loopw [5] (fun i wr => i = .int .i64 0 ∧ wr = W1) (fun _ _ => 0)
  case atStart => exact ⟨rfl, rfl⟩
  case round =>
    obtain ⟨rfl, rfl⟩ := hrel
    go_wp2_with fail
    go_ret
    exact ⟨rfl, hb1⟩

end Go.Proofs.Ytmjnnjlkdnakmaa

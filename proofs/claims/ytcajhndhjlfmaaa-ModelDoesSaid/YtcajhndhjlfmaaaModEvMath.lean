/-
  Events: operations that aren't one have unlike events.
-/
import Derived.Test.YtcajhndhjlfmaaaModEvent
namespace Go.Proofs.Ytcajhndhjlfmaaa
open Go.RowKit
set_option linter.unusedVariables false
set_option linter.unusedSimpArgs false

theorem uF_inj {a b : Int} (ha : -9223372036854775808 ≤ a ∧ a ≤ 9223372036854775807) (hb : -9223372036854775808 ≤ b ∧ b ≤ 9223372036854775807) (h : uF a = uF b) : a = b := by
  have h1 := (uF_wrap a).1
  have h2 := (uF_wrap b).1
  rw [h] at h1
  have h3 := h1.trans h2.symm
  simp only [IntKind.wrap, IntKind.signed, IntKind.bits] at h3
  simp at h3
  omega
/-- What an event tells. -/
def sameOp (x y : Op15) : Bool := decide (x.kind = y.kind ∧ x.num = y.num ∧ x.quota = y.quota ∧ x.name = y.name ∧ x.other = y.other ∧ (x.kind ≠ 3 ∨ x.blk = y.blk))
theorem evF_eq (o : Op15) : evF o = Lib.uvarint (uF o.kind) ++ (Lib.uvarint (uF o.num) ++ (Lib.uvarint (uF o.quota) ++ (Lib.uvarint o.name.size ++ (o.name.data.toList ++ (Lib.uvarint o.other.size ++ (o.other.data.toList ++ (if o.kind = 3 then o.blk else []))))))) := by
  simp [evF, evN, evS]
theorem ev_inj {x y : Op15} (hx : OpOk x) (hy : OpOk y) : decide (evF x = evF y) = sameOp x y := by
  unfold sameOp
  refine decide_eq_decide.2 ⟨fun h => ?_, fun h => ?_⟩
  · rw [evF_eq, evF_eq] at h
    obtain ⟨e1, h⟩ := uv_cut h
    obtain ⟨e2, h⟩ := uv_cut h
    obtain ⟨e3, h⟩ := uv_cut h
    obtain ⟨e4, h⟩ := uv_cut h
    have e1 := uF_inj hx.i3 hy.i3 e1
    have e2 := uF_inj hx.i1 hy.i1 e2
    have e3 := uF_inj hx.i2 hy.i2 e3
    obtain ⟨e5, h⟩ := List.append_inj h (by simpa using e4)
    obtain ⟨e6, h⟩ := uv_cut h
    obtain ⟨e7, h⟩ := List.append_inj h (by simpa using e6)
    refine ⟨e1, e2, e3, ba_ext e5, ba_ext e7, ?_⟩
    by_cases hk : x.kind = 3
    · right
      rw [if_pos hk, if_pos (by rw [← e1]; exact hk)] at h
      exact h
    · exact .inl hk
  · obtain ⟨e1, e2, e3, e4, e5, e6⟩ := h
    rw [evF_eq, evF_eq, ← e1, ← e2, ← e3, ← e4, ← e5]
    rcases e6 with e6 | e6
    · rw [if_neg e6, if_neg e6]
    · rw [e6]
theorem ev_pos (o : Op15) : 5 ≤ (evF o).length := by
  have h1 := Lib.uvarint_pos (uF o.kind)
  have h2 := Lib.uvarint_pos (uF o.num)
  have h3 := Lib.uvarint_pos (uF o.quota)
  have h4 := Lib.uvarint_pos o.name.size
  have h5 := Lib.uvarint_pos o.other.size
  rw [evF_eq]
  simp only [List.length_append]
  omega
theorem ev_le {o : Op15} (hb : o.blk.length = 48) (h1 : o.name.size ≤ 100) (h2 : o.other.size ≤ 100) : (evF o).length ≤ 1000 := by
  unfold evF
  rw [List.length_append, List.length_append]
  have a1 := evN_le [o.kind, o.num, o.quota]
  have a2 := evS_le [o.name, o.other] (fun s hs => by
    simp only [List.mem_cons, List.mem_nil_iff, or_false] at hs
    rcases hs with rfl | rfl
    · exact h1
    · exact h2)
  have a3 : (if o.kind = 3 then o.blk else []).length ≤ 48 := by split <;> simp [hb]
  simp only [List.length_cons, List.length_nil] at a1 a2
  omega

end Go.Proofs.Ytcajhndhjlfmaaa

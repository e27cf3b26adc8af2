/-
  The document's own Number and Bytes: what they put behind a row.
-/
import Derived.Test.YtfelacpaaialfaaDoorNum
import Derived.Test.YtfelacpaaialfaaDoorMem
import Derived.Lib.AppendZeros
namespace Go.Proofs.YtfelacpaaialfaaDoor
open Go.RowKit
set_option linter.unusedVariables false

def RefPost (B : Nat) (sv : Value) (l : List UInt8) (w : World) (e : Ending) (w' : World) : Prop :=
  ∃ v', e = .returned v' ∧ Owns w' B 5 v' l ∧ Grew w w' sv v'

set_option maxHeartbeats 4000000 in
set_option maxRecDepth 100000 in
theorem rnumber_any (B x : Nat) (hx : x < 18446744073709551616) (sv : Value) (bs : List UInt8) (w : World) (hown : Owns w B 5 sv bs) (hBw : B ≤ w.heap.size) (hlim : bs.length + 10 ≤ 140737488355328) :
    Calls Tryd.prog 34 #[sv, .int .u64 x] w (RefPost B sv (bs ++ Lib.uvarint x) w) := by
  obtain ⟨i0, hi, hz0, hz1, hz2⟩ := info_parts byteInfo
  have hlen := Lib.uvarint_length64 hx
  go_enter Tryd.func34, Tryd.ntmps34
  go_wp2
  go_loopw [0, 1, 5] (fun vb vx vi wr => ∃ (y i : Nat) (pre : List UInt8), vx = .int .u64 y ∧ vi = .int .i64 i ∧ i ≤ 9 ∧ pre.length = i ∧ y ≤ x ∧ Hid (Lib.uvarint x = pre ++ Lib.uvarint y) ∧ Owns wr B 5 vb (bs ++ pre) ∧ Grew w wr sv vb)
    (fun _ vx _ _ => (intOf vx).toNat)
  case atStart => exact ⟨x, 0, [], rfl, rfl, by omega, rfl, Nat.le_refl _, rfl, by simpa using hown, Grew.refl _ _⟩
  case round =>
    obtain ⟨y, i, pre, rfl, rfl, hi9, hpi, hy, Hs, hown1, hgr⟩ := hrel
    have hpl : pre.length + (Lib.uvarint y).length ≤ 10 := by
      have h2 := congrArg List.length Hs.out
      rw [List.length_append] at h2
      omega
    have hyp := Lib.uvarint_pos y
    have hsz := hgr.1.size
    have hle : (bs ++ pre).length + 1 ≤ 140737488355328 := by rw [List.length_append]; omega
    have Hpi := Lib.hid hpi
    by_cases h128 : 128 ≤ y
    · have hi8 : i + 1 ≤ 9 := by
        rw [Lib.uvarint_big h128, List.length_cons] at hpl
        have := Lib.uvarint_pos (y / 128)
        omega
      have hq : (((y : Int) / 128) == 0) = false := by rw [beq_eq_false_iff_ne]; omega
      clear hpi
      go_wp2_with (at_builtin; refine wpList_append_own_at _ rfl _ _ 22 rfl B 5 i0 (.int .u8 0) 1 1 Tryd.underlying22 hi hz0 hz1 hz2 rfl (by decide) _ _ _ rfl (World.ownsRow.alloc hown1 _) ⟨wr.heap.size, 0, none⟩ 1 1 [Value.int .u8 ((y % 128 + 128 : Nat) : Int)] rfl rfl ?c1 ?c2 ?c3 ?c4 ?c5 ?_)
      case c1 =>
        intro j u hj
        match j, hj with
        | 0, hj => simp at hj; subst hj; simp [Addr.add]
      case c2 => intro u hu; simp at hu; subst hu; rfl
      case c3 => unfold maxLen; omega
      case c4 => omega
      case c5 => simp; omega
      intro v' w1 hown' hgrow _ hplace
      have hgr1 : Grew w w1 sv v' := (hgr.alloc _).step hgrow (by simpa using hplace)
      go_wp2
      go_roundw
      case rel =>
        refine ⟨y / 128, i + 1, pre ++ [(y % 128 + 128).toUInt8], by go_num, by go_num, hi8, by rw [List.length_append, Hpi.out]; rfl, by omega, (show _ = _ by rw [Hs.out, Lib.uvarint_big h128]; simp), ?_, hgr1⟩
        rw [← List.append_assoc]
        exact Owns.snoc (by omega) (by rw [List.length_append]) (by omega) hown'
      case measure => simp [intOf]; omega
    · have Hm := Lib.hid (Lib.uvarint_small (x := y) (by omega))
      have hq : (((y : Int) / 128) == 0) = true := by rw [beq_iff_eq]; omega
      have hy1 : y < 128 := by omega
      clear hpi h128
      go_wp2_with (at_builtin; refine wpList_append_own_at _ rfl _ _ 22 rfl B 5 i0 (.int .u8 0) 1 1 Tryd.underlying22 hi hz0 hz1 hz2 rfl (by decide) _ _ _ rfl (World.ownsRow.alloc hown1 _) ⟨wr.heap.size, 0, none⟩ 1 1 [Value.int .u8 ((y : Int) % 128)] rfl rfl ?c1 ?c2 ?c3 ?c4 ?c5 ?_)
      case c1 =>
        intro j u hj
        match j, hj with
        | 0, hj => simp at hj; subst hj; simp [Addr.add]
      case c2 => intro u hu; simp at hu; subst hu; rfl
      case c3 => unfold maxLen; omega
      case c4 => omega
      case c5 => simp; omega
      intro v' w1 hown' hgrow _ hplace
      have hgr1 : Grew w w1 sv v' := (hgr.alloc _).step hgrow (by simpa using hplace)
      go_wp2
      go_ret
      refine ⟨v', rfl, ?_, hgr1⟩
      rw [Hs.out, Hm.out, ← List.append_assoc]
      exact Owns.snoc (by omega) (by rw [List.length_append]) (by omega) hown'

end Go.Proofs.YtfelacpaaialfaaDoor

/-
  What pack.Number and the document's own Number put behind a row, and what Same tells.
-/
import Derived.Test.YtfelacpaaialfaaDoorRows
import Derived.Test.YtfelacpaaialfaaDoorLib
import Derived.BigQuiet
import Derived.Deep.QuietTactic
namespace Go.Proofs.YtfelacpaaialfaaDoor
open Go.RowKit
set_option linter.unusedVariables false

theorem byteInfo : (Tryd.prog.info? 5).map (fun i => (i.zero, i.size, i.bytes)) = some (some (.int .u8 0), 1, 1) := by kernel_rfl

set_option maxHeartbeats 4000000 in
set_option maxRecDepth 100000 in
/-- pack.Number: behind the row its groups of seven bits. -/
theorem number_any (B x : Nat) (hx : x < 18446744073709551616) (sv : Value) (bs : List UInt8) (w : World) (hown : Owns w B 5 sv bs) (hBw : B ≤ w.heap.size) (hlim : bs.length + 10 ≤ 140737488355328) :
    Calls Tryd.prog 28 #[sv, .int .u64 x] w fun e w' => ∃ v', e = .returned v' ∧ Owns w' B 5 v' (bs ++ Lib.uvarint x) ∧ Grew w w' sv v' := by
  obtain ⟨i0, hi, hz0, hz1, hz2⟩ := info_parts byteInfo
  have hlen := Lib.uvarint_length64 hx
  go_enter Tryd.func28, Tryd.ntmps28
  go_wp2
  go_loopw [0, 1] (fun vb vx wr => ∃ (y : Nat) (pre : List UInt8), vx = .int .u64 y ∧ y ≤ x ∧ Lib.uvarint x = pre ++ Lib.uvarint y ∧ Owns wr B 5 vb (bs ++ pre) ∧ Grew w wr sv vb)
    (fun _ vx _ => (intOf vx).toNat)
  case atStart => exact ⟨x, [], rfl, Nat.le_refl _, rfl, by simpa using hown, Grew.refl _ _⟩
  case round =>
    obtain ⟨y, pre, rfl, hy, hsplit, hown1, hgr⟩ := hrel
    have hpl : pre.length + (Lib.uvarint y).length ≤ 10 := by
      have h2 := congrArg List.length hsplit
      rw [List.length_append] at h2
      omega
    have hyp := Lib.uvarint_pos y
    have hsz := hgr.1.size
    have hle : (bs ++ pre).length + 1 ≤ 140737488355328 := by rw [List.length_append]; omega
    by_cases h128 : 128 ≤ y
    · have hor : bits .or .u8 ((y : Int) % 256) 128 = ((y % 128 + 128 : Nat) : Int) := by
        rw [Lib.u8_or128_any _ (by omega) (by omega)]
        omega
      have Hs := Lib.hid hsplit
      clear hsplit
      go_wp2_with (at_builtin; refine wpList_append_own_at _ rfl _ _ 22 rfl B 5 i0 (.int .u8 0) 1 1 Tryd.underlying22 hi hz0 hz1 hz2 rfl (by decide) _ _ _ rfl (World.ownsRow.alloc hown1 _) ⟨wr.heap.size, 0, none⟩ 1 1 [Value.int .u8 ((y % 128 + 128 : Nat) : Int)] rfl rfl ?c1 ?c2 ?c3 ?c4 ?c5 ?_)
      case c1 =>
        intro j u hj
        match j, hj with
        | 0, hj => simp at hj; subst hj; simp [Addr.add]
      case c2 => intro u hu; simp at hu; subst hu; rfl
      case c3 => unfold maxLen; omega
      case c4 => omega
      case c5 => simp; omega
      intro v' w1 hown' hgrow _ hplace
      have hgr1 : Grew w w1 sv v' := (hgr.alloc _).step hgrow (by simpa using hplace)
      go_wp2
      go_roundw
      case rel =>
        refine ⟨y / 128, pre ++ [(y % 128 + 128).toUInt8], by go_num, by omega, by rw [Hs.out, Lib.uvarint_big h128]; simp, ?_, hgr1⟩
        rw [← List.append_assoc]
        exact Owns.snoc (by omega) (by rw [List.length_append]) (by omega) hown'
      case measure => simp [intOf]; omega
    · have hsm : Lib.uvarint y = [y.toUInt8] := Lib.uvarint_small (by omega)
      have Hs := Lib.hid hsplit
      have Hm := Lib.hid hsm
      clear hsplit hsm
      go_wp2_with (at_builtin; refine wpList_append_own_at _ rfl _ _ 22 rfl B 5 i0 (.int .u8 0) 1 1 Tryd.underlying22 hi hz0 hz1 hz2 rfl (by decide) _ _ _ rfl (World.ownsRow.alloc hown1 _) ⟨wr.heap.size, 0, none⟩ 1 1 [Value.int .u8 (y : Int)] rfl rfl ?c1 ?c2 ?c3 ?c4 ?c5 ?_)
      case c1 =>
        intro j u hj
        match j, hj with
        | 0, hj => simp at hj; subst hj; simp [Addr.add]
      case c2 => intro u hu; simp at hu; subst hu; rfl
      case c3 => unfold maxLen; omega
      case c4 => omega
      case c5 => simp; omega
      intro v' w1 hown' hgrow _ hplace
      have hgr1 : Grew w w1 sv v' := (hgr.alloc _).step hgrow (by simpa using hplace)
      go_wp2
      go_ret
      refine ⟨v', rfl, ?_, hgr1⟩
      rw [Hs.out, Hm.out, ← List.append_assoc]
      exact Owns.snoc (by omega) (by rw [List.length_append]) rfl hown'

/-- Behind nothing: a row of its own, and all that was there stays. -/
theorem number_nil (v : Int) (h0 : 0 ≤ v) (hv : v < 18446744073709551616) (w : World) :
    Calls Tryd.prog 28 #[.slice none 0 0, .int .u64 v] w fun e w' => ∃ A c, e = .returned (.slice A (Lib.uvarint v.toNat).length c) ∧ Owns w' w.heap.size 5 (.slice A (Lib.uvarint v.toNat).length c) (Lib.uvarint v.toNat) ∧ Below w.heap.size w w' := by
  obtain ⟨x, rfl⟩ := Int.eq_ofNat_of_zero_le h0
  refine (number_any w.heap.size x (by omega) (.slice none 0 0) [] w (Owns.nil _ _ _) (Nat.le_refl _) (by simp)).mono ?_
  rintro e w' ⟨v', rfl, hown, hg⟩
  rw [List.nil_append] at hown
  obtain ⟨A, c, rfl, _⟩ := hown.slice
  exact ⟨A, c, rfl, hown, hg.below (Nat.le_refl _) (by simp [Value.ownBlock])⟩

end Go.Proofs.YtfelacpaaialfaaDoor

/-
  The laws' example of an index.
-/
import Derived.Test.YtfelacpaaialfaaDoorIxOps
namespace Go.Proofs.YtfelacpaaialfaaDoor
open Go.RowKit
set_option linter.unusedVariables false
set_option linter.unusedSimpArgs false

theorem dg_zero : Tryd.prog.built 39 [] = some (Lib.byteCells zeros).toArray := by kernel_rfl
theorem sp_h1 : findX [] zeros = none ∧ holdX zeros [] = [⟨zeros, 0, 0, 1⟩] := by decide
theorem sp_h2 : (findX [(⟨zeros, 0, 0, 1⟩ : Ix)] zeros).isNone = false ∧ holdX zeros [⟨zeros, 0, 0, 1⟩] = [⟨zeros, 0, 0, 2⟩] := by decide
theorem sp_f1 : freeX zeros [⟨zeros, 0, 0, 2⟩] = ([⟨zeros, 0, 0, 1⟩], false, 0) := by decide
theorem sp_f2 : freeX zeros [⟨zeros, 0, 0, 1⟩] = ([], true, 0) := by decide
theorem nowKeptX {B : Nat} {w w' : World} {L : List Value} (h : w.rangeAt 0 0 L) (hb : Below B w w') (hB : 0 < B) : w'.rangeAt 0 0 L := fun j v hj => by rw [← h j v hj]; exact World.cell?_of_block (hb.block 0 hB)

set_option maxHeartbeats 4000000 in
set_option maxRecDepth 100000 in
theorem speaks11_any (w : World) (h0 : 0 < w.heap.size) (hno : w.rangeAt 0 0 (plC (-1) 0)) : Calls Tryd.prog 4 #[] w fun e w' => e = .returned (.bool true) ∧ Below w.heap.size w w' := by
  obtain ⟨ZL, hZL⟩ : ∃ z, z = Lib.byteCells zeros := ⟨_, rfl⟩
  have HZb := Lib.hid (show Tryd.prog.built 39 [] = some ZL.toArray by rw [hZL]; exact dg_zero)
  have HZL := Lib.hid hZL
  have Hno := Lib.hid hno
  have hz : zeros.length = 32 := rfl
  clear hZL hno
  go_enter Tryd.func4, Tryd.ntmps4
  go_wp2_with fail
  refine Calls.mono (inew_any w) ?_
  rintro e w1 ⟨rfl, hQ1, hb1⟩
  have Hn1 := Lib.hid (nowKeptX Hno.out hb1 h0)
  obtain ⟨mb, hmb⟩ : ∃ z, z = w.heap.size := ⟨_, rfl⟩
  have Hmb := Lib.hid (show w.heap.size ≤ mb by omega)
  have H1 := Lib.hid (ihold_any (mb + 1) mb [] zeros hz w1 (by rw [hmb]; exact hQ1) (by simp) (fun x hx => by cases hx) Hn1.out (Nat.lt_of_lt_of_le h0 hb1.size) ZL HZL.out)
  rw [sp_h1.1, sp_h1.2] at H1
  have Hb1 := Lib.hid hb1
  rw [← hmb]
  clear hQ1 hb1 hmb
  go_wp2_with (refine wpList_builtV rfl _ _ rfl _ rfl ZL.toArray HZb.out ?_)
  refine Calls.mono H1.out ?_
  rintro e w2 ⟨rfl, hQ2, hg2⟩
  have Hb2 := Lib.hid (Hb1.out.grown hg2 Hb1.out.size (fun k hk => by injection hk with hk; have := Hmb.out; omega))
  have H2 := Lib.hid (ihold_any (mb + 1) mb _ zeros hz w2 hQ2 (by simp) (fun x hx => by rw [List.mem_singleton] at hx; rw [hx]; decide) (nowKeptX Hno.out Hb2.out h0) (Nat.lt_of_lt_of_le h0 Hb2.out.size) ZL HZL.out)
  rw [sp_h2.1, sp_h2.2] at H2
  clear hQ2 hg2 H1
  go_wp2_with (refine wpList_builtV rfl _ _ rfl _ rfl ZL.toArray HZb.out ?_)
  refine Calls.mono H2.out ?_
  rintro e w3 ⟨rfl, hQ3, hg3⟩
  have Hb3 := Lib.hid (Hb2.out.grown hg3 Hb2.out.size (fun k hk => by injection hk with hk; have := Hmb.out; omega))
  have H3 := Lib.hid (ifree_any (mb + 1) mb _ zeros hz w3 hQ3 (by simp) (fun x hx => by rw [List.mem_singleton] at hx; rw [hx]; decide) ZL HZL.out)
  rw [sp_f1] at H3
  dsimp only at H3
  clear hQ3 hg3 H2
  go_wp2_with (refine wpList_builtV rfl _ _ rfl _ rfl ZL.toArray HZb.out ?_)
  refine Calls.mono H3.out ?_
  rintro e w4 ⟨rfl, hQ4, hg4⟩
  have Hb4 := Lib.hid (Hb3.out.grown hg4 Hb3.out.size (fun k hk => by injection hk with hk; have := Hmb.out; omega))
  have H4 := Lib.hid (ifree_any (mb + 1) mb _ zeros hz w4 hQ4 (by simp) (fun x hx => by rw [List.mem_singleton] at hx; rw [hx]; decide) ZL HZL.out)
  rw [sp_f2] at H4
  dsimp only at H4
  clear hQ4 hg4 H3
  go_wp2_with (refine wpList_builtV rfl _ _ rfl _ rfl ZL.toArray HZb.out ?_)
  refine Calls.mono H4.out ?_
  rintro e w5 ⟨rfl, hQ5, hg5⟩
  have Hb5 := Lib.hid (Hb4.out.grown hg5 Hb4.out.size (fun k hk => by injection hk with hk; have := Hmb.out; omega))
  clear hQ5 hg5 H4
  go_wp2_with fail
  go_ret
  exact ⟨rfl, Hb5.out⟩

end Go.Proofs.YtfelacpaaialfaaDoor

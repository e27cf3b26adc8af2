/-
  slices.Grow at a row of the call's own: the same bytes, and room for n more.
-/
import Derived.Test.YtlfddijmanlneaaRows
import Derived.Test.YtlfddijmanlneaaNum
import Derived.Test.YtlfddijmanlneaaMem
import Derived.Lib.AppendZerosOnto
import Derived.Lib.SliceRun
import Derived.Lib.Walk
namespace Go.Proofs.Ytlfddijmanlneaa
open Go.RowKit
set_option linter.unusedVariables false

set_option maxHeartbeats 2000000 in
set_option maxRecDepth 100000 in
theorem grow_room (base : Option Addr) (l c n : Nat) (w : World) (hlc : l ≤ c) (hc63 : c ≤ 9223372036854775807) (hn63 : n ≤ 9223372036854775807) (hroom : l + n ≤ c) :
    Calls Try.prog 64 #[.slice base l c, .int .i64 n] w fun e w' => e = .returned (.slice base l c) ∧ w = w' := by
  go_enter Try.func64, Try.ntmps64
  go_wp2
  go_ret
  exact ⟨rfl, rfl⟩

def GrowNew (l c n : Nat) (cs : List Value) (w : World) (e : Ending) (w' : World) : Prop :=
  ∃ (G : Nat) (X : List Value), l + n ≤ G ∧ G ≤ maxLen ∧ X.length = G ∧ X.take c = cs ∧ e = .returned (.slice (some ⟨w.heap.size, 0, none⟩) l G) ∧ w' = w.drew.alloc (.cells X.toArray 5)

set_option maxHeartbeats 4000000 in
set_option maxRecDepth 100000 in
theorem grow_new (base : Option Addr) (l c n : Nat) (cs : List Value) (w : World) (hlc : l ≤ c) (hroom : c < l + n) (hbig : l + n ≤ 140737488355328)
    (hcl : cs.length = c) (hnil : base = none → c = 0) (hcs : ∀ a, base = some a → a.spot = none ∧ ∀ j v, cs[j]? = some v → w.cell? (a.add j) = some v) :
    Calls Try.prog 64 #[.slice base l c, .int .i64 n] w (GrowNew l c n cs w) := by
  obtain ⟨i0, hi, hz0, hz1, hz2⟩ := info_parts byteInfo
  have hck : c + (l + n - c) = l + n := by omega
  have hold : (Builtin.firstCells i0.size c (.slice base c c)).run Try.prog w.drew = .ok cs.toArray w.drew := by
    cases base with
    | none =>
      have h0 := hnil rfl
      subst h0
      have hc0 : cs = [] := List.length_eq_zero_iff.1 hcl
      rw [hc0]
      exact run_firstCells_none w.drew i0.size 0 0 0
    | some a => exact run_firstCells_some w.drew i0.size c a c c cs (by rw [hz1, hcl]; omega) (fun j v hj => (hcs a rfl).2 j v hj)
  have hrz : ∀ ty, (Builtin.append_ #[33, 3] ty #[.slice base c c, .int .i64 ((n : Int) - ((c : Int) - (l : Int)))]).run Try.prog w =
      .ok (.slice (some ⟨w.heap.size, 0, none⟩) (l + n) (grownCap w (l + n) c 5)) (w.drew.alloc (.cells (cs.toArray ++ Builtin.zeroCells (Value.int .u8 0).cells (l + n - c) ++ Builtin.zeroCells (Value.int .u8 0).cells (grownCap w (l + n) c 5 - (l + n))) 5)) := fun ty => by
    have h := Lib.run_append_grow_zeros w 33 3 ty 5 i0 (.int .u8 0) .i64 .i64 Try.underlying33 Try.underlying3 hi hz0 base c c cs hold (l + n - c) (by omega) (by omega) (by omega) (by omega)
      (by rw [hz2]; omega)
      (by rw [hck, hz2]; exact growslice_fits hroom (by omega))
    rw [hck] at h
    rw [show (n : Int) - ((c : Int) - (l : Int)) = ((l + n - c : Nat) : Int) by omega]
    exact h
  have hGn : l + n ≤ grownCap w (l + n) c 5 := grownCap_ge w _ _ _
  have hGm : grownCap w (l + n) c 5 ≤ maxLen := grownCap_le_maxLen w (l + n) c 5 (by unfold maxLen; omega)
  generalize grownCap w (l + n) c 5 = G at *
  have hX : ∃ X : List Value, (cs.toArray ++ Builtin.zeroCells (Value.int .u8 0).cells (l + n - c) ++ Builtin.zeroCells (Value.int .u8 0).cells (G - (l + n))) = X.toArray ∧ X.length = G ∧ X.take c = cs := by
    refine ⟨cs ++ (Builtin.zeroCells (Value.int .u8 0).cells (l + n - c)).toList ++ (Builtin.zeroCells (Value.int .u8 0).cells (G - (l + n))).toList, by simp, ?_, ?_⟩
    · simp [size_zeroCells, Value.cells]; omega
    · rw [List.append_assoc, List.take_append_of_le_length (by omega), List.take_of_length_le (by omega)]
  obtain ⟨X, hXe, hXl, hXt⟩ := hX
  rw [hXe] at hrz
  have HX := Lib.hid hXl
  have HT := Lib.hid hXt
  have hG63 : G ≤ 9223372036854775807 := by unfold maxLen at hGm; omega
  have hneg : ¬ ((n : Int) < 0) := by omega
  clear hold hck hcl hXe hXl hXt hz0 hz1 hz2 hi
  go_enter Try.func64, Try.ntmps64
  cases base with
  | none =>
    have h0 := hnil rfl
    subst h0
    obtain rfl : l = 0 := by omega
    go_wp2_with (at_builtin; refine Lib.wpList_append_run _ rfl _ _ _ _ rfl _ _ rfl rfl _ _ (hrz _) ?_)
    all_goals (go_ret; exact ⟨G, X, hGn, hGm, HX.out, HT.out, rfl, rfl⟩)
  | some a =>
    obtain ⟨ab, ao, asp⟩ := a
    go_wp2_with (at_builtin; refine Lib.wpList_append_run _ rfl _ _ _ _ rfl _ _ rfl rfl _ _ (hrz _) ?_)
    all_goals (go_ret; exact ⟨G, X, hGn, hGm, HX.out, HT.out, rfl, rfl⟩)

/-- At a row of the call's own: a row of its own with the same bytes and room for n more (n at least 1). -/
theorem grow_any (B n : Nat) (sv : Value) (bs : List UInt8) (w : World) (hown : Owns w B 5 sv bs) (hB : B ≤ w.heap.size) (h1 : 1 ≤ n) (hbig : bs.length + n ≤ 140737488355328) :
    Calls Try.prog 64 #[sv, .int .i64 n] w fun e w' => ∃ g c, e = .returned (.slice (some ⟨g, 0, none⟩) bs.length c) ∧ Hid (bs.length + n ≤ c) ∧ Owns w' B 5 (.slice (some ⟨g, 0, none⟩) bs.length c) bs ∧ Grew w w' sv (.slice (some ⟨g, 0, none⟩) bs.length c) := by
  have hcopy := hown
  rcases hown.2 with ⟨rfl, h0⟩ | ⟨g, cap, cur, rfl, hBg, hg, hle, hm, hcs, htk⟩
  · obtain rfl : bs = [] := List.eq_nil_of_length_eq_zero h0
    refine (grow_new none 0 0 n [] w (by omega) (by omega) (by omega) rfl (fun _ => rfl) (fun a h => by cases h)).mono ?_
    rintro e w' ⟨G, X, hG, hGm, hXl, hXt, rfl, rfl⟩
    refine ⟨w.heap.size, G, rfl, by simpa [Hid] using hG, ?_, ?_⟩
    · exact Owns.of_row hB (by simp) hGm (heap_alloc_new w.drew _) hXl (by simp [Lib.byteCells])
    · exact (((Grew.refl w _).drew).alloc _).step (World.grownBy.refl _ _) (.inl rfl) |>.1 |> fun h => ⟨h, .inr ⟨w.heap.size, rfl, Nat.le_refl _⟩⟩
  · have hl : bs.length ≤ cap := hle
    by_cases hroom : bs.length + n ≤ cap
    · have hm' : cap ≤ 9223372036854775807 := by unfold maxLen at hm; omega
      refine (grow_room (some ⟨g, 0, none⟩) bs.length cap n w hl hm' (by omega) hroom).mono ?_
      rintro e w' ⟨rfl, rfl⟩
      exact ⟨g, cap, rfl, hroom, hcopy, Grew.refl _ _⟩
    · have hcl : cur.toList.length = cap := by simpa using hcs
      refine (grow_new (some ⟨g, 0, none⟩) bs.length cap n cur.toList w hl (by omega) (by omega) hcl (fun h => by cases h) (fun a h => ?_)).mono ?_
      · injection h with h
        subst h
        refine ⟨rfl, fun j v hj => ?_⟩
        have hadd : (⟨g, 0, none⟩ : Addr).add j = ⟨g, j, none⟩ := by unfold Addr.add; split <;> simp_all
        rw [hadd, cell_of_row w g j cur 5 (0, 0) hg]
        simpa using hj
      · rintro e w' ⟨G, X, hG, hGm, hXl, hXt, rfl, rfl⟩
        refine ⟨w.heap.size, G, rfl, hG, ?_, ?_⟩
        · refine Owns.of_row hB (by omega) hGm (heap_alloc_new w.drew _) hXl ?_
          rw [← htk, ← hXt, List.take_take, Nat.mul_one, Nat.min_eq_left hl]
        · exact ⟨((Grew.refl w _).drew.alloc _).1, .inr ⟨w.heap.size, rfl, Nat.le_refl _⟩⟩

end Go.Proofs.Ytlfddijmanlneaa

/-
  Grow Bytes Tagged Same TrieMath RNib TrieNib: texts on the way to the laws, as one.
-/
import Derived.Test.YtblgmnjegkfoaaaGreatRows
import Derived.Test.YtblgmnjegkfoaaaGreatK03
import Derived.Test.YtblgmnjegkfoaaaGreatK01
import Derived.Lib.AppendZerosOnto
import Derived.Lib.SliceRun
import Derived.Lib.Walk
import Derived.Outline
import Derived.Handy
import Derived.Test.YtblgmnjegkfoaaaGreatK04
import Derived.BigQuiet
import Derived.Deep.QuietTactic
import Derived.Deep.DeepCutAuto
import Derived.Deep.CutBlock
import Derived.IntWalk
import Derived.StillTailTactics
set_option maxRecDepth 100000
namespace Go.Proofs.YtblgmnjegkfoaaaGreat
open Go.RowKit
set_option linter.unusedVariables false

set_option maxHeartbeats 2000000 in
set_option maxRecDepth 100000 in
theorem grow_room (base : Option Addr) (l c n : Nat) (w : World) (hlc : l ≤ c) (hc63 : c ≤ 9223372036854775807) (hn63 : n ≤ 9223372036854775807) (hroom : l + n ≤ c) :
    Calls Tryz.prog 69 #[.slice base l c, .int .i64 n] w fun e w' => e = .returned (.slice base l c) ∧ w = w' := by
  go_enter Tryz.func69, Tryz.ntmps69
  go_wp2
  go_ret
  exact ⟨rfl, rfl⟩

def GrowNew (l c n : Nat) (cs : List Value) (w : World) (e : Ending) (w' : World) : Prop :=
  ∃ (G : Nat) (X : List Value), l + n ≤ G ∧ G ≤ maxLen ∧ X.length = G ∧ X.take c = cs ∧ e = .returned (.slice (some ⟨w.heap.size, 0, none⟩) l G) ∧ w' = w.drew.alloc (.cells X.toArray 5)

set_option maxHeartbeats 4000000 in
set_option maxRecDepth 100000 in
theorem grow_new (base : Option Addr) (l c n : Nat) (cs : List Value) (w : World) (hlc : l ≤ c) (hroom : c < l + n) (hbig : l + n ≤ 140737488355328)
    (hcl : cs.length = c) (hnil : base = none → c = 0) (hcs : ∀ a, base = some a → a.spot = none ∧ ∀ j v, cs[j]? = some v → w.cell? (a.add j) = some v) :
    Calls Tryz.prog 69 #[.slice base l c, .int .i64 n] w (GrowNew l c n cs w) := by
  obtain ⟨i0, hi, hz0, hz1, hz2⟩ := info_parts byteInfo
  have hck : c + (l + n - c) = l + n := by omega
  have hold : (Builtin.firstCells i0.size c (.slice base c c)).run Tryz.prog w.drew = .ok cs.toArray w.drew := by
    cases base with
    | none =>
      have h0 := hnil rfl
      subst h0
      have hc0 : cs = [] := List.length_eq_zero_iff.1 hcl
      rw [hc0]
      exact run_firstCells_none w.drew i0.size 0 0 0
    | some a => exact run_firstCells_some w.drew i0.size c a c c cs (by rw [hz1, hcl]; omega) (fun j v hj => (hcs a rfl).2 j v hj)
  have hrz : ∀ ty, (Builtin.append_ #[38, 3] ty #[.slice base c c, .int .i64 ((n : Int) - ((c : Int) - (l : Int)))]).run Tryz.prog w =
      .ok (.slice (some ⟨w.heap.size, 0, none⟩) (l + n) (grownCap w (l + n) c 5)) (w.drew.alloc (.cells (cs.toArray ++ Builtin.zeroCells (Value.int .u8 0).cells (l + n - c) ++ Builtin.zeroCells (Value.int .u8 0).cells (grownCap w (l + n) c 5 - (l + n))) 5)) := fun ty => by
    have h := Lib.run_append_grow_zeros w 38 3 ty 5 i0 (.int .u8 0) .i64 .i64 Tryz.underlying38 Tryz.underlying3 hi hz0 base c c cs hold (l + n - c) (by omega) (by omega) (by omega) (by omega)
      (by rw [hz2]; omega)
      (by rw [hck, hz2]; exact growslice_fits hroom (by omega))
    rw [hck] at h
    rw [show (n : Int) - ((c : Int) - (l : Int)) = ((l + n - c : Nat) : Int) by omega]
    exact h
  have hGn : l + n ≤ grownCap w (l + n) c 5 := grownCap_ge w _ _ _
  have hGm : grownCap w (l + n) c 5 ≤ maxLen := grownCap_le_maxLen w (l + n) c 5 (by unfold maxLen; omega)
  generalize grownCap w (l + n) c 5 = G at *
  have hX : ∃ X : List Value, (cs.toArray ++ Builtin.zeroCells (Value.int .u8 0).cells (l + n - c) ++ Builtin.zeroCells (Value.int .u8 0).cells (G - (l + n))) = X.toArray ∧ X.length = G ∧ X.take c = cs := by
    refine ⟨cs ++ (Builtin.zeroCells (Value.int .u8 0).cells (l + n - c)).toList ++ (Builtin.zeroCells (Value.int .u8 0).cells (G - (l + n))).toList, by simp, ?_, ?_⟩
    · simp [size_zeroCells, Value.cells]; omega
    · rw [List.append_assoc, List.take_append_of_le_length (by omega), List.take_of_length_le (by omega)]
  obtain ⟨X, hXe, hXl, hXt⟩ := hX
  rw [hXe] at hrz
  have HX := Lib.hid hXl
  have HT := Lib.hid hXt
  have hG63 : G ≤ 9223372036854775807 := by unfold maxLen at hGm; omega
  have hneg : ¬ ((n : Int) < 0) := by omega
  clear hold hck hcl hXe hXl hXt hz0 hz1 hz2 hi
  go_enter Tryz.func69, Tryz.ntmps69
  cases base with
  | none =>
    have h0 := hnil rfl
    subst h0
    obtain rfl : l = 0 := by omega
    go_wp2_with (at_builtin; refine Lib.wpList_append_run _ rfl _ _ _ _ rfl _ _ rfl rfl _ _ (hrz _) ?_)
    all_goals (go_ret; exact ⟨G, X, hGn, hGm, HX.out, HT.out, rfl, rfl⟩)
  | some a =>
    obtain ⟨ab, ao, asp⟩ := a
    go_wp2_with (at_builtin; refine Lib.wpList_append_run _ rfl _ _ _ _ rfl _ _ rfl rfl _ _ (hrz _) ?_)
    all_goals (go_ret; exact ⟨G, X, hGn, hGm, HX.out, HT.out, rfl, rfl⟩)

/-- At a row of the call's own: a row of its own with the same bytes and room for n more (n at least 1). -/
theorem grow_any (B n : Nat) (sv : Value) (bs : List UInt8) (w : World) (hown : Owns w B 5 sv bs) (hB : B ≤ w.heap.size) (h1 : 1 ≤ n) (hbig : bs.length + n ≤ 140737488355328) :
    Calls Tryz.prog 69 #[sv, .int .i64 n] w fun e w' => ∃ g c, e = .returned (.slice (some ⟨g, 0, none⟩) bs.length c) ∧ Hid (bs.length + n ≤ c) ∧ Owns w' B 5 (.slice (some ⟨g, 0, none⟩) bs.length c) bs ∧ Grew w w' sv (.slice (some ⟨g, 0, none⟩) bs.length c) := by
  have hcopy := hown
  rcases hown.2 with ⟨rfl, h0⟩ | ⟨g, cap, cur, rfl, hBg, hg, hle, hm, hcs, htk⟩
  · obtain rfl : bs = [] := List.eq_nil_of_length_eq_zero h0
    refine (grow_new none 0 0 n [] w (by omega) (by omega) (by omega) rfl (fun _ => rfl) (fun a h => by cases h)).mono ?_
    rintro e w' ⟨G, X, hG, hGm, hXl, hXt, rfl, rfl⟩
    refine ⟨w.heap.size, G, rfl, by simpa [Hid] using hG, ?_, ?_⟩
    · exact Owns.of_row hB (by simp) hGm (heap_alloc_new w.drew _) hXl (by simp [Lib.byteCells])
    · exact (((Grew.refl w _).drew).alloc _).step (World.grownBy.refl _ _) (.inl rfl) |>.1 |> fun h => ⟨h, .inr ⟨w.heap.size, rfl, Nat.le_refl _⟩⟩
  · have hl : bs.length ≤ cap := hle
    by_cases hroom : bs.length + n ≤ cap
    · have hm' : cap ≤ 9223372036854775807 := by unfold maxLen at hm; omega
      refine (grow_room (some ⟨g, 0, none⟩) bs.length cap n w hl hm' (by omega) hroom).mono ?_
      rintro e w' ⟨rfl, rfl⟩
      exact ⟨g, cap, rfl, hroom, hcopy, Grew.refl _ _⟩
    · have hcl : cur.toList.length = cap := by simpa using hcs
      refine (grow_new (some ⟨g, 0, none⟩) bs.length cap n cur.toList w hl (by omega) (by omega) hcl (fun h => by cases h) (fun a h => ?_)).mono ?_
      · injection h with h
        subst h
        refine ⟨rfl, fun j v hj => ?_⟩
        have hadd : (⟨g, 0, none⟩ : Addr).add j = ⟨g, j, none⟩ := by unfold Addr.add; split <;> simp_all
        rw [hadd, cell_of_row w g j cur 5 (0, 0) hg]
        simpa using hj
      · rintro e w' ⟨G, X, hG, hGm, hXl, hXt, rfl, rfl⟩
        refine ⟨w.heap.size, G, rfl, hG, ?_, ?_⟩
        · refine Owns.of_row hB (by omega) hGm (heap_alloc_new w.drew _) hXl ?_
          rw [← htk, ← hXt, List.take_take, Nat.mul_one, Nat.min_eq_left hl]
        · exact ⟨((Grew.refl w _).drew.alloc _).1, .inr ⟨w.heap.size, rfl, Nat.le_refl _⟩⟩

end Go.Proofs.YtblgmnjegkfoaaaGreat

namespace Go.Proofs.YtblgmnjegkfoaaaGreat
open Go.RowKit
set_option linter.unusedVariables false

def BytesPost (B : Nat) (sv : Value) (l : List UInt8) (w : World) (e : Ending) (w' : World) : Prop :=
  ∃ v', e = .returned v' ∧ Owns w' B 5 v' l ∧ Grew w w' sv v'

set_option maxHeartbeats 4000000 in
set_option maxRecDepth 100000 in
theorem bytes_any (B : Nat) (sv : Value) (out bs : List UInt8) (A : Option Addr) (c : Nat) (w : World) (hown : Owns w B 5 sv out) (hB : B ≤ w.heap.size) (hb : Bs w B A bs) (hc : bs.length ≤ c)
    (hlim : out.length + bs.length + 20 ≤ 140737488355328) :
    Calls Tryz.prog 48 #[sv, .slice A bs.length c] w (BytesPost B sv (out ++ (Lib.uvarint bs.length ++ bs)) w) := by
  have hk1 := Lib.uvarint_pos bs.length
  have hk2 := Lib.uvarint_length64 (x := bs.length) (by omega)
  obtain ⟨i0, hi, hz0, hz1, hz2⟩ := info_parts byteInfo
  have hlt := hown.lt
  obtain ⟨A0, c0, rfl, hoc, hom, _⟩ := hown.slice
  go_enter Tryz.func48, Tryz.ntmps48
  go_wp2_with (at_make; refine wpList_make_own _ rfl _ _ 38 rfl w.heap.size 5 i0 (.int .u8 0) 1 Tryz.underlying38 hi hz0 hz1 _ _ _ 10 rfl rfl rfl (by rw [hz2]; decide) (by unfold maxLen; omega) (Nat.le_refl _) ?_; intro w1 hmk hg1)
  have hs1 := hg1.size
  refine (number_any w.heap.size bs.length (by omega) _ [] w1 hmk hs1 (by simp)).mono ?_
  rintro e w2 ⟨v1, rfl, hcnt, hgr⟩
  rw [List.nil_append] at hcnt
  have hU : Hid (∃ U, Lib.uvarint bs.length = U) := ⟨_, rfl⟩
  obtain ⟨U, hU⟩ := hU.out
  rw [hU] at hcnt hk1 hk2 ⊢
  have HU := Lib.hid hU
  clear hU
  have hB2 : Below w.heap.size w w2 := ((Below.refl _ w).grown hg1 (Nat.le_refl _) (by simp)).trans (hgr.below hs1 (by simp [Value.ownBlock]))
  have hown2 := hown.below hB2 (fun k hk => (hlt k hk).2)
  have hclt := hcnt.lt
  obtain ⟨A1, c1, rfl, hcc, hcm, _⟩ := hcnt.slice
  go_wp2_with fail
  rw [show ((U.length : Int) + (bs.length : Int)) = ((U.length + bs.length : Nat) : Int) from by omega]
  refine (grow_any B (U.length + bs.length) _ out w2 hown2 (Nat.le_trans hB hB2.size) (by omega) (by omega)).mono ?_
  rintro e w3 ⟨g, c3, rfl, hroom, hown3, hgr3⟩
  have hr := hroom.out
  obtain ⟨_, hBg, hg3, _, hc3m, cur, hcur, hcl, hct⟩ := hown3.row
  have hBw3 : Below B w w3 := (hB2.mono hB).trans (hgr3.below (Nat.le_trans hB hB2.size) (fun k hk => (hlt k hk).1))
  have hb3 := hb.below hBw3 (Nat.le_refl _)
  have hcnt3 : Owns w3 w.heap.size 5 (.slice A1 U.length c1) U := hcnt.apart hgr3.1 (fun k hk e => by have := (hclt k hk).1; have := (hlt k e).2; omega)
  have hc3m' : c3 ≤ 9223372036854775807 := by unfold maxLen at hc3m; omega
  have hXl : (Lib.byteCells bs).length = bs.length := by simp [Lib.byteCells]
  have hUl : (Lib.byteCells U).length = U.length := by simp [Lib.byteCells]
  have hXp := hb3.cells
  have hX1 := byteCells_one bs
  have hU1 := byteCells_one U
  have hUp : ∀ w4, Wrote g w3 w4 → 0 < (Lib.byteCells U).length → ∃ ad, A1 = some ad ∧ ∀ j v, (Lib.byteCells U)[j]? = some v → w4.cell? (ad.add j) = some v := by
    intro w4 hw4 hp
    have hne : ∀ k, (Value.slice A1 U.length c1).ownBlock = some k → some g ≠ some k := by
      intro k hk e
      injection e with e
      subst e
      rcases hgr3.2 with h | ⟨k, h, hk3⟩
      · have h1 := (hlt g (by simpa [Value.ownBlock] using h.symm)).2
        have h2 := (hclt g hk).1
        omega
      · have h1 := (hclt g hk).2
        have h2 : g = k := by simpa [Value.ownBlock] using h
        omega
    exact ((hcnt3.apart hw4.1 hne).bs).2.cells hp
  have hinfo : (Tryz.prog.info? 5).map (·.size) = some 1 := by kernel_rfl
  have hg0 : (⟨g, 0, none⟩ : Addr).add out.length = ⟨g, out.length, none⟩ := by unfold Addr.add; split <;> simp_all
  by_cases hcap : c3 = out.length + U.length
  · have hn0 : bs.length = 0 := by omega
    obtain rfl : bs = [] := List.eq_nil_of_length_eq_zero hn0
    obtain ⟨w5, hr5, hcur5, hw5⟩ := run_copy_any (P := Tryz.prog) w3 38 38 3 5 Tryz.underlying38 hinfo (some ⟨g, out.length, none⟩) A1 U.length U.length U.length c1 g out.length _ 5 hcur
      (Lib.byteCells U) (by rw [hUl]; exact (Nat.min_self _).symm) (fun hp => ⟨rfl, hUp w3 (Wrote.refl _ _) hp⟩) (by omega) hU1
    have hr4 := run_copy_none (P := Tryz.prog) w3 38 38 3 5 (some ⟨g, 0, none⟩) A 0 0 0 c Tryz.underlying38 hinfo (Nat.min_self _)
    have hown5 : Owns w5 B 5 (.slice (some ⟨g, 0, none⟩) (out.length + U.length) c3) (out ++ (U ++ [])) := by
      have := splice_two (cur := cur) (O := Lib.byteCells out) (X := []) (Y := Lib.byteCells U) (n := 0) hct (by simp [Lib.byteCells]) rfl hUl (by simp only [Nat.add_zero]; omega)
      have h0 : splice cur (out.length + U.length) [] = cur := by simp [splice]
      rw [h0] at this
      have h1 := Owns.of_row (l := out ++ (U ++ [])) hBg (by simp only [List.length_append, List.length_nil]; omega) hc3m hcur5.out (by rw [length_splice _ _ _ (by omega)]; exact hcl)
        (by simp only [List.length_append, Lib.byteCells_append, List.length_nil]; rw [Nat.add_zero]; rw [Nat.add_zero] at this; rw [this]; simp [Lib.byteCells])
      simpa using h1
    have hgrf : Grew w w5 (.slice A0 out.length c0) (.slice (some ⟨g, 0, none⟩) (out.length + U.length) c3) := by
      refine Grew.wrote ?_ rfl hw5
      exact (Below.grew hB2 _).trans hgr3
    clear hXl hUl hXp hUp hcl hct hX1 hU1 hcur hz0 hz1 hz2 hi hg0 hcur5
    subst hcap
    go_wp2_with fail
    · exfalso
      simp_all
    · go_ret
      exact ⟨_, rfl, by rw [HU.out]; exact hown5, hgrf⟩
  · have hcap' : out.length + U.length < c3 := by omega
    clear hcap
    obtain ⟨w4, hr4, hcur4, hw4⟩ := run_copy_any (P := Tryz.prog) w3 38 38 3 5 Tryz.underlying38 hinfo (some ⟨g, out.length + U.length, none⟩) A bs.length (c3 - (out.length + U.length)) bs.length c g (out.length + U.length) cur 5 hcur
      (Lib.byteCells bs) (by rw [hXl]; exact (Nat.min_self _).symm) (fun hp => ⟨rfl, hXp hp⟩) (by omega) hX1
    obtain ⟨w5, hr5, hcur5, hw5⟩ := run_copy_any (P := Tryz.prog) w4 38 38 3 5 Tryz.underlying38 hinfo (some ⟨g, out.length, none⟩) A1 (out.length + U.length + bs.length - out.length) (c3 - out.length) U.length c1 g out.length _ 5 hcur4.out
      (Lib.byteCells U) (by rw [hUl]; exact (Nat.min_eq_left (by omega)).symm) (fun hp => ⟨rfl, hUp w4 hw4 hp⟩) (by rw [length_splice _ _ _ (by omega)]; omega) hU1
    have hown5 : Owns w5 B 5 (.slice (some ⟨g, 0, none⟩) (out.length + U.length + bs.length) c3) (out ++ (U ++ bs)) := by
      have := splice_two (cur := cur) (O := Lib.byteCells out) (X := Lib.byteCells bs) (Y := Lib.byteCells U) hct (by simp [Lib.byteCells]) hXl hUl (by omega)
      have h1 := Owns.of_row (l := out ++ (U ++ bs)) hBg (by simp only [List.length_append]; omega) hc3m hcur5.out (by rw [length_splice _ _ _ (by rw [length_splice _ _ _ (by omega)]; omega), length_splice _ _ _ (by omega)]; exact hcl)
        (by simp only [List.length_append, Lib.byteCells_append]; rw [← Nat.add_assoc, this, List.append_assoc])
      simpa only [List.length_append, ← Nat.add_assoc] using h1
    have hgrf : Grew w w5 (.slice A0 out.length c0) (.slice (some ⟨g, 0, none⟩) (out.length + U.length + bs.length) c3) := by
      refine Grew.wrote (Grew.wrote ?_ rfl hw4) rfl hw5
      exact (Below.grew hB2 _).trans hgr3
    clear hXl hUl hXp hUp hcl hct hX1 hU1 hcur hz0 hz1 hz2 hi hg0 hcur4 hcur5
    go_wp2_with fail
    go_ret
    exact ⟨_, rfl, by rw [HU.out]; exact hown5, hgrf⟩

end Go.Proofs.YtblgmnjegkfoaaaGreat

namespace Go.Proofs.YtblgmnjegkfoaaaGreat
open Go.RowKit
set_option linter.unusedVariables false

/-- What is digested of rows for a use. -/
def tagF (use : UInt8) (rs : List (List UInt8)) : List UInt8 := use :: rs.flatMap fun r => Lib.uvarint r.length ++ r

/-- Rows of bytes, as they lie in memory. -/
def RowsAt (w : World) (B : Nat) (A : Option Addr) (rs : List (List UInt8)) : Prop :=
  0 < rs.length → ∃ blk off, A = some ⟨blk, off, none⟩ ∧ blk < B ∧ ∀ i, i < rs.length → ∃ A' c, w.cell? ⟨blk, off + i, none⟩ = some (.slice A' (rs.getD i []).length c) ∧ (rs.getD i []).length ≤ c ∧ c ≤ maxLen ∧ Bs w B A' (rs.getD i [])

theorem RowsAt.keep {w w' : World} {B : Nat} {A : Option Addr} {rs : List (List UInt8)} (h : RowsAt w B A rs) (hk : ∀ b o, b < B → w'.cell? ⟨b, o, none⟩ = w.cell? ⟨b, o, none⟩) : RowsAt w' B A rs := fun hn => by
  obtain ⟨blk, off, e, hb, hr⟩ := h hn
  refine ⟨blk, off, e, hb, fun i hi => ?_⟩
  obtain ⟨A', c, h1, h2, h3, h4⟩ := hr i hi
  exact ⟨A', c, (hk _ _ hb).trans h1, h2, h3, h4.keep hk⟩
theorem RowsAt.more {w : World} {B B' : Nat} {A : Option Addr} {rs : List (List UInt8)} (h : RowsAt w B A rs) (hB : B ≤ B') : RowsAt w B' A rs := fun hn => by
  obtain ⟨blk, off, e, hb, hr⟩ := h hn
  refine ⟨blk, off, e, by omega, fun i hi => ?_⟩
  obtain ⟨A', c, h1, h2, h3, h4⟩ := hr i hi
  exact ⟨A', c, h1, h2, h3, h4.more hB⟩
theorem RowsAt.below {w w' : World} {B B' : Nat} {A : Option Addr} {rs : List (List UInt8)} (h : RowsAt w B A rs) (hb : Below B' w w') (hB : B ≤ B') : RowsAt w' B A rs :=
  h.keep fun b o hlt => hb.cell (p := ⟨b, o, none⟩) (show b < B' by omega)

theorem tagF_snoc (use : UInt8) (rs : List (List UInt8)) {k : Nat} (hk : k < rs.length) : tagF use (rs.take (k + 1)) = tagF use (rs.take k) ++ (Lib.uvarint (rs.getD k []).length ++ rs.getD k []) := by
  unfold tagF
  rw [List.take_succ_eq_append_getElem hk, List.flatMap_append]
  simp [List.getD, hk]
theorem tagF_le (use : UInt8) (rs : List (List UInt8)) (k : Nat) : (tagF use (rs.take k)).length ≤ (tagF use rs).length := by
  have h : rs = rs.take k ++ rs.drop k := (List.take_append_drop k rs).symm
  have h2 : tagF use rs = tagF use (rs.take k) ++ ((rs.drop k).flatMap fun r => Lib.uvarint r.length ++ r) := by
    conv => lhs; rw [h]
    unfold tagF
    rw [List.flatMap_append]
    rfl
  rw [h2, List.length_append]
  omega

def TagPost (use : UInt8) (rs : List (List UInt8)) (w : World) (e : Ending) (w' : World) : Prop :=
  e = .returned (digV (shaF (tagF use rs))) ∧ Below w.heap.size w w'

set_option maxHeartbeats 8000000 in
set_option maxRecDepth 100000 in
theorem tagged_any (use : UInt8) (rs : List (List UInt8)) (A : Option Addr) (n c : Nat) (w : World) (hn : rs.length = n) (hn2 : n ≤ 1000000) (hr : RowsAt w w.heap.size A rs) (hlim : (tagF use rs).length ≤ 1000000) :
    Calls Tryz.prog 27 #[.int .u8 (use.toNat : Nat), .slice A n c] w (TagPost use rs w) := by
  have hul : use.toNat < 256 := UInt8.toNat_lt _
  obtain ⟨W1, hW1⟩ : ∃ W1, W1 = w.alloc (.cells (Lib.byteCells zeros).toArray 24) := ⟨_, rfl⟩
  have hW1s : W1.heap.size = w.heap.size + 1 := by rw [hW1]; simp
  have hR1 : Arr W1 w.heap.size 24 (Lib.byteCells zeros) := by rw [hW1]; exact Arr.new w _ _
  have hb1 : Below w.heap.size w W1 := by rw [hW1]; exact (Below.refl _ w).alloc (Nat.le_refl _) _
  have hown1 : Owns (W1.alloc (.cells #[.int .u8 (use.toNat : Nat)] 5)) W1.heap.size 5 (.slice (some ⟨W1.heap.size, 0, none⟩) 1 1) (tagF use (rs.take 0)) := by
    have h := Owns.of_row (w := W1.alloc (.cells #[.int .u8 (use.toNat : Nat)] 5)) (B := W1.heap.size) (T := 5) (g := W1.heap.size) (c := 1) (l := [use]) (cur := [.int .u8 (use.toNat : Nat)]) (Nat.le_refl _) (Nat.le_refl _) (by unfold maxLen; omega) (heap_alloc_new W1 _) rfl rfl
    simpa [tagF] using h
  have hb2 : Below W1.heap.size W1 (W1.alloc (.cells #[.int .u8 (use.toNat : Nat)] 5)) := (Below.refl _ W1).alloc (Nat.le_refl _) _
  have HW1 := Lib.hid hW1
  have Hn := Lib.hid hn
  obtain ⟨B1, hB1⟩ : ∃ B, B = w.heap.size + 1 := ⟨_, rfl⟩
  rw [hW1s, ← hB1] at hown1 hb2
  have hB1w : w.heap.size < B1 := by omega
  have hB1s : B1 ≤ W1.heap.size := by omega
  obtain ⟨u, hu⟩ : ∃ u, use.toNat = u := ⟨_, rfl⟩
  rw [hu] at hown1 hb2 hul ⊢
  have Hu := Lib.hid hu
  have HB1 := Lib.hid hB1
  clear hW1 hn hW1s hu hB1
  go_enter Tryz.func27, Tryz.ntmps27
  go_wp2_with fail
  change Code.wp _ _ _ _ ((w.alloc (.cells (Lib.byteCells zeros).toArray 24)).alloc (.cells #[.int .u8 (u : Nat)] 5))
  rw [← HW1.out, show w.heap.size + 1 = B1 from HB1.out.symm]
  go_loopw [5, 12] (fun v i wr => ∃ k : Nat, k ≤ n ∧ i = .int .i64 k ∧ Owns wr B1 5 v (tagF use (rs.take k)) ∧ Below B1 W1 wr) (fun _ i _ => n - (intOf i).toNat)
  case atStart => exact ⟨0, by omega, rfl, hown1, hb2⟩
  case round =>
    clear hown1 hb2
    obtain ⟨k, hk, rfl, hown, hbel⟩ := hrel
    have hbz := hbel.size
    by_cases hlt : k < n
    · have hkr : k < rs.length := by rw [Hn.out]; exact hlt
      have hrr : RowsAt wr w.heap.size A rs := (hr.below hb1 (Nat.le_refl _)).below hbel (by omega)
      obtain ⟨blk, off, rfl, hblk, hrow⟩ := hrr (by omega)
      obtain ⟨A', c', hcell, hlc, hcm, hbs⟩ := hrow k hkr
      have hsn := tagF_snoc use rs hkr
      have hle := tagF_le use rs (k + 1)
      rw [hsn] at hle
      obtain ⟨r, hre⟩ : ∃ r, rs.getD k [] = r := ⟨_, rfl⟩
      rw [hre] at hcell hlc hbs hsn hle
      obtain ⟨Y, hY⟩ : ∃ Y, tagF use (rs.take k) = Y := ⟨_, rfl⟩
      rw [hY] at hown hsn hle
      simp only [List.length_append] at hle
      have hki : (k : Int) < (n : Int) := by omega
      have hd1 : decide (k < n) = true := by simp; omega
      have Hsn := Lib.hid hsn
      have hlt1 := hown.lt
      clear hsn hre hY hrow
      go_wp2_with (go_at_call 48; refine Calls.mono (bytes_any B1 _ Y r A' c' wr hown (by omega) (hbs.more (by omega)) hlc (by omega)) ?_; rintro e w5 ⟨v5, rfl, hown5, hgr5⟩)
      have hb5 : Below B1 W1 w5 := hbel.trans (hgr5.below (by omega) (fun j hj => (hlt1 j hj).1))
      go_roundw
      case rel => exact ⟨k + 1, by omega, by go_num, by rw [Hsn.out]; exact hown5, hb5⟩
      case measure => simp [intOf]; omega
    · have hkn : k = n := by omega
      have hd1 : decide (k < n) = false := by simp; omega
      have htk : rs.take k = rs := List.take_of_length_le (by rw [Hn.out]; omega)
      rw [htk] at hown
      obtain ⟨A6, c6, rfl, h61, h62, h63⟩ := hown.slice
      obtain ⟨L, hL⟩ : ∃ L, tagF use rs = L := ⟨_, rfl⟩
      rw [hL] at hlim h61 h63 ⊢
      obtain ⟨m, hm⟩ : ∃ m, L.length = m := ⟨_, rfl⟩
      rw [hm] at hlim h61 ⊢
      have Hm := Lib.hid hm
      have HL := Lib.hid hL
      have hRr : Arr wr w.heap.size 24 (Lib.byteCells zeros) := hR1.below hbel (by omega)
      have hBw : Below w.heap.size w wr := hb1.trans (hbel.mono (by omega))
      obtain ⟨k0, rfl⟩ : ∃ x, x = k := ⟨_, rfl⟩
      clear hown htk hkn hm hL hR1 hlt
      obtain ⟨DV, hDV⟩ : ∃ DV, DV = (Lib.byteCells (shaF L)).toArray := ⟨_, rfl⟩
      have hDs : DV.size = 32 := by rw [hDV]; simp [Lib.byteCells, shaF_length]
      have HDi := Lib.hid (show (Tryz.prog.info? 24).map (·.size) = some DV.size by rw [hDs]; exact digInfo)
      have HD1 := Lib.hid (show DV.all (·.oneCell') = true by rw [hDV]; simpa using byteCells_one (shaF L))
      have Hzs := Lib.hid (show (Lib.byteCells zeros).toArray.size = DV.size by rw [hDs]; simp [Lib.byteCells, zeros])
      have HDV := Lib.hid hDV
      clear hDV hDs
      go_wp2_with fail
      refine Calls.mono (sum_any L A6 c6 m wr Hm.out h63 h61 h62 (by omega)) ?_
      rintro e w5 ⟨rfl, hb5⟩
      unfold digV
      rw [← HDV.out]
      have hR5 : Hid (w5.heap[w.heap.size]? = some (.cells (Lib.byteCells zeros).toArray 24 (0, 0))) := hRr.below hb5 (by omega)
      go_wp2_with (refine wpList_store_row rfl _ _ _ rfl w.heap.size DV rfl rfl 24 _ hR5.out HDi.out Hzs.out HD1.out ?_)
      have hset : Hid ((w5.setRow w.heap.size DV).heap[w.heap.size]? = some (.cells DV 24 (0, 0))) := setRow_heap w5 w.heap.size _ DV _ _ hR5.out
      have hbf : Below w.heap.size w (w5.setRow w.heap.size DV) := (hBw.trans (hb5.mono (by omega))).trans (((Only.refl (fun k => k = w.heap.size) w5).setRow (.inl rfl) DV).below (by have := hb5.size; omega) (by rintro k rfl; omega))
      exact bodyPost_ret (v := .agg DV) (results_cell_row (by rfl) _ _ w.heap.size 24 DV (0, 0) _ (by rfl) hset.out Tryz.underlying24 rfl HDi.out) rfl ⟨by unfold digV; rw [HDV.out, HL.out], hbf⟩

end Go.Proofs.YtblgmnjegkfoaaaGreat

namespace Go.Proofs.YtblgmnjegkfoaaaGreat
open Go.RowKit
set_option linter.unusedVariables false

set_option maxHeartbeats 4000000 in
set_option maxRecDepth 100000 in
theorem same_any (B B' : Nat) (A A' : Option Addr) (c c' : Nat) (l m : List UInt8) (w : World) (hA : Bs w B A l) (hA' : Bs w B' A' m) (hl : l.length ≤ maxLen) (hm : m.length ≤ maxLen) :
    Calls Tryz.prog 15 #[.slice A l.length c, .slice A' m.length c'] w fun e w' => e = .returned (.bool (decide (l = m))) ∧ Drawn w w' := by
  unfold maxLen at hl hm
  by_cases hlen : l.length = m.length
  · have hb : ((l.length : Int) != (m.length : Int)) = false := by simp [hlen]
    have Hlen := Lib.hid hlen
    clear hlen
    go_enter Tryz.func15, Tryz.ntmps15
    go_wp2
    go_loopw [5] (fun i wr => ∃ k : Nat, i = .int .i64 k ∧ k ≤ l.length ∧ Hid (l.take k = m.take k) ∧ Drawn w wr) (fun i _ => l.length - (intOf i).toNat)
    case atStart => exact ⟨0, rfl, Nat.zero_le _, rfl, Drawn.refl _⟩
    case round =>
      obtain ⟨k, rfl, hk, htk, n, rfl⟩ := hrel
      by_cases hlt : k < l.length
      · have hlt' : k < m.length := by have := Hlen.out; omega
        obtain ⟨b, off, x, rfl, hbB, hc, hx, Hx⟩ := hA.at_ hlt
        obtain ⟨b', off', y, rfl, hbB', hc', hy, Hy⟩ := hA'.at_ hlt'
        have hci : ((k : Int) < (l.length : Int)) := by omega
        have hci' : ((k : Int) < (m.length : Int)) := by omega
        by_cases he : x = y
        · have ht := Lib.hid (take_succ_eq hlt hlt' htk.out (by rw [Hx.out, Hy.out, he]))
          subst he
          go_wp2
          go_quiet (fail)
          go_wp2
          go_roundw
          case rel => exact ⟨k + 1, by go_num, by omega, ht, _, rfl⟩
          case measure => simp [intOf]; omega
        · have heb : ((x : Int) != (y : Int)) = true := by rw [bne_iff_ne]; omega
          have hne := Lib.hid (ne_of_getD (l := l) (m := m) (k := k) (by rw [Hx.out, Hy.out]; exact he))
          clear he
          go_wp2
          go_quiet (fail)
          go_wp2
          go_ret
          exact ⟨ret_bool (decide_eq_false hne.out).symm, (Drawn.mk _ _).drewN _⟩
      · go_wp2
        go_ret
        obtain rfl : k = l.length := by omega
        have h1 := htk.out
        rw [List.take_length, Hlen.out, List.take_length] at h1
        exact ⟨ret_bool (decide_eq_true h1).symm, Drawn.mk _ _⟩
  · have hb : ((l.length : Int) != (m.length : Int)) = true := by rw [bne_iff_ne]; omega
    have hne : decide (l = m) = false := decide_eq_false fun e => hlen (by rw [e])
    have Hne := Lib.hid hne
    clear hne
    go_enter Tryz.func15, Tryz.ntmps15
    go_wp2
    go_ret
    exact ⟨ret_bool Hne.out.symm, Drawn.refl _⟩

/-- The same, the lengths and the answer under names of their own. -/
theorem same_n (B B' : Nat) (A A' : Option Addr) (c c' n n' : Nat) (l m : List UInt8) (w : World) (ans : Bool) (hA : Bs w B A l) (hA' : Bs w B' A' m) (hl : l.length = n) (hm : m.length = n') (hn : n ≤ maxLen) (hn' : n' ≤ maxLen) (ha : decide (l = m) = ans) :
    Calls Tryz.prog 15 #[.slice A n c, .slice A' n' c'] w fun e w' => e = .returned (.bool ans) ∧ ∃ k, w' = w.drewN k := by
  subst hl hm ha
  exact same_any B B' A A' c c' l m w hA hA' hn hn'

end Go.Proofs.YtblgmnjegkfoaaaGreat

namespace Go.Proofs.YtblgmnjegkfoaaaGreat
open Go.RowKit
set_option linter.unusedVariables false
set_option linter.unusedSimpArgs false

/-- A key's nibble at a place. -/
def nibF (k : List UInt8) (i : Nat) : Nat := if i % 2 = 0 then (k.getD (i / 2) 0).toNat / 16 else (k.getD (i / 2) 0).toNat % 16
theorem nibF_lt (k : List UInt8) (i : Nat) : nibF k i < 16 := by
  unfold nibF
  have := (k.getD (i / 2) 0).toNat_lt
  split <;> omega
/-- Keys whose nibbles are one are one. -/
theorem nib_ext {a b : List UInt8} (ha : a.length = 32) (hb : b.length = 32) (h : ∀ i, i < 64 → nibF a i = nibF b i) : a = b := by
  refine List.ext_getElem (by omega) fun j h1 h2 => ?_
  have e0 := h (2 * j) (by omega)
  have e1 := h (2 * j + 1) (by omega)
  unfold nibF at e0 e1
  rw [if_pos (by omega), if_pos (by omega), show 2 * j / 2 = j by omega] at e0
  rw [if_neg (by omega), if_neg (by omega), show (2 * j + 1) / 2 = j by omega] at e1
  simp only [List.getD, List.getElem?_eq_getElem h1, List.getElem?_eq_getElem h2, Option.getD_some] at e0 e1
  have : a[j].toNat = b[j].toNat := by omega
  exact UInt8.toNat_inj.1 this

abbrev It := List UInt8 × List UInt8

/-- Do all keys of items have the nibble of the first one at a place? -/
def agreeF (l : List It) (t : Nat) : Bool := l.all fun x => nibF x.1 t == nibF (l.headD ([], [])).1 t
/-- Up to which place all keys have the same nibbles, n places at most. -/
def sharedN (l : List It) : Nat → Nat → Nat
  | 0, t => t
  | n + 1, t => if agreeF l t then sharedN l n (t + 1) else t
def sharedF (l : List It) (t : Nat) : Nat := sharedN l (64 - t) t
theorem sharedN_ge (l : List It) (n t : Nat) : t ≤ sharedN l n t := by
  induction n generalizing t with
  | zero => exact Nat.le_refl _
  | succ n ih =>
    unfold sharedN
    split
    · exact Nat.le_trans (Nat.le_succ t) (ih (t + 1))
    · exact Nat.le_refl _
theorem sharedN_le (l : List It) (n t : Nat) : sharedN l n t ≤ t + n := by
  induction n generalizing t with
  | zero => exact Nat.le_refl _
  | succ n ih =>
    unfold sharedN
    split
    · have := ih (t + 1); omega
    · omega
theorem sharedN_in (l : List It) (n t i : Nat) (h1 : t ≤ i) (h2 : i < sharedN l n t) : agreeF l i = true := by
  induction n generalizing t with
  | zero => unfold sharedN at h2; omega
  | succ n ih =>
    unfold sharedN at h2
    split at h2
    · rename_i ha
      by_cases e : i = t
      · rw [e]; exact ha
      · exact ih (t + 1) (by omega) h2
    · omega
theorem sharedN_end (l : List It) (n t : Nat) (h : sharedN l n t < t + n) : agreeF l (sharedN l n t) = false := by
  induction n generalizing t with
  | zero => unfold sharedN at h; omega
  | succ n ih =>
    unfold sharedN at h ⊢
    split at h
    · rename_i ha
      rw [if_pos ha]
      exact ih (t + 1) (by omega)
    · rename_i ha
      rw [if_neg ha]
      simpa using ha
theorem sharedF_ge (l : List It) (t : Nat) : t ≤ sharedF l t := sharedN_ge l _ t
theorem sharedF_le (l : List It) {t : Nat} (h : t ≤ 64) : sharedF l t ≤ 64 := by
  have := sharedN_le l (64 - t) t
  unfold sharedF; omega
theorem sharedF_in {l : List It} {t i : Nat} (h1 : t ≤ i) (h2 : i < sharedF l t) : agreeF l i = true := sharedN_in l _ t i h1 h2
theorem sharedF_end {l : List It} {t : Nat} (h : sharedF l t < 64) : agreeF l (sharedF l t) = false := by
  by_cases ht : t ≤ 64
  · exact sharedN_end l (64 - t) t (by unfold sharedF at h; omega)
  · have := sharedF_ge l t; omega
/-- The place is told by what it is. -/
theorem sharedF_is {l : List It} {t e : Nat} (h1 : t ≤ e) (he : e ≤ 64) (hin : ∀ i, t ≤ i → i < e → agreeF l i = true) (hend : e < 64 → agreeF l e = false) : sharedF l t = e := by
  by_cases hlt : sharedF l t < e
  · have h := sharedF_end (l := l) (t := t) (by omega)
    rw [hin _ (sharedF_ge l t) hlt] at h
    cases h
  · by_cases hgt : e < sharedF l t
    · have h := sharedF_in h1 hgt
      rw [hend (by have := sharedF_le l (t := t) (by omega); omega)] at h
      cases h
    · omega
theorem agreeF_iff {l : List It} {t : Nat} : agreeF l t = true ↔ ∀ x ∈ l, ∀ y ∈ l, nibF x.1 t = nibF y.1 t := by
  unfold agreeF
  cases l with
  | nil => simp
  | cons z l =>
    simp only [List.headD_cons, List.all_eq_true, beq_iff_eq]
    constructor
    · intro h x hx y hy; rw [h x hx, h y hy]
    · intro h x hx; exact h x hx z List.mem_cons_self
/-- Of keys with the same nibbles ahead the place doesn't hang on where one begins. -/
theorem sharedF_from {l : List It} {t u : Nat} (hu : t ≤ u) (hu2 : u ≤ 64) (h : ∀ i, t ≤ i → i < u → agreeF l i = true) : sharedF l t = sharedF l u := by
  refine sharedF_is (Nat.le_trans hu (sharedF_ge l u)) (sharedF_le l hu2) (fun i h1 h2 => ?_) (fun he => sharedF_end he)
  by_cases hi : i < u
  · exact h i h1 hi
  · exact sharedF_in (by omega) h2

/-- The items with a nibble at a place. -/
def subF (l : List It) (t n : Nat) : List It := l.filter fun x => nibF x.1 t == n
theorem mem_subF {l : List It} {t n : Nat} {x : It} : x ∈ subF l t n ↔ x ∈ l ∧ nibF x.1 t = n := by simp [subF]
/-- Nibbles from one place to another one. -/
def restF (k : List UInt8) (t u : Nat) : List UInt8 := (List.range (u - t)).map fun i => (nibF k (t + i)).toUInt8
theorem restF_length (k : List UInt8) (t u : Nat) : (restF k t u).length = u - t := by simp [restF]
theorem restF_snoc (k : List UInt8) {t u : Nat} (h : t ≤ u) : restF k t (u + 1) = restF k t u ++ [(nibF k u).toUInt8] := by
  unfold restF
  rw [show u + 1 - t = (u - t) + 1 by omega, List.range_succ, List.map_append]
  simp [show t + (u - t) = u by omega]
theorem restF_congr {a b : List UInt8} {t u : Nat} (h : ∀ i, t ≤ i → i < u → nibF a i = nibF b i) : restF a t u = restF b t u := by
  unfold restF
  refine List.map_congr_left fun i hi => ?_
  have := List.mem_range.1 hi
  rw [h (t + i) (by omega) (by omega)]
/-- Bytes, and how many there are. -/
def bytB (b : List UInt8) : List UInt8 := Lib.uvarint b.length ++ b
/-- The bits of the nibbles that come next, and the digests, of the first n. -/
def maskF (l : List It) (t : Nat) : Nat → Nat
  | 0 => 0
  | n + 1 => maskF l t n + if subF l t n = [] then 0 else 2 ^ n
/-- A node as bytes. -/
def nodeF : Nat → List It → Nat → List UInt8
  | 0, _, _ => []
  | f + 1, l, t =>
    match l with
    | [x] => [0] ++ bytB (restF x.1 t 64) ++ bytB x.2
    | l => [1] ++ bytB (restF (l.headD ([], [])).1 t (sharedF l t)) ++ Lib.uvarint (maskF l (sharedF l t) 16) ++
        (List.range 16).flatMap fun n => if subF l (sharedF l t) n = [] then [] else shaF (tagF 4 [nodeF f (subF l (sharedF l t) n) (sharedF l t + 1)])
/-- A node's digest. -/
def nodeD (l : List It) (t : Nat) : List UInt8 := shaF (tagF 4 [nodeF 65 l t])
def rootF (l : List It) : List UInt8 := if l = [] then shaF (tagF 5 []) else nodeD l 0

/-- Keys of 32 bytes, no two of them one. -/
structure Good (l : List It) : Prop where
  k32 : ∀ x ∈ l, x.1.length = 32
  uniq : l.Pairwise fun x y => x.1 ≠ y.1
theorem Good.part {l : List It} (h : Good l) (t n : Nat) : Good (subF l t n) := ⟨fun x hx => h.k32 x (mem_subF.1 hx).1, h.uniq.filter _⟩
/-- Two items part before the 64th place. -/
theorem Good.split {l : List It} (h : Good l) (h2 : 2 ≤ l.length) {t : Nat} (ht : t ≤ 64) (hp : ∀ i, i < t → agreeF l i = true) : sharedF l t < 64 := by
  rcases Nat.lt_or_ge (sharedF l t) 64 with h64 | h64
  · exact h64
  · exfalso
    match l, h2, h, hp, h64 with
    | x :: y :: r, _, h, hp, h64 =>
      have hge := sharedF_ge (x :: y :: r) t
      have hxy : x.1 ≠ y.1 := (List.pairwise_cons.1 h.uniq).1 y List.mem_cons_self
      refine hxy (nib_ext (h.k32 x List.mem_cons_self) (h.k32 y (by simp)) fun i hi => ?_)
      have ha : agreeF (x :: y :: r) i = true := by
        by_cases hit : i < t
        · exact hp i hit
        · exact sharedF_in (l := x :: y :: r) (t := t) (by omega) (by omega)
      exact agreeF_iff.1 ha x List.mem_cons_self y (by simp)

end Go.Proofs.YtblgmnjegkfoaaaGreat

namespace Go.Proofs.YtblgmnjegkfoaaaGreat
open Go.RowKit
set_option linter.unusedVariables false
set_option linter.unusedSimpArgs false

set_option maxHeartbeats 4000000 in
set_option maxRecDepth 100000 in
theorem rnibble_run (k : List UInt8) (hk : k.length = 32) (VL : List Value) (hVL : VL = Lib.byteCells k) (i : Nat) (hi : i < 64) (x : Nat) (hx : (k.getD (i / 2) 0).toNat = x) (r : Nat) (hr : r = if i % 2 = 0 then x / 16 else x % 16) (w : World) :
    Calls Tryz.prog 35 #[.agg VL.toArray, .int .i64 (i : Nat)] w fun e w' => e = .returned (.int .u8 (r : Nat)) ∧ Below w.heap.size w w' := by
  obtain ⟨W1, hW1⟩ : ∃ W1, W1 = w.alloc (.cells VL.toArray 24) := ⟨_, rfl⟩
  have hR1 : Arr W1 w.heap.size 24 VL := by rw [hW1]; exact Arr.new w _ _
  have hb1 : Below w.heap.size w W1 := by rw [hW1]; exact (Below.refl _ w).alloc (Nat.le_refl _) _
  obtain ⟨q, hq⟩ : ∃ q, i / 2 = q := ⟨_, rfl⟩
  rw [hq] at hx
  have hq32 : q < 32 := by omega
  have hqI : (i : Int) / 2 = (q : Int) := by omega
  have hqT : (i : Int).tdiv 2 = (q : Int) := by rw [Int.tdiv_eq_ediv_of_nonneg (by omega)]; exact hqI
  have hce : W1.cell? ⟨w.heap.size, q, none⟩ = some (.int .u8 (x : Nat)) := by
    rw [hR1.cell, hVL, ← hx]
    exact byteCells_get (by omega)
  have hxB : x < 256 := by rw [← hx]; exact UInt8.toNat_lt _
  have hqI2 : (q : Int) < 32 := by omega
  have HW1 := Lib.hid hW1
  by_cases h0 : i % 2 = 0
  · rw [if_pos h0] at hr
    have hm : ((i : Int) % 2 == 0) = true := by rw [beq_iff_eq]; omega
    have hmT : ((i : Int).tmod 2 == 0) = true := by rw [beq_iff_eq, Int.tmod_eq_emod_of_nonneg (by omega)]; omega
    have Hr := Lib.hid hr
    clear hW1 hVL hx hq h0 hr
    go_enter Tryz.func35, Tryz.ntmps35
    go_upto_region 1 with fail
    change Code.wp _ _ _ _ (w.alloc (.cells VL.toArray 24))
    rw [← HW1.out]
    clear HW1
    go_wp2_with fail
    go_ret
    exact ⟨by rw [Hr.out]; first | rfl | (congr 2; omega), hb1⟩
  · rw [if_neg h0] at hr
    have hm : ((i : Int) % 2 == 0) = false := by rw [beq_eq_false_iff_ne]; omega
    have hmT : ((i : Int).tmod 2 == 0) = false := by rw [beq_eq_false_iff_ne, Int.tmod_eq_emod_of_nonneg (by omega)]; omega
    have Hr := Lib.hid hr
    clear hW1 hVL hx hq h0 hr
    go_enter Tryz.func35, Tryz.ntmps35
    go_upto_region 1 with fail
    change Code.wp _ _ _ _ (w.alloc (.cells VL.toArray 24))
    rw [← HW1.out]
    clear HW1
    go_wp2_with fail
    go_ret
    exact ⟨by rw [Hr.out]; first | rfl | (congr 2; omega), hb1⟩

end Go.Proofs.YtblgmnjegkfoaaaGreat

namespace Go.Proofs.YtblgmnjegkfoaaaGreat
open Go.RowKit
set_option linter.unusedVariables false
set_option linter.unusedSimpArgs false

set_option maxHeartbeats 4000000 in
set_option maxRecDepth 100000 in
theorem nibble_run (k : List UInt8) (hk : k.length = 32) (VL : List Value) (hVL : VL = Lib.byteCells k) (i : Nat) (hi : i < 64) (x : Nat) (hx : (k.getD (i / 2) 0).toNat = x) (r : Nat) (hr : r = if i % 2 = 0 then x / 16 else x % 16) (w : World) :
    Calls Tryz.prog 55 #[.agg VL.toArray, .int .i64 (i : Nat)] w fun e w' => e = .returned (.int .u8 (r : Nat)) ∧ Below w.heap.size w w' := by
  obtain ⟨W1, hW1⟩ : ∃ W1, W1 = w.alloc (.cells VL.toArray 24) := ⟨_, rfl⟩
  have hR1 : Arr W1 w.heap.size 24 VL := by rw [hW1]; exact Arr.new w _ _
  have hb1 : Below w.heap.size w W1 := by rw [hW1]; exact (Below.refl _ w).alloc (Nat.le_refl _) _
  obtain ⟨q, hq⟩ : ∃ q, i / 2 = q := ⟨_, rfl⟩
  rw [hq] at hx
  have hq32 : q < 32 := by omega
  have hqI : (i : Int) / 2 = (q : Int) := by omega
  have hqT : (i : Int).tdiv 2 = (q : Int) := by rw [Int.tdiv_eq_ediv_of_nonneg (by omega)]; exact hqI
  have hce : W1.cell? ⟨w.heap.size, q, none⟩ = some (.int .u8 (x : Nat)) := by
    rw [hR1.cell, hVL, ← hx]
    exact byteCells_get (by omega)
  have hxB : x < 256 := by rw [← hx]; exact UInt8.toNat_lt _
  have hqI2 : (q : Int) < 32 := by omega
  have HW1 := Lib.hid hW1
  by_cases h0 : i % 2 = 0
  · rw [if_pos h0] at hr
    have hm : ((i : Int) % 2 == 0) = true := by rw [beq_iff_eq]; omega
    have hmT : ((i : Int).tmod 2 == 0) = true := by rw [beq_iff_eq, Int.tmod_eq_emod_of_nonneg (by omega)]; omega
    have Hr := Lib.hid hr
    clear hW1 hVL hx hq h0 hr
    go_enter Tryz.func55, Tryz.ntmps55
    go_upto_region 1 with fail
    change Code.wp _ _ _ _ (w.alloc (.cells VL.toArray 24))
    rw [← HW1.out]
    clear HW1
    go_wp2_with fail
    go_ret
    exact ⟨by rw [Hr.out]; first | rfl | (congr 2; omega), hb1⟩
  · rw [if_neg h0] at hr
    have hm : ((i : Int) % 2 == 0) = false := by rw [beq_eq_false_iff_ne]; omega
    have hmT : ((i : Int).tmod 2 == 0) = false := by rw [beq_eq_false_iff_ne, Int.tmod_eq_emod_of_nonneg (by omega)]; omega
    have Hr := Lib.hid hr
    clear hW1 hVL hx hq h0 hr
    go_enter Tryz.func55, Tryz.ntmps55
    go_upto_region 1 with fail
    change Code.wp _ _ _ _ (w.alloc (.cells VL.toArray 24))
    rw [← HW1.out]
    clear HW1
    go_wp2_with fail
    go_ret
    exact ⟨by rw [Hr.out]; first | rfl | (congr 2; omega), hb1⟩

end Go.Proofs.YtblgmnjegkfoaaaGreat

/-
  What pack.Bytes puts behind a row of the call's own: how many bytes there are, and they.
-/
import Derived.Test.YtlfddijmanlneaaGrow
import Derived.Outline
import Derived.Handy
namespace Go.Proofs.Ytlfddijmanlneaa
open Go.RowKit
set_option linter.unusedVariables false

def BytesPost (B : Nat) (sv : Value) (l : List UInt8) (w : World) (e : Ending) (w' : World) : Prop :=
  ∃ v', e = .returned v' ∧ Owns w' B 5 v' l ∧ Grew w w' sv v'

set_option maxHeartbeats 4000000 in
set_option maxRecDepth 100000 in
theorem bytes_any (B : Nat) (sv : Value) (out bs : List UInt8) (A : Option Addr) (c : Nat) (w : World) (hown : Owns w B 5 sv out) (hB : B ≤ w.heap.size) (hb : Bs w B A bs) (hc : bs.length ≤ c)
    (hlim : out.length + bs.length + 20 ≤ 140737488355328) :
    Calls Try.prog 30 #[sv, .slice A bs.length c] w (BytesPost B sv (out ++ (Lib.uvarint bs.length ++ bs)) w) := by
  have hk1 := Lib.uvarint_pos bs.length
  have hk2 := Lib.uvarint_length64 (x := bs.length) (by omega)
  obtain ⟨i0, hi, hz0, hz1, hz2⟩ := info_parts byteInfo
  have hlt := hown.lt
  obtain ⟨A0, c0, rfl, hoc, hom, _⟩ := hown.slice
  go_enter Try.func30, Try.ntmps30
  go_wp2_with (at_make; refine wpList_make_own _ rfl _ _ 33 rfl w.heap.size 5 i0 (.int .u8 0) 1 Try.underlying33 hi hz0 hz1 _ _ _ 10 rfl rfl rfl (by rw [hz2]; decide) (by unfold maxLen; omega) (Nat.le_refl _) ?_; intro w1 hmk hg1)
  have hs1 := hg1.size
  refine (number_any w.heap.size bs.length (by omega) _ [] w1 hmk hs1 (by simp)).mono ?_
  rintro e w2 ⟨v1, rfl, hcnt, hgr⟩
  rw [List.nil_append] at hcnt
  have hU : Hid (∃ U, Lib.uvarint bs.length = U) := ⟨_, rfl⟩
  obtain ⟨U, hU⟩ := hU.out
  rw [hU] at hcnt hk1 hk2 ⊢
  have HU := Lib.hid hU
  clear hU
  have hB2 : Below w.heap.size w w2 := ((Below.refl _ w).grown hg1 (Nat.le_refl _) (by simp)).trans (hgr.below hs1 (by simp [Value.ownBlock]))
  have hown2 := hown.below hB2 (fun k hk => (hlt k hk).2)
  have hclt := hcnt.lt
  obtain ⟨A1, c1, rfl, hcc, hcm, _⟩ := hcnt.slice
  go_wp2_with fail
  rw [show ((U.length : Int) + (bs.length : Int)) = ((U.length + bs.length : Nat) : Int) from by omega]
  refine (grow_any B (U.length + bs.length) _ out w2 hown2 (Nat.le_trans hB hB2.size) (by omega) (by omega)).mono ?_
  rintro e w3 ⟨g, c3, rfl, hroom, hown3, hgr3⟩
  have hr := hroom.out
  obtain ⟨_, hBg, hg3, _, hc3m, cur, hcur, hcl, hct⟩ := hown3.row
  have hBw3 : Below B w w3 := (hB2.mono hB).trans (hgr3.below (Nat.le_trans hB hB2.size) (fun k hk => (hlt k hk).1))
  have hb3 := hb.below hBw3 (Nat.le_refl _)
  have hcnt3 : Owns w3 w.heap.size 5 (.slice A1 U.length c1) U := hcnt.apart hgr3.1 (fun k hk e => by have := (hclt k hk).1; have := (hlt k e).2; omega)
  have hc3m' : c3 ≤ 9223372036854775807 := by unfold maxLen at hc3m; omega
  have hXl : (Lib.byteCells bs).length = bs.length := by simp [Lib.byteCells]
  have hUl : (Lib.byteCells U).length = U.length := by simp [Lib.byteCells]
  have hXp := hb3.cells
  have hX1 := byteCells_one bs
  have hU1 := byteCells_one U
  have hUp : ∀ w4, Wrote g w3 w4 → 0 < (Lib.byteCells U).length → ∃ ad, A1 = some ad ∧ ∀ j v, (Lib.byteCells U)[j]? = some v → w4.cell? (ad.add j) = some v := by
    intro w4 hw4 hp
    have hne : ∀ k, (Value.slice A1 U.length c1).ownBlock = some k → some g ≠ some k := by
      intro k hk e
      injection e with e
      subst e
      rcases hgr3.2 with h | ⟨k, h, hk3⟩
      · have h1 := (hlt g (by simpa [Value.ownBlock] using h.symm)).2
        have h2 := (hclt g hk).1
        omega
      · have h1 := (hclt g hk).2
        have h2 : g = k := by simpa [Value.ownBlock] using h
        omega
    exact ((hcnt3.apart hw4.1 hne).bs).2.cells hp
  have hinfo : (Try.prog.info? 5).map (·.size) = some 1 := by kernel_rfl
  have hg0 : (⟨g, 0, none⟩ : Addr).add out.length = ⟨g, out.length, none⟩ := by unfold Addr.add; split <;> simp_all
  by_cases hcap : c3 = out.length + U.length
  · have hn0 : bs.length = 0 := by omega
    obtain rfl : bs = [] := List.eq_nil_of_length_eq_zero hn0
    obtain ⟨w5, hr5, hcur5, hw5⟩ := run_copy_any (P := Try.prog) w3 33 33 3 5 Try.underlying33 hinfo (some ⟨g, out.length, none⟩) A1 U.length U.length U.length c1 g out.length _ 5 hcur
      (Lib.byteCells U) (by rw [hUl]; exact (Nat.min_self _).symm) (fun hp => ⟨rfl, hUp w3 (Wrote.refl _ _) hp⟩) (by omega) hU1
    have hr4 := run_copy_none (P := Try.prog) w3 33 33 3 5 (some ⟨g, 0, none⟩) A 0 0 0 c Try.underlying33 hinfo (Nat.min_self _)
    have hown5 : Owns w5 B 5 (.slice (some ⟨g, 0, none⟩) (out.length + U.length) c3) (out ++ (U ++ [])) := by
      have := splice_two (cur := cur) (O := Lib.byteCells out) (X := []) (Y := Lib.byteCells U) (n := 0) hct (by simp [Lib.byteCells]) rfl hUl (by simp only [Nat.add_zero]; omega)
      have h0 : splice cur (out.length + U.length) [] = cur := by simp [splice]
      rw [h0] at this
      have h1 := Owns.of_row (l := out ++ (U ++ [])) hBg (by simp only [List.length_append, List.length_nil]; omega) hc3m hcur5.out (by rw [length_splice _ _ _ (by omega)]; exact hcl)
        (by simp only [List.length_append, Lib.byteCells_append, List.length_nil]; rw [Nat.add_zero]; rw [Nat.add_zero] at this; rw [this]; simp [Lib.byteCells])
      simpa using h1
    have hgrf : Grew w w5 (.slice A0 out.length c0) (.slice (some ⟨g, 0, none⟩) (out.length + U.length) c3) := by
      refine Grew.wrote ?_ rfl hw5
      exact (Below.grew hB2 _).trans hgr3
    clear hXl hUl hXp hUp hcl hct hX1 hU1 hcur hz0 hz1 hz2 hi hg0 hcur5
    subst hcap
    go_wp2_with fail
    · exfalso
      simp_all
    · go_ret
      exact ⟨_, rfl, by rw [HU.out]; exact hown5, hgrf⟩
  · have hcap' : out.length + U.length < c3 := by omega
    clear hcap
    obtain ⟨w4, hr4, hcur4, hw4⟩ := run_copy_any (P := Try.prog) w3 33 33 3 5 Try.underlying33 hinfo (some ⟨g, out.length + U.length, none⟩) A bs.length (c3 - (out.length + U.length)) bs.length c g (out.length + U.length) cur 5 hcur
      (Lib.byteCells bs) (by rw [hXl]; exact (Nat.min_self _).symm) (fun hp => ⟨rfl, hXp hp⟩) (by omega) hX1
    obtain ⟨w5, hr5, hcur5, hw5⟩ := run_copy_any (P := Try.prog) w4 33 33 3 5 Try.underlying33 hinfo (some ⟨g, out.length, none⟩) A1 (out.length + U.length + bs.length - out.length) (c3 - out.length) U.length c1 g out.length _ 5 hcur4.out
      (Lib.byteCells U) (by rw [hUl]; exact (Nat.min_eq_left (by omega)).symm) (fun hp => ⟨rfl, hUp w4 hw4 hp⟩) (by rw [length_splice _ _ _ (by omega)]; omega) hU1
    have hown5 : Owns w5 B 5 (.slice (some ⟨g, 0, none⟩) (out.length + U.length + bs.length) c3) (out ++ (U ++ bs)) := by
      have := splice_two (cur := cur) (O := Lib.byteCells out) (X := Lib.byteCells bs) (Y := Lib.byteCells U) hct (by simp [Lib.byteCells]) hXl hUl (by omega)
      have h1 := Owns.of_row (l := out ++ (U ++ bs)) hBg (by simp only [List.length_append]; omega) hc3m hcur5.out (by rw [length_splice _ _ _ (by rw [length_splice _ _ _ (by omega)]; omega), length_splice _ _ _ (by omega)]; exact hcl)
        (by simp only [List.length_append, Lib.byteCells_append]; rw [← Nat.add_assoc, this, List.append_assoc])
      simpa only [List.length_append, ← Nat.add_assoc] using h1
    have hgrf : Grew w w5 (.slice A0 out.length c0) (.slice (some ⟨g, 0, none⟩) (out.length + U.length + bs.length) c3) := by
      refine Grew.wrote (Grew.wrote ?_ rfl hw4) rfl hw5
      exact (Below.grew hB2 _).trans hgr3
    clear hXl hUl hXp hUp hcl hct hX1 hU1 hcur hz0 hz1 hz2 hi hg0 hcur4 hcur5
    go_wp2_with fail
    go_ret
    exact ⟨_, rfl, by rw [HU.out]; exact hown5, hgrf⟩

end Go.Proofs.Ytlfddijmanlneaa

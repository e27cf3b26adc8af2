/-
  Mark and Twin of space.
-/
import Derived.Test.YtejmojldfffbnacSpaceSpeaks
import Derived.Lib.SliceRun
import Derived.Deep.RegionHeld3
namespace Go.Proofs.Ytejmojldfffbnac
open Go.RowKit
set_option linter.unusedVariables false

set_option maxHeartbeats 4000000 in
theorem mark_yes (p g a n : Nat) (L : List Bool) (m c : Nat) (rest : List Value) (w : World) (h : SpT w p g L (freeF L) m c rest) (hF : Full L m) (han : a + n ≤ L.length) :
    Calls Try.prog 30 #[.pointer (some ⟨p, 0, none⟩), .int .i64 (a : Nat), .int .i64 (n : Nat)] w (ChangePost p g a n true L c rest w) := by
  go_enter Try.func30, Try.ntmps30
  go_wp2_with fail
  refine (change_yes p g a n true L m c rest w h hF han).mono ?_
  rintro e w1 ⟨rfl, m', hS, hF', hO⟩
  go_wp2_with fail
  go_ret
  exact ⟨rfl, m', hS, hF', hO⟩

set_option maxHeartbeats 4000000 in
theorem mark_no (p g : Nat) (a n : Int) (L : List Bool) (f m c : Nat) (rest : List Value) (w : World) (h : SpT w p g L f m c rest) (ha : a ≤ 9223372036854775807) (hx : n < 0 ∨ a < 0 ∨ (L.length : Int) - a < n) :
    Calls Try.prog 30 #[.pointer (some ⟨p, 0, none⟩), .int .i64 a, .int .i64 n] w fun e w' => e = .returned (.int .i64 2) ∧ w = w' := by
  have HX := Lib.hid hx
  clear hx
  go_enter Try.func30, Try.ntmps30
  go_wp2_with fail
  refine (change_no p g a n true L f m c rest w h ha HX.out).mono ?_
  rintro e w1 ⟨rfl, rfl⟩
  go_wp2_with fail
  go_ret
  exact ⟨rfl, rfl⟩

theorem boolCells_one (l : List Bool) : ∀ v ∈ boolCells l, v.oneCell' = true := by
  intro v hv
  simp only [boolCells, List.mem_map] at hv
  obtain ⟨b, _, rfl⟩ := hv
  rfl

def ClonePost (L : List Bool) (w : World) (e : Ending) (w' : World) : Prop :=
  ∃ g c rest, e = .returned (.slice (some ⟨g, 0, none⟩) L.length c) ∧ w.heap.size ≤ g ∧ Arr w' g 4 (boolCells L ++ rest) ∧ L.length ≤ c ∧ c ≤ maxLen ∧ Below w.heap.size w w'

set_option maxHeartbeats 2000000 in
set_option maxRecDepth 100000 in
theorem boolClone_any (g : Nat) (L : List Bool) (c : Nat) (rest : List Value) (w : World) (h : Arr w g 4 (boolCells L ++ rest)) (hp : 0 < L.length) (hlim : L.length ≤ 140737488355328) :
    Calls Try.prog 46 #[.slice (some ⟨g, 0, none⟩) L.length c] w (ClonePost L w) := by
  obtain ⟨i0, hi, hz0, hz1, hz2⟩ := info_parts boolInfo
  have q22 : ∀ (w : World) (a : Option Addr) (n c n' c' : Nat), (binOp .eql 63 (.slice a n c) (.slice none n' c')).run Try.prog w = .ok (.bool a.isNone) w := fun w a n c n' c' => Lib.run_eql_slice_nil w _ _ a n c n' c' Try.underlying63
  have hcells : ∀ j v, (boolCells L)[j]? = some v → w.cell? ((⟨g, 0, none⟩ : Addr).add j) = some v := by
    intro j v hj
    have hadd : (⟨g, 0, none⟩ : Addr).add j = ⟨g, 0 + j, none⟩ := by unfold Addr.add; split <;> simp_all
    have hl := (List.getElem?_eq_some_iff.1 hj).1
    rw [hadd, Nat.zero_add, h.cell, List.getElem?_append_left hl]
    exact hj
  have Hc := Lib.hid hcells
  have Hl := Lib.hid (show (boolCells L).length = L.length * 1 by simp [boolCells])
  have H1 := Lib.hid (boolCells_one L)
  clear hcells
  go_enter Try.func46, Try.ntmps46
  go_wp2_with (at_builtin; refine wpList_append_own_at _ rfl _ _ 63 rfl w.heap.size 4 i0 (.bool false) 1 1 Try.underlying63 hi hz0 hz1 hz2 rfl (by decide) _ 0 [] rfl ?c0 ⟨g, 0, none⟩ L.length c (boolCells L) rfl Hl.out ?c1 H1.out ?c3 ?c4 ?c5 ?_)
  case c0 => exact ⟨by simp, .inr ⟨w.heap.size, 0, #[], rfl, Nat.le_refl _, heap_alloc_new w _, Nat.le_refl _, by unfold maxLen; omega, by simp, by simp⟩⟩
  case c1 =>
    intro j v hj
    have hc := Hc.out j v hj
    rw [World.cell?_alloc_lt w _ _ (World.block_lt_of_cell? w _ hc)]
    exact hc
  case c3 => unfold maxLen; omega
  case c4 => omega
  case c5 => simp
  intro v' w1 hown' hgrow _ hplace
  go_wp2
  go_ret
  have hb := ((Below.refl _ w).alloc (Nat.le_refl _) (.cells #[] 4)).grown hgrow (by simp) (fun k hk => by simp [Value.ownBlock] at hk; omega)
  rcases hown'.2 with ⟨_, hn⟩ | ⟨g', cap, cur, rfl, h1, hg, h2, h3, h4, h5⟩
  · omega
  · refine ⟨g', cap, cur.toList.drop L.length, rfl, h1, ?_, by omega, h3, hb⟩
    · have h6 : cur.toList.take L.length = boolCells L := by simpa using h5
      have e : boolCells L ++ cur.toList.drop L.length = cur.toList := by
        rw [show boolCells L = cur.toList.take L.length from h6.symm]
        exact List.take_append_drop _ _
      rw [e]
      exact hg

def TwinPost (L : List Bool) (f m : Nat) (w : World) (e : Ending) (w' : World) : Prop :=
  ∃ p g c rest, e = .returned (.pointer (some ⟨p, 0, none⟩)) ∧ w.heap.size ≤ p ∧ w.heap.size ≤ g ∧ SpT w' p g L f m c rest ∧ Below w.heap.size w w'

set_option maxHeartbeats 2000000 in
set_option maxRecDepth 100000 in
theorem twin_any (p g : Nat) (L : List Bool) (f m c : Nat) (rest : List Value) (w : World) (h : SpT w p g L f m c rest) (hp : 0 < L.length) (hlim : L.length ≤ 140737488355328) :
    Calls Try.prog 29 #[.pointer (some ⟨p, 0, none⟩)] w (TwinPost L f m w) := by
  have g0 := h.c0
  have g1 := h.c1
  have g2 := h.c2
  go_enter Try.func29, Try.ntmps29
  go_wp2_with fail
  have hS0 : SpT w.drew p g L f m c rest := h.drewN 1
  go_region_held3 (fun w' => w'.cell? ⟨p, 0, none⟩ = some (.slice (some ⟨g, 0, none⟩) L.length c) ∧ w'.cell? ⟨p, 1, none⟩ = some (.int .i64 (f : Nat)) ∧ w'.cell? ⟨p, 2, none⟩ = some (.int .i64 (m : Nat))) (first | exact ⟨g0, g1, g2⟩ | exact ⟨k0, k1, k2⟩ | exact ⟨(hS1.up ((Below.refl _ _).alloc (Nat.le_refl _) _)).c0, (hS1.up ((Below.refl _ _).alloc (Nat.le_refl _) _)).c1, (hS1.up ((Below.refl _ _).alloc (Nat.le_refl _) _)).c2⟩) (first | (go_at_call 46; refine Calls.mono (boolClone_any g L c rest _ hS0.hg hp hlim) ?_; rintro e w1 ⟨g', c', rest', rfl, hgg, hA, hlc, hcm, hb⟩; have hS1 := hS0.up hb; have k0 := hS1.c0; have k1 := hS1.c1; have k2 := hS1.c2))
  have hsz := hb.size
  have hml := h.hm2
  have hgl := Arr.lt hA
  have hA' := hA.alloc (.cells #[.slice (some ⟨g', 0, none⟩) L.length c', .int .i64 (f : Nat), .int .i64 (m : Nat)] 93)
  have hP' := Arr.new w1 93 [.slice (some ⟨g', 0, none⟩) L.length c', .int .i64 (f : Nat), .int .i64 (m : Nat)]
  have hw : Below w.heap.size w w.drew := ⟨rfl, rfl, rfl, Nat.le_refl _, fun _ _ => rfl⟩
  have hb2 : Below w.heap.size w w1 := hw.trans (hb.mono (Nat.le_refl _))
  have hb3 := hb2.alloc hb2.size (.cells #[.slice (some ⟨g', 0, none⟩) L.length c', .int .i64 (f : Nat), .int .i64 (m : Nat)] 93)
  clear hS0 hS1 k0 k1 k2 g0 g1 g2 hA hw hb2 hb
  go_wp2
  go_ret
  exact ⟨w1.heap.size, g', c', rest', rfl, hsz, hgg, ⟨by omega, hP', hA', hlc, hcm, hml⟩, hb3⟩

end Go.Proofs.Ytejmojldfffbnac

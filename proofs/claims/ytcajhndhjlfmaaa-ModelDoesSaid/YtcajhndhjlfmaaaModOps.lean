/-
  New, has, may, Changes, create, remove.
-/
import Derived.Test.YtcajhndhjlfmaaaModPure
import Derived.Test.YtcajhndhjlfmaaaVolNew
namespace Go.Proofs.Ytcajhndhjlfmaaa
open Go.RowKit
set_option linter.unusedVariables false
set_option linter.unusedSimpArgs false

theorem imgInfo : (Try.prog.info? 114).map (fun i => (i.size, i.zero)) = some (3, some (imgV ⟨0, false, none⟩)) := by kernel_rfl
theorem imgSize : (Try.prog.info? 114).map (·.size) = some 3 := by kernel_rfl
theorem md_cell {w : World} {F : Nat → Prop} {s mb : Nat} {M : List Vm} (h : MdQ w F s mb M) : w.cell? ⟨s, 0, none⟩ = some (.map (some mb)) := by
  have := h.hs.cell 0
  simpa using this

theorem mnew_any (w : World) : Calls Try.prog 14 #[] w fun e w' => ∃ s, e = .returned (.pointer (some ⟨s, 0, none⟩)) ∧ w.heap.size ≤ s ∧ MdL w' (newF (fun _ => False) w w') s [] ∧ Below w.heap.size w w' := by
  have hmk := @run_makeMap Try.prog
  go_enter Try.func14, Try.ntmps14
  go_wp2
  go_ret
  have hb1 : Below w.heap.size w (w.alloc (.map #[] 0)) := (Below.refl _ _).alloc (Nat.le_refl _) _
  have hb2 : Below w.heap.size w ((w.alloc (.map #[] 0)).alloc (.cells #[.map (some w.heap.size)] 100)) := hb1.alloc (by simp) _
  refine ⟨_, rfl, by simp, ⟨[], w.heap.size, ?_, rfl⟩, hb2⟩
  have hm := (World.ownsMap_made (H := Unit) w Try.prog 9 imgR).alloc (.cells #[.map (some w.heap.size)] 100)
  exact { hs := by simpa using Arr.new (w.alloc (.map #[] 0)) 100 [.map (some w.heap.size)], hm := hm, vm := by simp, rs := List.Pairwise.nil, dj := List.Pairwise.nil, mne := by simp, Fs := .inr ⟨by simp, by simp⟩, Fm := .inr ⟨by omega, by simp; omega⟩, Fv := by simp, Flt := newF_lt (fun _ h => h.elim) hb2.size }

set_option maxHeartbeats 1000000 in
set_option maxRecDepth 100000 in
theorem has_anyM (s mb : Nat) (nm : ByteArray) (hsz : nm.size ≤ maxLen) (w : World) (F : Nat → Prop) (M : List Vm) (h : MdQ w F s mb M) (b : Bool) (hb : hasM M nm = b) :
    Calls Try.prog 76 #[.pointer (some ⟨s, 0, none⟩), .string nm] w fun e w' => e = .returned (.bool b) ∧ Below w.heap.size w w' := by
  have hc := md_cell h
  have hl := h.look_ok hsz
  rw [hb] at hl
  obtain ⟨X, hX⟩ : ∃ X, X = ixOf (findM M nm) := ⟨_, rfl⟩
  rw [← hX] at hl
  obtain ⟨q, fr, mo⟩ := X
  unfold imgV at hl
  dsimp only at hl
  obtain ⟨VL, hVL⟩ : ∃ VL : List Value, VL = [.int .i64 q, .bool fr, .map mo] := ⟨_, rfl⟩
  have hVL2 : (#[.int .i64 q, .bool fr, .map mo] : Array Value) = VL.toArray := by rw [hVL]
  rw [hVL2] at hl
  have HVi := Lib.hid (show (Try.prog.info? 114).map (·.size) = some VL.toArray.size ∧ (#[.int .i64 0, .bool false, .map none] : Array Value).size = VL.toArray.size from ⟨by rw [hVL]; exact imgSize, by rw [hVL]; rfl⟩)
  have HV1 := Lib.hid (show VL.toArray.all (·.oneCell') = true by rw [hVL]; simp [Value.oneCell'])
  have hslt := h.Flt s h.Fs
  clear hVL hVL2 hX hb h
  go_enter Try.func76, Try.ntmps76
  go_wp2_with (change wpList _ _ _ _ _ (w.alloc (.cells (#[.int .i64 0, .bool false, .map none] : Array Value) 114)); refine wpList_store_row rfl _ _ _ rfl w.heap.size VL.toArray rfl rfl 114 (#[.int .i64 0, .bool false, .map none] : Array Value) (heap_alloc_new w _) HVi.out.1 HVi.out.2 HV1.out ?_; obtain ⟨w5, hw5⟩ : ∃ x, x = (w.alloc (.cells (#[.int .i64 0, .bool false, .map none] : Array Value) 114)).setRow w.heap.size VL.toArray := ⟨_, rfl⟩; rw [← hw5]; obtain ⟨hP5, hb5⟩ := alloc_row w 114 (#[.int .i64 0, .bool false, .map none] : Array Value) VL; rw [← hw5] at hP5 hb5; clear hw5)
  go_ret
  exact ⟨rfl, hb5⟩

theorem may_any (nm : ByteArray) (hsz : nm.size ≤ maxLen) (q : Int) (w : World) (b : Bool) (hb : (namedB nm.data.toList && quotaB q) = b) :
    Calls Try.prog 75 #[.string nm, .int .i64 q] w fun e w' => e = .returned (.bool b) ∧ Below w.heap.size w w' := by
  have hcr : createL [] nm q = (if b = true then [⟨nm, q.toNat, false, []⟩] else [], if b = true then 0 else 1) := by
    unfold createL
    rw [hb]
    cases b <;> simp [hasV, insV]
  go_enter Try.func75, Try.ntmps75
  go_wp2_with fail
  refine Calls.mono (vnew_any w) ?_
  rintro e w1 ⟨s, rfl, hs, hS, hb1⟩
  go_wp2_with fail
  refine Calls.mono (create_any s nm hsz q w1 _ [] hS (by simp) _ _ hcr) ?_
  rintro e w2 ⟨rfl, hS2, hO2⟩
  have hb2 : Below w.heap.size w w2 := hb1.trans (hO2.below hb1.size (by rintro k (hk | hk); exact hk.elim; exact hk.1))
  clear hS2 hO2 hcr hS hb hb1
  cases b
  · go_wp2
    go_ret
    exact ⟨rfl, hb2⟩
  · go_wp2
    go_ret
    exact ⟨rfl, hb2⟩

set_option maxHeartbeats 1000000 in
theorem changes_any (k : Int) (w : World) (b : Bool) (hb : changesB k = b) : Calls Try.prog 22 #[.int .i64 k] w fun e w' => e = .returned (.bool b) ∧ w = w' := by
  have Hb := Lib.hid hb
  clear hb
  go_enter Try.func22, Try.ntmps22
  by_cases h1 : k = 1
  · have hd1 : decide (k = 1) = true := by simpa using h1
    go_wp2
    go_ret
    exact ⟨by rw [← Hb.out]; simp [changesB, *], rfl⟩
  · have hd1 : decide (k = 1) = false := by simpa using h1
    by_cases h2 : k = 2
    · have hd2 : decide (k = 2) = true := by simpa using h2
      go_wp2
      go_ret
      exact ⟨by rw [← Hb.out]; simp [changesB, *], rfl⟩
    · have hd2 : decide (k = 2) = false := by simpa using h2
      by_cases h3 : k = 3
      · have hd3 : decide (k = 3) = true := by simpa using h3
        go_wp2
        go_ret
        exact ⟨by rw [← Hb.out]; simp [changesB, *], rfl⟩
      · have hd3 : decide (k = 3) = false := by simpa using h3
        by_cases h4 : k = 4
        · have hd4 : decide (k = 4) = true := by simpa using h4
          go_wp2
          go_ret
          exact ⟨by rw [← Hb.out]; simp [changesB, *], rfl⟩
        · have hd4 : decide (k = 4) = false := by simpa using h4
          by_cases h6 : k = 6
          · have hd6 : decide (k = 6) = true := by simpa using h6
            go_wp2
            go_ret
            exact ⟨by rw [← Hb.out]; simp [changesB, *], rfl⟩
          · have hd6 : decide (k = 6) = false := by simpa using h6
            by_cases h7 : k = 7
            · have hd7 : decide (k = 7) = true := by simpa using h7
              go_wp2
              go_ret
              exact ⟨by rw [← Hb.out]; simp [changesB, *], rfl⟩
            · have hd7 : decide (k = 7) = false := by simpa using h7
              go_wp2
              go_ret
              exact ⟨by rw [← Hb.out]; simp [changesB, *], rfl⟩

end Go.Proofs.Ytcajhndhjlfmaaa

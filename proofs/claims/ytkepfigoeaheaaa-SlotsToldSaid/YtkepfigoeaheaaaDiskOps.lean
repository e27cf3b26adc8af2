/-
  A disk's small calls.
-/
import Derived.Test.YtkepfigoeaheaaaDiskMath
namespace Go.Proofs.Ytkepfigoeaheaaa
open Go.RowKit
set_option linter.unusedVariables false

section
variable {w : World} {F : Nat → Prop} {k gs gl bm : Nat} {vw : Value} {base nm n : Nat} {S L : List (List UInt8)} {W : List WrF} {D : DataW Unit} {fu : Bool} {left : Int}
theorem DkW.c0 (h : DkW w F k gs gl bm vw base nm n S L W D fu left) : w.cell? ⟨k, 0, none⟩ = some (.slice (some ⟨gs, 0, none⟩) n n) := by rw [h.hk.cell]; rfl
theorem DkW.c1 (h : DkW w F k gs gl bm vw base nm n S L W D fu left) : w.cell? ⟨k, 1, none⟩ = some (.slice (some ⟨gl, 0, none⟩) n n) := by rw [h.hk.cell]; rfl
theorem DkW.c2 (h : DkW w F k gs gl bm vw base nm n S L W D fu left) : w.cell? ⟨k, 2, none⟩ = some vw := by rw [h.hk.cell]; rfl
theorem DkW.c3 (h : DkW w F k gs gl bm vw base nm n S L W D fu left) : w.cell? ⟨k, 3, none⟩ = some (.map (some bm)) := by rw [h.hk.cell]; rfl
theorem DkW.c4 (h : DkW w F k gs gl bm vw base nm n S L W D fu left) : w.cell? ⟨k, 4, none⟩ = some (.bool fu) := by rw [h.hk.cell]; rfl
theorem DkW.c5 (h : DkW w F k gs gl bm vw base nm n S L W D fu left) : w.cell? ⟨k, 5, none⟩ = some (.int .i64 left) := by rw [h.hk.cell]; rfl
end

set_option maxHeartbeats 4000000 in
theorem has_yes (k gs n a : Nat) (w : World) (h : w.cell? ⟨k, 0, none⟩ = some (.slice (some ⟨gs, 0, none⟩) n n)) (ha : a < n) (hn : n ≤ 65536) :
    Calls Try.prog 62 #[.pointer (some ⟨k, 0, none⟩), .int .i64 (a : Nat)] w fun e w' => e = .returned (.bool true) ∧ w' = w := by
  have h1 : decide ((0 : Int) ≤ (a : Int)) = true := by simp
  have h2 : decide ((a : Int) < (n : Int)) = true := by simp; exact ha
  have h3 : decide (a < n) = true := by simp; exact ha
  go_enter Try.func62, Try.ntmps62
  go_wp2
  go_ret
  exact ⟨rfl, rfl⟩

set_option maxHeartbeats 4000000 in
theorem has_no (k gs n : Nat) (a : Int) (w : World) (h : w.cell? ⟨k, 0, none⟩ = some (.slice (some ⟨gs, 0, none⟩) n n)) (ha : a < 0 ∨ (n : Int) ≤ a) (hn : n ≤ 65536) :
    Calls Try.prog 62 #[.pointer (some ⟨k, 0, none⟩), .int .i64 a] w fun e w' => e = .returned (.bool false) ∧ w' = w := by
  have hd : decide ((0 : Int) ≤ a) = false ∨ (decide ((0 : Int) ≤ a) = true ∧ decide (a < (n : Int)) = false) := by
    simp only [decide_eq_true_eq, decide_eq_false_iff_not]
    omega
  clear ha
  rcases hd with h1 | ⟨h1, h2⟩
  all_goals
    go_enter Try.func62, Try.ntmps62
    go_wp2
    go_ret
    exact ⟨rfl, rfl⟩

/-- Is there no power? -/
def deadF (fu : Bool) (left : Int) : Bool := fu && (left == 0)

set_option maxHeartbeats 4000000 in
theorem dead_any (k : Nat) (fu : Bool) (left : Int) (w : World) (h4 : w.cell? ⟨k, 4, none⟩ = some (.bool fu)) (h5 : w.cell? ⟨k, 5, none⟩ = some (.int .i64 left)) :
    Calls Try.prog 79 #[.pointer (some ⟨k, 0, none⟩)] w fun e w' => e = .returned (.bool (deadF fu left)) ∧ w' = w := by
  unfold deadF
  cases fu
  · go_enter Try.func79, Try.ntmps79
    go_wp2
    go_ret
    exact ⟨rfl, rfl⟩
  · obtain ⟨b, hb⟩ : ∃ b, (left == 0) = b := ⟨_, rfl⟩
    rw [hb]
    go_enter Try.func79, Try.ntmps79
    go_wp2
    go_ret
    exact ⟨by cases b <;> rfl, rfl⟩

/-- What a write or a sync leaves of the power. -/
def spentF (fu : Bool) (left : Int) : Int := if fu then left - 1 else left

set_option maxHeartbeats 4000000 in
theorem spend_dead (k : Nat) (fu : Bool) (left : Int) (w : World) (h4 : w.cell? ⟨k, 4, none⟩ = some (.bool fu)) (h5 : w.cell? ⟨k, 5, none⟩ = some (.int .i64 left)) (hd : deadF fu left = true) :
    Calls Try.prog 63 #[.pointer (some ⟨k, 0, none⟩)] w fun e w' => e = .returned (.bool false) ∧ w' = w := by
  have Hd := Lib.hid hd
  clear hd
  go_enter Try.func63, Try.ntmps63
  go_wp2_with fail
  refine Calls.mono (dead_any k fu left w h4 h5) ?_
  rintro e w1 ⟨rfl, rfl⟩
  rw [Hd.out]
  go_wp2_with fail
  go_ret
  exact ⟨rfl, rfl⟩

set_option maxHeartbeats 4000000 in
theorem spend_live (k gs gl bm : Nat) (vw : Value) (n : Nat) (fu : Bool) (left : Int) (w : World) (hk : Arr w k 98 [.slice (some ⟨gs, 0, none⟩) n n, .slice (some ⟨gl, 0, none⟩) n n, vw, .map (some bm), .bool fu, .int .i64 left]) (h0 : 0 ≤ left) (h1 : left ≤ 9223372036854775807) (hd : deadF fu left = false) :
    Calls Try.prog 63 #[.pointer (some ⟨k, 0, none⟩)] w fun e w' => e = .returned (.bool true) ∧ Arr w' k 98 [.slice (some ⟨gs, 0, none⟩) n n, .slice (some ⟨gl, 0, none⟩) n n, vw, .map (some bm), .bool fu, .int .i64 (spentF fu left)] ∧ Only (fun b => b = k) w w' ∧ w'.heap.size = w.heap.size := by
  have h4 : w.cell? ⟨k, 4, none⟩ = some (.bool fu) := by rw [hk.cell]; rfl
  have h5 : w.cell? ⟨k, 5, none⟩ = some (.int .i64 left) := by rw [hk.cell]; rfl
  have hf5 := hk.frozen 5
  have Hd := Lib.hid hd
  have Hk := Lib.hid hk
  cases fu
  · clear hd hk
    go_enter Try.func63, Try.ntmps63
    go_wp2_with fail
    refine Calls.mono (dead_any k _ left w h4 h5) ?_
    rintro e w1 ⟨rfl, rfl⟩
    rw [Hd.out]
    go_wp2_with fail
    go_ret
    exact ⟨rfl, Hk.out, Only.refl _ _, rfl⟩
  · have hne : left ≠ 0 := by simpa [deadF] using hd
    clear hd hk
    go_enter Try.func63, Try.ntmps63
    go_wp2_with fail
    refine Calls.mono (dead_any k _ left w h4 h5) ?_
    rintro e w1 ⟨rfl, rfl⟩
    rw [Hd.out]
    go_wp2_with fail
    go_ret
    refine ⟨rfl, ?_, (Only.refl (fun b => b = k) w1).setCell (p := ⟨k, 5, none⟩) (.inl rfl) _, by simp [World.setCell]⟩
    have := Hk.out.set 5 (.int .i64 (left - 1))
    simpa [spentF] using this

end Go.Proofs.Ytkepfigoeaheaaa

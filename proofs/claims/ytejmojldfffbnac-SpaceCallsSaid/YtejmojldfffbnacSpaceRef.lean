/-
  The document's own Free, Take and Turn.
-/
import Derived.Test.YtejmojldfffbnacSpaceSpeaks
namespace Go.Proofs.Ytejmojldfffbnac
open Go.RowKit
set_option linter.unusedVariables false

theorem bool_at {w : World} {g : Nat} {T : TypeId} {L : List Bool} (h : Arr w g T (boolCells L)) {k : Nat} (hk : k < L.length) (d : Bool) : w.cell? ⟨g, k, none⟩ = some (.bool (L.getD k d)) := by
  rw [h.cell, boolCells_get hk, getD_any false d hk]
theorem bool_set {w : World} {g : Nat} {T : TypeId} {L : List Bool} (h : Arr w g T (boolCells L)) (k : Nat) (b : Bool) : Arr (w.setCell ⟨g, k, none⟩ (.bool b)) g T (boolCells (L.set k b)) := by
  have h1 := h.set k (.bool b)
  rw [boolCells_set] at h1
  exact h1

def TurnPost (g a n : Nat) (b : Bool) (L : List Bool) (w : World) (e : Ending) (w' : World) : Prop :=
  e = .returned (.int .i64 0) ∧ Arr w' g 4 (boolCells (setF a b n L)) ∧ Only (fun k => k = g) w w' ∧ w'.heap.size = w.heap.size

set_option maxHeartbeats 4000000 in
set_option maxRecDepth 100000 in
theorem rturn_yes (g a n : Nat) (b : Bool) (L : List Bool) (c : Nat) (w : World) (h : Arr w g 4 (boolCells L)) (hc : L.length ≤ c) (hm : c ≤ 9223372036854775807) (han : a + n ≤ L.length) :
    Calls Try.prog 28 #[.slice (some ⟨g, 0, none⟩) L.length c, .int .i64 (a : Nat), .int .i64 (n : Nat), .bool b] w (TurnPost g a n b L w) := by
  have hd1 : decide ((n : Int) < 0) = false := by simp
  have hd2 : decide ((a : Int) < 0) = false := by simp
  have hd3 : decide ((L.length : Int) < (a : Int)) = false := by simp; omega
  have hd4 : decide ((L.length : Int) - (a : Int) < (n : Int)) = false := by simp; omega
  go_enter Try.func28, Try.ntmps28
  go_wp2
  clear hd1 hd2 hd3 hd4
  go_loopw [9] (fun i wr => ∃ k : Nat, k ≤ n ∧ i = .int .i64 k ∧ Arr wr g 4 (boolCells (setF a b k L)) ∧ Only (fun k => k = g) w wr ∧ wr.heap.size = w.heap.size) (fun i _ => n - (intOf i).toNat)
  case atStart => exact ⟨0, Nat.zero_le _, rfl, h, Only.refl _ _, rfl⟩
  case round =>
    obtain ⟨k, hk, rfl, hA, hO, hsz⟩ := hrel
    have Hsz := Lib.hid hsz
    clear hsz
    by_cases hlt : k < n
    · have gk := bool_at hA (k := a + k) (by rw [setF_length]; omega) false
      have gf := hA.frozen (a + k)
      have hakI : (a : Int) + (k : Int) < (L.length : Int) := by omega
      go_wp2
      go_roundw
      case rel => exact ⟨k + 1, by omega, by go_num, bool_set hA (a + k) b, hO.setCell (p := ⟨g, a + k, none⟩) (.inl rfl) _, by simpa [World.setCell] using Hsz.out⟩
      case measure => simp [intOf]; omega
    · obtain rfl : k = n := by omega
      go_wp2
      go_ret
      exact ⟨rfl, hA, hO, Hsz.out⟩

set_option maxHeartbeats 4000000 in
theorem rturn_no (g : Nat) (a n : Int) (b : Bool) (L : List Bool) (c : Nat) (w : World) (hc : L.length ≤ c) (hm : c ≤ 9223372036854775807) (ha : a ≤ 9223372036854775807) (hx : n < 0 ∨ a < 0 ∨ (L.length : Int) - a < n) :
    Calls Try.prog 28 #[.slice (some ⟨g, 0, none⟩) L.length c, .int .i64 a, .int .i64 n, .bool b] w fun e w' => e = .returned (.int .i64 2) ∧ w = w' := by
  have hd : decide (n < 0) = true ∨ (decide (n < 0) = false ∧ decide (a < 0) = true) ∨ (decide (n < 0) = false ∧ decide (a < 0) = false ∧ decide ((L.length : Int) < a) = true) ∨ (decide (n < 0) = false ∧ decide (a < 0) = false ∧ decide ((L.length : Int) < a) = false ∧ decide ((L.length : Int) - a < n) = true ∧ 0 ≤ a) := by
    simp only [decide_eq_true_eq, decide_eq_false_iff_not]
    omega
  clear hx
  rcases hd with h1 | ⟨h1, h2⟩ | ⟨h1, h2, h3⟩ | ⟨h1, h2, h3, h4, h5⟩
  all_goals
    go_enter Try.func28, Try.ntmps28
    go_wp2
    go_ret
    exact ⟨rfl, rfl⟩

theorem freeF_take {L : List Bool} {k : Nat} (hk : k < L.length) : freeF (L.take (k + 1)) = freeF (L.take k) + (if L.getD k false = true then 0 else 1) := by
  rw [List.take_succ_eq_append_getElem hk, freeF_append]
  have e : L.getD k false = L[k] := by simp [List.getD, hk]
  rw [e]
  simp [freeF]

set_option maxHeartbeats 4000000 in
theorem rfree_any (g : Nat) (L : List Bool) (c : Nat) (w : World) (h : Arr w g 4 (boolCells L)) (hc : L.length ≤ c) (hm : c ≤ 9223372036854775807) :
    Calls Try.prog 34 #[.slice (some ⟨g, 0, none⟩) L.length c] w fun e w' => e = .returned (.int .i64 (freeF L : Nat)) ∧ w = w' := by
  go_enter Try.func34, Try.ntmps34
  go_wp2
  go_loop [3, 4] (fun x i => ∃ k : Nat, k ≤ L.length ∧ i = .int .i64 k ∧ x = .int .i64 (freeF (L.take k) : Nat)) (fun _ i => L.length - (intOf i).toNat)
  case atStart => exact ⟨0, Nat.zero_le _, rfl, rfl⟩
  case round =>
    obtain ⟨k, hk, rfl, rfl⟩ := hrel
    have hfl := freeF_le (L.take k)
    have htk : (L.take k).length ≤ k := List.length_take_le _ _
    by_cases hlt : k < L.length
    · have gk := bool_at h hlt false
      have hft := freeF_take hlt
      by_cases hb : L.getD k false = true
      · rw [hb] at gk
        rw [if_pos hb] at hft
        have Hft := Lib.hid hft
        clear hb hft
        go_wp2
        go_round
        case rel => exact ⟨k + 1, by omega, by go_num, by rw [Hft.out]; rfl⟩
        case measure => simp [intOf]; omega
      · rw [if_neg hb] at hft
        rw [Bool.not_eq_true] at hb
        rw [hb] at gk
        have Hft := Lib.hid hft
        clear hb hft
        go_wp2
        go_round
        case rel => exact ⟨k + 1, by omega, by go_num, by rw [Hft.out]; go_num⟩
        case measure => simp [intOf]; omega
    · obtain rfl : k = L.length := by omega
      go_wp2
      go_ret
      exact ⟨rfl, rfl⟩

def TakenPost (L : List Bool) (n : Nat) (w : World) (e : Ending) (w' : World) : Prop :=
  e = .returned (match roomF L n with | some a => .tuple #[.int .i64 (a : Nat), .int .i64 0] | none => .tuple #[.int .i64 0, .int .i64 4]) ∧ w = w'

theorem okF_succ {L : List Bool} {n a : Nat} : okF L (n + 1) a = (okF L n a && !(L.getD (a + n) true)) := by
  unfold okF
  rw [List.range_succ, List.all_append]
  simp

set_option maxHeartbeats 8000000 in
set_option maxRecDepth 100000 in
theorem rtake_any (g n : Nat) (L : List Bool) (c : Nat) (w : World) (h : Arr w g 4 (boolCells L)) (hc : L.length ≤ c) (hm : c ≤ 9223372036854775807) (hn : 1 ≤ n) (hn2 : n ≤ 9223372036854775807) :
    Calls Try.prog 32 #[.slice (some ⟨g, 0, none⟩) L.length c, .int .i64 (n : Nat)] w (TakenPost L n w) := by
  go_enter Try.func32, Try.ntmps32
  go_wp2
  go_loop [6] (fun i => ∃ k : Nat, k ≤ L.length ∧ i = .int .i64 k ∧ Hid (∀ b, b < k → okF L n b = false)) (fun i => L.length - (intOf i).toNat)
  case atStart => exact ⟨0, Nat.zero_le _, rfl, fun b hb => by omega⟩
  case round =>
    obtain ⟨k, hk, rfl, Hno⟩ := hrel
    by_cases hin : k < L.length ∧ n ≤ L.length - k
    · obtain ⟨hlt, hfit⟩ := hin
      have hd1 : decide ((k : Int) < (L.length : Int)) = true := by simp; omega
      have hd2 : decide ((n : Int) ≤ (L.length : Int) - (k : Int)) = true := by simp; omega
      go_wp2
      go_loop [7, 8] (fun x i => ∃ t : Nat, t ≤ n ∧ i = .int .i64 t ∧ x = .bool (okF L t k)) (fun _ i => n - (intOf i).toNat)
      case atStart => exact ⟨0, Nat.zero_le _, rfl, rfl⟩
      case round =>
        obtain ⟨t, ht, rfl, rfl⟩ := hrel
        by_cases htn : t < n
        · have Hs := Lib.hid (okF_succ (L := L) (n := t) (a := k))
          have hkt : k + t < L.length := by omega
          have gk := bool_at h hkt true
          obtain ⟨x, hx⟩ : ∃ x, L.getD (k + t) true = x := ⟨_, rfl⟩
          rw [hx] at gk
          have Hx := Lib.hid hx
          obtain ⟨y, hy⟩ : ∃ y, okF L t k = y := ⟨_, rfl⟩
          have Hy := Lib.hid hy
          rw [hy]
          clear hx hy
          cases y
          · go_wp2
            go_round
            case rel => exact ⟨t + 1, by omega, by go_num, by rw [Hs.out, Hy.out]; rfl⟩
            case measure => simp [intOf]; omega
          · cases x
            all_goals
              go_wp2
              go_round
              case rel => exact ⟨t + 1, by omega, by go_num, by rw [Hs.out, Hy.out, Hx.out]; rfl⟩
              case measure => simp [intOf]; omega
        · obtain rfl : t = n := by omega
          by_cases hok : okF L t k = true
          · have HR := Lib.hid (roomF_some hn hok Hno.out)
            rw [hok]
            clear hok
            go_wp2
            go_ret2
            refine ⟨?_, rfl⟩
            rw [HR.out]
            rfl
          · rw [Bool.not_eq_true] at hok
            have Hn := Lib.hid (show ∀ b, b < k + 1 → okF L t b = false from fun b hb => by
              by_cases e : b = k
              · subst e; exact hok
              · exact Hno.out b (by omega))
            rw [hok]
            clear hok
            go_wp2
            go_round
            case rel => exact ⟨k + 1, by omega, by go_num, Hn.out⟩
            case measure => simp [intOf]; omega
    · have HR := Lib.hid (show roomF L n = none from roomF_none fun b => by
        rcases Nat.lt_or_ge b k with h1 | h1
        · exact Hno.out b h1
        · rw [Bool.eq_false_iff]
          intro e
          have := okF_fits hn e
          omega)
      obtain ⟨r, hr⟩ : ∃ r, L.length - k = r := ⟨_, rfl⟩
      have hrI : (L.length : Int) - (k : Int) = (r : Int) := by omega
      have hd : decide (k < L.length) = false ∨ (decide (k < L.length) = true ∧ decide (n ≤ r) = false) := by
        simp only [decide_eq_true_eq, decide_eq_false_iff_not]
        omega
      clear hr hin
      rcases hd with hd1 | ⟨hd1, hd2⟩
      all_goals
        go_wp2
        go_ret2
        refine ⟨?_, rfl⟩
        rw [HR.out]
        rfl

set_option maxHeartbeats 4000000 in
theorem rtake_bad (g : Nat) (n : Int) (k c : Nat) (w : World) (hn : n < 1) :
    Calls Try.prog 32 #[.slice (some ⟨g, 0, none⟩) k c, .int .i64 n] w fun e w' => e = .returned (.tuple #[.int .i64 0, .int .i64 1]) ∧ w = w' := by
  go_enter Try.func32, Try.ntmps32
  go_wp2
  go_ret2
  exact ⟨rfl, rfl⟩

end Go.Proofs.Ytejmojldfffbnac

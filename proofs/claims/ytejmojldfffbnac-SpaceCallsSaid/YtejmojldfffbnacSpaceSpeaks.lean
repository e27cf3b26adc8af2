/-
  The law's example of space; the spaces that are filled from the beginning on.
-/
import Derived.Test.YtejmojldfffbnacSpaceNew
namespace Go.Proofs.Ytejmojldfffbnac
open Go.RowKit
set_option linter.unusedVariables false

theorem and_mask (z : Int) (M : Nat) (hM : M < 9223372036854775808) : ∃ v : Nat, v ≤ M ∧ bits .and .i64 z (M : Int) = (v : Int) := by
  have hle : (BitVec.ofInt 64 z &&& BitVec.ofInt 64 (M : Int)).toNat ≤ M := by
    rw [BitVec.toNat_and]
    refine Nat.le_trans Nat.and_le_right ?_
    rw [BitVec.ofInt_natCast, BitVec.toNat_ofNat]
    exact Nat.mod_le _ _
  refine ⟨_, hle, ?_⟩
  show IntKind.i64.wrap (((BitVec.ofInt 64 z &&& BitVec.ofInt 64 (M : Int)).toNat : Nat) : Int) = _
  obtain ⟨q, hq⟩ : ∃ q, (BitVec.ofInt 64 z &&& BitVec.ofInt 64 (M : Int)).toNat = q := ⟨_, rfl⟩
  rw [hq] at hle ⊢
  exact IntWalk.i64_in _ (by omega)

/-- Of n sectors the first k are taken. -/
def firstF (n k : Nat) : List Bool := setF 0 true k (List.replicate n false)
theorem firstF_length (n k : Nat) : (firstF n k).length = n := by unfold firstF; rw [setF_length, List.length_replicate]
theorem firstF_get {n k j : Nat} (d : Bool) (h : j < n) : (firstF n k).getD j d = decide (j < k) := by
  unfold firstF
  rw [setF_get (by rw [List.length_replicate]; exact h)]
  by_cases hk : j < k
  · rw [if_pos (by omega)]; simp [hk]
  · rw [if_neg (by omega)]; simp [hk, List.getD, h]
theorem setF_add (b : Bool) (L : List Bool) (k n : Nat) : setF 0 b (k + n) L = setF k b n (setF 0 b k L) := by
  induction n with
  | zero => rfl
  | succ n ih => rw [show k + (n + 1) = (k + n) + 1 from rfl, setF, setF, ih, Nat.zero_add]
theorem firstF_more (s k n : Nat) : setF k true n (firstF s k) = firstF s (k + n) := (setF_add true _ k n).symm
theorem firstF_free {n k : Nat} (h : k ≤ n) : freeF (firstF n k) = n - k := by
  induction k with
  | zero => unfold firstF setF; rw [freeF_replicate]; simp
  | succ k ih =>
    have h1 : firstF n (k + 1) = (firstF n k).set k true := by unfold firstF; rw [setF, Nat.zero_add]
    have h2 := freeF_set_true (L := firstF n k) (k := k) (by rw [firstF_length]; omega) (by rw [firstF_get true (by omega)]; simp)
    rw [h1]
    rw [ih (by omega)] at h2
    omega
theorem firstF_room {s k n : Nat} (hn : 1 ≤ n) (h : k + n ≤ s) : roomF (firstF s k) n = some k := by
  refine roomF_some hn (okF_iff.2 fun i hi => ?_) fun b hb => okF_not (i := 0) (by omega) ?_
  · rw [firstF_get true (by omega)]; simp
  · rw [Nat.add_zero, firstF_get true (by omega)]; simpa using hb
theorem firstF_full {s k n : Nat} (hn : 1 ≤ n) (h : s < k + n) (hk : k ≤ s) : roomF (firstF s k) n = none := by
  refine roomF_none fun b => ?_
  rcases Nat.lt_or_ge b k with h1 | h1
  · refine okF_not (i := 0) (by omega) ?_
    rw [Nat.add_zero, firstF_get true (by omega)]; simpa using h1
  · rcases Nat.lt_or_ge s b with h2 | h2
    · exact okF_not (i := 0) (by omega) (getD_out (by rw [firstF_length]; omega))
    · exact okF_not (i := s - b) (by omega) (getD_out (by rw [firstF_length]; omega))

theorem new_first (n k : Nat) (w : World) (h1 : 1 ≤ n) (h2 : n ≤ 65536) (hk : k ≤ n) :
    Calls Try.prog 26 #[.int .i64 (n : Nat), .int .i64 (k : Nat)] w fun e w' => ∃ p g m, e = .returned (.tuple #[.pointer (some ⟨p, 0, none⟩), .int .i64 0]) ∧ w.heap.size ≤ p ∧ w.heap.size ≤ g ∧ SpT w' p g (firstF n k) (freeF (firstF n k)) m n [] ∧ Full (firstF n k) m ∧ Below w.heap.size w w' :=
  new_yes n k w h1 h2 hk

set_option maxHeartbeats 4000000 in
theorem spaceSpeaks_true (w : World) : Calls Try.prog 25 #[] w fun e w' => e = .returned (.bool true) ∧ Below w.heap.size w w' := by
  have hr : roomF (firstF 5 2) 2 = some 2 := firstF_room (by omega) (by omega)
  have HR := Lib.hid hr
  have hf : freeF (firstF 5 (2 + 2)) = 1 := firstF_free (by omega)
  have HF := Lib.hid hf
  clear hr hf
  go_enter Try.func25, Try.ntmps25
  go_wp2_with fail
  refine Calls.mono (new_first 5 2 w (by omega) (by omega) (by omega)) ?_
  rintro e w1 ⟨p, g, m, rfl, hp, hg, hS, hF, hb⟩
  go_wp2_with fail
  refine Calls.mono (take_yes p g 2 2 _ m 5 [] w1 hS hF (by omega) (by omega) HR.out) ?_
  rintro e w2 ⟨rfl, m2, hS2, hF2, hO⟩
  rw [firstF_more, HF.out] at hS2
  go_wp2_with fail
  refine Calls.mono (free_any p g _ _ m2 5 [] w2 hS2) ?_
  rintro e w3 ⟨rfl, rfl⟩
  go_wp2_with fail
  go_ret
  exact ⟨rfl, hb.trans (hO.below hb.size (by rintro i (rfl | rfl) <;> omega))⟩

end Go.Proofs.Ytejmojldfffbnac

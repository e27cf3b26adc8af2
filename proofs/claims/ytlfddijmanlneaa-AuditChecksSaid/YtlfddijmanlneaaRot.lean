/-
  rot, the program's and the document's.
-/
import Derived.Test.YtlfddijmanlneaaRows
import Derived.Test.YtlfddijmanlneaaShaMath
import Derived.WalkLawsBesides
import Derived.IntWalk
import Derived.Deep.QuietTactic
namespace Go.Proofs.Ytlfddijmanlneaa
open Go.RowKit
set_option linter.unusedVariables false

theorem ret_int {k : IntKind} {a b : Int} (h : a = b) : Ending.returned (.int k a) = .returned (.int k b) := by rw [h]

theorem rot_or (x n : Nat) (hx : x < 4294967296) : bits .or .u32 ((x : Int) * 2 ^ (32 - n) % 4294967296) ((x : Int) / 2 ^ n) = ((rotN x n : Nat) : Int) ∧ bits .or .u32 ((x : Int) / 2 ^ n) ((x : Int) * 2 ^ (32 - n) % 4294967296) = ((rotN x n : Nat) : Int) := by
  have e1 : (x : Int) * 2 ^ (32 - n) % 4294967296 = ((x * 2 ^ (32 - n) % 4294967296 : Nat) : Int) := by
    rw [Int.natCast_emod, Int.natCast_mul, Int.natCast_pow]; rfl
  have e2 : (x : Int) / 2 ^ n = ((x / 2 ^ n : Nat) : Int) := by rw [Int.natCast_ediv, Int.natCast_pow]; rfl
  have h1 : x * 2 ^ (32 - n) % 4294967296 < 4294967296 := Nat.mod_lt _ (by decide)
  have h2 := div_lt32 (2 ^ n) hx
  rw [e1, e2]
  constructor
  · rw [(bits_u32 _ _ h1 h2).2.2, Nat.or_comm]; rfl
  · rw [(bits_u32 _ _ h2 h1).2.2]; rfl

theorem low5 : ∀ n : Fin 32, 1 ≤ n.val → bits .and .u64 (IntKind.u64.wrap (-(n.val : Int))) 31 = ((32 - n.val : Nat) : Int) := by decide +kernel

set_option maxHeartbeats 4000000 in
set_option maxRecDepth 100000 in
theorem rotLeft_any (x n : Nat) (hx : x < 4294967296) (h1 : 1 ≤ n) (h2 : n ≤ 31) (w : World) :
    Calls Try.prog 95 #[.int .u32 (x : Nat), .int .i64 (-(n : Int))] w fun e w' => e = .returned (.int .u32 (rotN x n : Nat)) ∧ w = w' := by
  have hr := (rot_or x n hx).1
  have hl := low5 ⟨n, by omega⟩ h1
  obtain ⟨m, hm⟩ : ∃ m, 32 - n = m := ⟨_, rfl⟩
  rw [hm] at hr
  simp only at hl
  rw [hm] at hl
  have hs : (32 : Int) - (m : Int) = (n : Int) := by omega
  have hm1 : m ≤ 31 := by omega
  have hm2 : (m : Int) ≤ 32 := by omega
  have hn2 : (n : Int) ≤ 32 := by omega
  have Hr := Lib.hid hr
  have Hm := Lib.hid hm
  clear hr hm h1 h2
  go_enter Try.func95, Try.ntmps95
  go_wp2
  go_ret
  exact ⟨ret_int Hr.out, rfl⟩

set_option maxHeartbeats 4000000 in
theorem rot_any (x n : Nat) (hx : x < 4294967296) (h1 : 1 ≤ n) (h2 : n ≤ 31) (w : World) :
    Calls Try.prog 89 #[.int .u32 (x : Nat), .int .i64 (n : Int)] w fun e w' => e = .returned (.int .u32 (rotN x n : Nat)) ∧ w = w' := by
  have h3 : (n : Int) ≤ 31 := by omega
  go_enter Try.func89, Try.ntmps89
  go_wp2_with (go_at_call 95; refine (rotLeft_any x n hx h1 h2 _).mono ?_; rintro e w' ⟨rfl, rfl⟩)
  go_ret
  exact ⟨rfl, rfl⟩

set_option maxHeartbeats 4000000 in
theorem rotBy_any (x n : Nat) (hx : x < 4294967296) (h1 : 1 ≤ n) (h2 : n ≤ 31) (w : World) :
    Calls Try.prog 83 #[.int .u32 (x : Nat), .int .u32 (n : Int)] w fun e w' => e = .returned (.int .u32 (rotN x n : Nat)) ∧ w = w' := by
  have hr := (rot_or x n hx).2
  obtain ⟨m, hm⟩ : ∃ m, 32 - n = m := ⟨_, rfl⟩
  rw [hm] at hr
  have hs : (32 : Int) - (n : Int) = (m : Int) := by omega
  have hm1 : m ≤ 31 := by omega
  have hm2 : (m : Int) ≤ 32 := by omega
  have hn2 : (n : Int) ≤ 32 := by omega
  have Hr := Lib.hid hr
  have Hm := Lib.hid hm
  clear hr hm h1 h2
  go_enter Try.func83, Try.ntmps83
  go_wp2
  go_ret
  exact ⟨ret_int Hr.out, rfl⟩

set_option maxHeartbeats 4000000 in
theorem rrot_any (x n : Nat) (hx : x < 4294967296) (h1 : 1 ≤ n) (h2 : n ≤ 31) (w : World) :
    Calls Try.prog 77 #[.int .u32 (x : Nat), .int .i64 (n : Int)] w fun e w' => e = .returned (.int .u32 (rotN x n : Nat)) ∧ w = w' := by
  have h3 : (n : Int) ≤ 31 := by omega
  go_enter Try.func77, Try.ntmps77
  go_wp2_with (go_at_call 83; refine (rotBy_any x n hx h1 h2 _).mono ?_; rintro e w' ⟨rfl, rfl⟩)
  go_ret
  exact ⟨rfl, rfl⟩

set_option maxHeartbeats 4000000 in
theorem rshr_any (x n : Nat) (hx : x < 4294967296) (h2 : n ≤ 31) (w : World) :
    Calls Try.prog 78 #[.int .u32 (x : Nat), .int .i64 (n : Int)] w fun e w' => e = .returned (.int .u32 (x / 2 ^ n : Nat)) ∧ w = w' := by
  have h3 : (n : Int) ≤ 31 := by omega
  have h4 : (n : Int) ≤ 32 := by omega
  have e2 : (x : Int) / 2 ^ n = ((x / 2 ^ n : Nat) : Int) := by rw [Int.natCast_ediv, Int.natCast_pow]; rfl
  have E2 := Lib.hid e2
  clear e2
  go_enter Try.func78, Try.ntmps78
  go_wp2
  go_ret
  exact ⟨ret_int E2.out, rfl⟩

/-- As it is met at a numeral. -/
theorem rot_at (x : Nat) (c : Int) (hx : x < 4294967296) (h1 : 1 ≤ c) (h2 : c ≤ 31) (w : World) :
    Calls Try.prog 89 #[.int .u32 (x : Nat), .int .i64 c] w fun e w' => e = .returned (.int .u32 (rotN x c.toNat : Nat)) ∧ w' = w := by
  obtain ⟨n, rfl⟩ := Int.eq_ofNat_of_zero_le (show 0 ≤ c by omega)
  exact (rot_any x n hx (by omega) (by omega) w).mono fun e w' h => ⟨h.1, h.2.symm⟩
theorem rrot_at (x : Nat) (c : Int) (hx : x < 4294967296) (h1 : 1 ≤ c) (h2 : c ≤ 31) (w : World) :
    Calls Try.prog 77 #[.int .u32 (x : Nat), .int .i64 c] w fun e w' => e = .returned (.int .u32 (rotN x c.toNat : Nat)) ∧ w' = w := by
  obtain ⟨n, rfl⟩ := Int.eq_ofNat_of_zero_le (show 0 ≤ c by omega)
  exact (rrot_any x n hx (by omega) (by omega) w).mono fun e w' h => ⟨h.1, h.2.symm⟩
theorem rshr_at (x : Nat) (c : Int) (hx : x < 4294967296) (h1 : 1 ≤ c) (h2 : c ≤ 31) (w : World) :
    Calls Try.prog 78 #[.int .u32 (x : Nat), .int .i64 c] w fun e w' => e = .returned (.int .u32 (x / 2 ^ c.toNat : Nat)) ∧ w' = w := by
  obtain ⟨n, rfl⟩ := Int.eq_ofNat_of_zero_le (show 0 ≤ c by omega)
  exact (rshr_any x n hx (by omega) w).mono fun e w' h => ⟨h.1, h.2.symm⟩

/-- A call that leaves the world, met behind draws that the walk has joined. -/
theorem calls_joined {P : Program} {f : FuncId} {args : Array Value} {w : World} {k n : Nat} {v : Value} (h : ∀ W : World, Calls P f args W fun e w' => e = .returned v ∧ w' = W) :
    Calls P f args (w.drewN (k + n)) fun e w' => e = .returned v ∧ ∃ m, w' = w.drewN (k + m) :=
  (h _).mono fun _ _ ⟨he, hw⟩ => ⟨he, n, hw⟩

end Go.Proofs.Ytlfddijmanlneaa

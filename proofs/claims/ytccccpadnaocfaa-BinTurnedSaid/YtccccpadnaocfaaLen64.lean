/-
  bits.Len64: the walk of its three tests and its table. (Few imports: under those of a great frame the walk does not come through the table.)
-/
import Derived.Test.YtccccpadnaocfaaRows
import Derived.Test.YtccccpadnaocfaaChecked
import Derived.Lib.Strings
import Derived.Lib.Slices
import Derived.Lib.Small
import Derived.Lib.Walk
import Derived.Lib.BitFns
namespace Go.Proofs.Ytccccpadnaocfaa
set_option linter.unusedVariables false

theorem dv (n k : Nat) (K : Int) (hK : K = (k : Int)) : (n : Int) / K = ((n / k : Nat) : Int) := by subst hK; exact (Int.natCast_ediv n k).symm
theorem md (n : Nat) : (n : Int) % 256 = ((n % 256 : Nat) : Int) := by omega
theorem len_end {n : Nat} {y K : Int} {s D : Nat} (hK : K = (s : Int)) (hD : 2 ^ s = D) (h1 : n < 18446744073709551616) (hy : y = ((n / D : Nat) : Int)) (hq : n / D < 256) (hs : D ≤ n) (hs56 : s ≤ 56) :
    (K + ((Lib.len8 y + 9223372036854775808) % 18446744073709551616 - 9223372036854775808) + 9223372036854775808) % 18446744073709551616 - 9223372036854775808 = (Lib.bitLen n : Int) := by
  subst hD hK hy
  obtain ⟨q, hqq⟩ : ∃ q, n / 2 ^ s = q := ⟨_, rfl⟩
  have e := Lib.bitLen_shift s n hs h1
  rw [hqq] at hq e ⊢
  have l := Lib.bitLen_le8' (q : Int) (by omega) (by omega)
  rw [Lib.len8_of (q : Int) (by omega) (by omega)]
  rw [Int.toNat_natCast] at l ⊢
  obtain ⟨b, hb⟩ : ∃ b, Lib.bitLen q = b := ⟨_, rfl⟩
  rw [hb] at e l ⊢
  rw [e]
  omega

set_option maxHeartbeats 4000000 in
set_option maxRecDepth 100000 in
theorem len64_walk (n : Nat) (w : World) (h1 : n < 18446744073709551616) :
    Calls Try.prog 77 #[.int .u64 (n : Nat)] w fun e w' => e = .returned (.int .i64 (Lib.bitLen n)) ∧ w' = w := by
  go_enter Try.func77, Try.ntmps77
  go_wp2
  all_goals (go_ret; refine ⟨congrArg Ending.returned (congrArg (Value.int IntKind.i64) ?_), rfl⟩)
  · have e : (n : Int) / 4294967296 / 65536 / 256 % 256 = ((n / 4294967296 / 65536 / 256 % 256 : Nat) : Int) := by rw [dv _ 4294967296 4294967296 rfl, dv _ 65536 65536 rfl, dv _ 256 256 rfl, md]
    have e2 : n / 4294967296 / 65536 / 256 = n / 72057594037927936 := by first | rfl | (rw [Nat.div_div_eq_div_mul]; done) | (rw [Nat.div_div_eq_div_mul, Nat.div_div_eq_div_mul]; done)
    rw [e2] at e
    have h3 : n / 72057594037927936 < 256 := by omega
    rw [Nat.mod_eq_of_lt h3] at e
    exact len_end (s := 56) (D := 72057594037927936) rfl rfl h1 e h3 (by omega) (by omega)
  · have e : (n : Int) / 4294967296 / 65536 % 256 = ((n / 4294967296 / 65536 % 256 : Nat) : Int) := by rw [dv _ 4294967296 4294967296 rfl, dv _ 65536 65536 rfl, md]
    have e2 : n / 4294967296 / 65536 = n / 281474976710656 := by first | rfl | (rw [Nat.div_div_eq_div_mul]; done) | (rw [Nat.div_div_eq_div_mul, Nat.div_div_eq_div_mul]; done)
    rw [e2] at e
    have h3 : n / 281474976710656 < 256 := by omega
    rw [Nat.mod_eq_of_lt h3] at e
    exact len_end (s := 48) (D := 281474976710656) rfl rfl h1 e h3 (by omega) (by omega)
  · have e : (n : Int) / 4294967296 / 256 % 256 = ((n / 4294967296 / 256 % 256 : Nat) : Int) := by rw [dv _ 4294967296 4294967296 rfl, dv _ 256 256 rfl, md]
    have e2 : n / 4294967296 / 256 = n / 1099511627776 := by first | rfl | (rw [Nat.div_div_eq_div_mul]; done) | (rw [Nat.div_div_eq_div_mul, Nat.div_div_eq_div_mul]; done)
    rw [e2] at e
    have h3 : n / 1099511627776 < 256 := by omega
    rw [Nat.mod_eq_of_lt h3] at e
    exact len_end (s := 40) (D := 1099511627776) rfl rfl h1 e h3 (by omega) (by omega)
  · have e : (n : Int) / 4294967296 % 256 = ((n / 4294967296 % 256 : Nat) : Int) := by rw [dv _ 4294967296 4294967296 rfl, md]
    have e2 : n / 4294967296 = n / 4294967296 := by first | rfl | (rw [Nat.div_div_eq_div_mul]; done) | (rw [Nat.div_div_eq_div_mul, Nat.div_div_eq_div_mul]; done)
    rw [e2] at e
    have h3 : n / 4294967296 < 256 := by omega
    rw [Nat.mod_eq_of_lt h3] at e
    exact len_end (s := 32) (D := 4294967296) rfl rfl h1 e h3 (by omega) (by omega)
  · have e : (n : Int) / 65536 / 256 % 256 = ((n / 65536 / 256 % 256 : Nat) : Int) := by rw [dv _ 65536 65536 rfl, dv _ 256 256 rfl, md]
    have e2 : n / 65536 / 256 = n / 16777216 := by first | rfl | (rw [Nat.div_div_eq_div_mul]; done) | (rw [Nat.div_div_eq_div_mul, Nat.div_div_eq_div_mul]; done)
    rw [e2] at e
    have h3 : n / 16777216 < 256 := by omega
    rw [Nat.mod_eq_of_lt h3] at e
    exact len_end (s := 24) (D := 16777216) rfl rfl h1 e h3 (by omega) (by omega)
  · have e : (n : Int) / 65536 % 256 = ((n / 65536 % 256 : Nat) : Int) := by rw [dv _ 65536 65536 rfl, md]
    have e2 : n / 65536 = n / 65536 := by first | rfl | (rw [Nat.div_div_eq_div_mul]; done) | (rw [Nat.div_div_eq_div_mul, Nat.div_div_eq_div_mul]; done)
    rw [e2] at e
    have h3 : n / 65536 < 256 := by omega
    rw [Nat.mod_eq_of_lt h3] at e
    exact len_end (s := 16) (D := 65536) rfl rfl h1 e h3 (by omega) (by omega)
  · have e : (n : Int) / 256 % 256 = ((n / 256 % 256 : Nat) : Int) := by rw [dv _ 256 256 rfl, md]
    have e2 : n / 256 = n / 256 := by first | rfl | (rw [Nat.div_div_eq_div_mul]; done) | (rw [Nat.div_div_eq_div_mul, Nat.div_div_eq_div_mul]; done)
    rw [e2] at e
    have h3 : n / 256 < 256 := by omega
    rw [Nat.mod_eq_of_lt h3] at e
    exact len_end (s := 8) (D := 256) rfl rfl h1 e h3 (by omega) (by omega)
  · have e : (n : Int) % 256 = (n : Int) := by omega
    have h3 : n ≤ 255 := by omega
    have l := Lib.bitLen_le8' (n : Int) (by omega) (by omega)
    rw [e, Lib.len8_of (n : Int) (by omega) (by omega)]
    rw [Int.toNat_natCast] at l ⊢
    omega

end Go.Proofs.Ytccccpadnaocfaa

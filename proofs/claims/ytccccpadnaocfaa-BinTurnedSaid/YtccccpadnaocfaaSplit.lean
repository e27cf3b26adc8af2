/-
  How many rows are the first part: the document's Split, and bits.Len.
-/
import Derived.Test.YtccccpadnaocfaaDig0
import Derived.IntWalk
namespace Go.Proofs.Ytccccpadnaocfaa
open Go.RowKit
set_option linter.unusedVariables false

/-- The greatest power of two below n. -/
def splitF (n : Nat) : Nat := 2 ^ Nat.log2 (n - 1)

theorem splitF_is {n i : Nat} (h1 : 2 ^ i < n) (h2 : n ≤ 2 * 2 ^ i) : splitF n = 2 ^ i := by
  unfold splitF
  have hp : 0 < 2 ^ i := Nat.two_pow_pos i
  have hn : n - 1 ≠ 0 := by omega
  have a : i ≤ Nat.log2 (n - 1) := (Nat.le_log2 hn).2 (by omega)
  have b : Nat.log2 (n - 1) < i + 1 := (Nat.log2_lt hn).2 (by rw [Nat.pow_succ]; omega)
  rw [show Nat.log2 (n - 1) = i from by omega]
theorem splitF_facts {n : Nat} (h : 2 ≤ n) : 0 < splitF n ∧ splitF n < n ∧ n ≤ 2 * splitF n := by
  unfold splitF
  have hn : n - 1 ≠ 0 := by omega
  have a := (Nat.le_log2 hn).1 (Nat.le_refl _)
  have b := (Nat.log2_lt hn).1 (Nat.lt_succ_self (Nat.log2 (n - 1)))
  rw [Nat.pow_succ] at b
  refine ⟨Nat.two_pow_pos _, by omega, by omega⟩

set_option maxHeartbeats 2000000 in
theorem rsplit_any (n : Nat) (h2 : 2 ≤ n) (hn : n < 9223372036854775808) (w : World) :
    Calls Try.prog 52 #[.int .i64 (n : Nat)] w fun e w' => e = .returned (.int .i64 (splitF n : Nat)) ∧ w' = w := by
  go_enter Try.func52, Try.ntmps52
  go_wp2_with fail
  go_loopw [3] (fun k wr => ∃ i K : Nat, 2 ^ i = K ∧ K < n ∧ k = .int .i64 K ∧ wr = w) (fun k _ => n - (intOf k).toNat)
  case atStart => exact ⟨0, 1, rfl, by omega, rfl, rfl⟩
  case round =>
    obtain ⟨i, K, hK, hKn, rfl, rfl⟩ := hrel
    have HK := Lib.hid hK
    have hpos : 0 < K := by rw [← hK]; exact Nat.two_pow_pos i
    clear hK
    by_cases ht : 2 * K < n
    · have hd : decide ((K : Int) < (n : Int) - (K : Int)) = true := by simp; omega
      go_wp2_with fail
      go_roundw
      case rel => exact ⟨i + 1, 2 * K, by rw [Nat.pow_succ, HK.out]; omega, ht, by go_num, (by first | rfl | trivial)⟩
      case measure => simp [intOf]; omega
    · have hd : decide ((K : Int) < (n : Int) - (K : Int)) = false := by simp; omega
      have hs : splitF n = K := by rw [← HK.out]; exact splitF_is (by rw [HK.out]; exact hKn) (by rw [HK.out]; omega)
      have Hs := Lib.hid hs
      clear hs
      go_wp2_with fail
      exact bodyPost_ret (v := .int .i64 (K : Nat)) (by simp [results, Try.f52]) rfl ⟨by rw [Hs.out], rfl⟩

/-- How many bits a number has. -/
def lenF (x : Nat) : Nat := if x = 0 then 0 else Nat.log2 x + 1
theorem lenF_shift {x k : Nat} (h : 2 ^ k ≤ x) : lenF x = lenF (x / 2 ^ k) + k := by
  have hk : 0 < 2 ^ k := Nat.two_pow_pos k
  have hx : x ≠ 0 := by omega
  have hd : x / 2 ^ k ≠ 0 := by
    have := Nat.div_pos h hk
    omega
  unfold lenF
  rw [if_neg hx, if_neg hd]
  have h1 : Nat.log2 x = Nat.log2 (x / 2 ^ k) + k := by
    have a := (Nat.le_log2 hd).1 (Nat.le_refl _)
    have b := (Nat.log2_lt hd).1 (Nat.lt_succ_self _)
    have a' : 2 ^ (Nat.log2 (x / 2 ^ k) + k) ≤ x := by
      rw [Nat.pow_add]; exact (Nat.le_div_iff_mul_le hk).1 a
    have b' : x < 2 ^ (Nat.log2 (x / 2 ^ k) + k + 1) := by
      have := (Nat.div_lt_iff_lt_mul hk).1 b
      rw [show Nat.log2 (x / 2 ^ k) + k + 1 = (Nat.log2 (x / 2 ^ k)).succ + k from by omega, Nat.pow_add]
      exact this
    have c := (Nat.le_log2 hx).2 a'
    have d := (Nat.log2_lt hx).2 b'
    omega
  omega
theorem splitF_len {n : Nat} (h : 2 ≤ n) : splitF n = 2 ^ (lenF (n - 1) - 1) := by
  unfold splitF lenF
  rw [if_neg (by omega)]
  rfl

/-- A byte of a table that is a string. -/
theorem wpList_table {P : Program} {ops : Array Oper} {rest : List Oper} {o : Oper} {a : Act} {w : World} {Q : Exit → Act → World → Prop} (hgd : o.guard = none) (t : TypeId) (x y : Operand) (ho : o.op = .index t x y) (s : ByteArray) (hx : a.eval x = .string s) (k : IntKind) (j : Nat) (hy : a.eval y = .int k (j : Nat))
    (ht : P.underlying t = some .string) (f : Nat → Nat) (N : Nat) (hsz : s.size = N) (hj : j < N) (hall : ((List.range N).all fun i => decide (((s.data[i]?).map (·.toNat)) = some (f i))) = true)
    (h : wpList P ops Q rest (a.put o.dst (.int .u8 (f j : Nat))) w) : wpList P ops Q (o :: rest) a w :=
  wpList_plain hgd fun _ hK => by
    have hb := of_decide_eq_true ((List.all_eq_true.1 hall) j (List.mem_range.2 hj))
    have hi : (0 : Int) ≤ (j : Int) ∧ (j : Int) < s.size := by omega
    have hrun := run_index_string (P := P) (w := w) t s k (j : Int) ht
    rw [dif_pos hi] at hrun
    have hv : ((s[((j : Nat) : Int).toNat]'(by omega)).toNat : Nat) = f j := by
      have hd : s.data[j]? = some (s.data[j]'(by have : s.data.size = s.size := rfl; omega)) := Array.getElem?_eq_getElem _
      rw [hd] at hb
      have h2 : (s.data[j]'(by have : s.data.size = s.size := rfl; omega)).toNat = f j := by simpa using hb
      exact h2
    unfold Oper.wp execOp
    simp only [ho, hx, hy, Sem.run_bind, hrun, Result.andThen_ok, hv]
    exact hK _ _ h

end Go.Proofs.Ytccccpadnaocfaa

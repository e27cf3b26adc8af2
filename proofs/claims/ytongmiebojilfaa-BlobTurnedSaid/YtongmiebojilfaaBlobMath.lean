/-
  Bytes in sectors; a Ref.
-/
import Derived.Test.YtongmiebojilfaaDiskClone
import Derived.Test.YtongmiebojilfaaTagged
namespace Go.Proofs.Ytongmiebojilfaa
open Go.RowKit
set_option linter.unusedVariables false
set_option linter.unusedSimpArgs false

/-- How many sectors n bytes need. -/
def secsF (n : Nat) : Nat := (n - 1) / 64 + 1
theorem secsF_pos (n : Nat) : 1 ≤ secsF n := by unfold secsF; omega
theorem secsF_fits {n i : Nat} (h : i < secsF n) (hn : 0 < n) : 64 * i < n := by unfold secsF at h; omega
theorem secsF_last {n : Nat} : n ≤ 64 * secsF n := by unfold secsF; omega
theorem secsF_le {n : Nat} (h : n ≤ 65536) : secsF n ≤ 1024 := by unfold secsF; omega

/-- The i-th sector of bytes. -/
def secAtF (b : List UInt8) (i : Nat) : List UInt8 := (b.drop (64 * i)).take 64 ++ List.replicate (64 - ((b.drop (64 * i)).take 64).length) 0
theorem secAtF_length (b : List UInt8) (i : Nat) : (secAtF b i).length = 64 := by
  unfold secAtF
  rw [List.length_append, List.length_replicate]
  have : ((b.drop (64 * i)).take 64).length ≤ 64 := by rw [List.length_take]; omega
  omega
/-- The sectors with bytes written from one on. -/
def putF (S : List (List UInt8)) (a : Nat) (b : List UInt8) : Nat → List (List UInt8)
  | 0 => S
  | i + 1 => (putF S a b i).set (a + i) (secAtF b i)
theorem putF_length (S : List (List UInt8)) (a : Nat) (b : List UInt8) (i : Nat) : (putF S a b i).length = S.length := by
  induction i with
  | zero => rfl
  | succ i ih => rw [putF, List.length_set, ih]
/-- The bytes that stand in sectors. -/
def getF (S : List (List UInt8)) (a n : Nat) : List UInt8 := ((List.range (secsF n)).flatMap fun i => S.getD (a + i) []).take n

/-- A Ref's cells. -/
def refC (d : List UInt8) (a n : Int) : List Value := Lib.byteCells d ++ [.int .i64 a, .int .i64 n]
theorem refC_length {d : List UInt8} (h : d.length = 32) (a n : Int) : (refC d a n).length = 34 := by simp [refC, Lib.byteCells_length, h]
theorem refC_cell (d : List UInt8) (a n : Int) : ∀ v ∈ refC d a n, v.oneCell' = true := by
  intro v hv
  simp only [refC, List.mem_append, List.mem_cons, List.not_mem_nil, or_false] at hv
  rcases hv with hv | rfl | rfl
  · exact byteCells_one _ v hv
  · rfl
  · rfl
def blobDig (b : List UInt8) : List UInt8 := shaF (tagF 3 [b])
theorem blobDig_length (b : List UInt8) : (blobDig b).length = 32 := shaF_length _
theorem refSize : (Try.prog.info? 36).map (·.size) = some 34 := by kernel_rfl
def refZ : List Value := refC (List.replicate 32 0) 0 0
theorem ref_fill (parts : List (Nat × Value)) : Try.prog.built 36 parts = Instr.fill (#[(0, 32), (32, 1), (33, 1)][·]?) refZ.toArray parts := by kernel_rfl
theorem fill_cons (place : Nat → Option (Nat × Nat)) (cells : Array Value) (x : Nat × Value) (rest : List (Nat × Value)) (c : Array Value) (h : Instr.fill place cells [x] = some c) : Instr.fill place cells (x :: rest) = Instr.fill place c rest := by
  obtain ⟨i, v⟩ := x
  unfold Instr.fill at h ⊢
  cases hp : place i with
  | none => simp [hp] at h
  | some p =>
    obtain ⟨off, n⟩ := p
    simp only [hp] at h ⊢
    split at h
    · cases h
    · rename_i hc
      rw [if_neg hc]
      simp only [Instr.fill] at h
      injection h with h
      rw [h]
      conv => lhs; unfold Instr.fill

theorem ref_built (d : List UInt8) (VL : List Value) (hV : VL = Lib.byteCells d) (hd : d.length = 32) (a n : Int) : Try.prog.built 36 [(0, .agg VL.toArray), (1, .int .i64 a), (2, .int .i64 n)] = some (refC d a n).toArray := by
  have hl : VL.length = 32 := by rw [hV, Lib.byteCells_length, hd]
  rw [ref_fill]
  have h1 := fill_mid (#[(0, 32), (32, 1), (33, 1)][·]?) refZ.toArray 0 0 VL (by rw [hl]; rfl) (by rw [hl]; decide +kernel)
  rw [hl] at h1
  have e : (refZ.toArray.toList.take 0 ++ (VL ++ refZ.toArray.toList.drop (0 + 32)) : List Value) = VL ++ [Value.int .i64 0, Value.int .i64 0] := by rfl
  rw [e] at h1
  have h2 : Instr.fill (#[(0, 32), (32, 1), (33, 1)][·]?) (VL ++ [Value.int .i64 0, Value.int .i64 0]).toArray [(1, .int .i64 a), (2, .int .i64 n)] = some (VL ++ [Value.int .i64 a, Value.int .i64 n]).toArray := by
    simp [Instr.fill, Value.cells, hl, List.set_append_right]
  unfold refC
  rw [← hV, ← h2]
  exact fill_cons _ _ _ _ _ h1

set_option maxHeartbeats 4000000 in
theorem sectors_any (n : Nat) (h : n ≤ 1000000) (w : World) : Calls Try.prog 18 #[.int .i64 (n : Nat)] w fun e w' => e = .returned (.int .i64 (secsF n : Nat)) ∧ w' = w := by
  have hd : decide ((n : Int) < 0) = false := by simp
  obtain ⟨m, hm⟩ : ∃ m, n - 1 = m := ⟨_, rfl⟩
  have hmx : ∀ (ty : TypeId) (w : World), (Builtin.max_ #[3, 3] ty #[.int .i64 ((n : Int) - 1), .int .i64 0]).run Try.prog w = .ok (.int .i64 (m : Nat)) w := fun ty w => by (go_simp; omega)
  obtain ⟨r, hr⟩ : ∃ r, m / 64 = r := ⟨_, rfl⟩
  have hrI : (m : Int) / 64 = (r : Int) := by omega
  have hrT : (m : Int).tdiv 64 = (r : Int) := by rw [Int.tdiv_eq_ediv_of_nonneg (by omega)]; exact hrI
  have hrB : r ≤ 20000 := by omega
  have hmB : m ≤ 1000000 := by omega
  have hq := Lib.hid (show secsF n = r + 1 by unfold secsF; omega)
  clear hm hr
  go_enter Try.func18, Try.ntmps18
  go_wp2
  go_ret
  exact ⟨by rw [hq.out]; first | rfl | (congr 2), rfl⟩

end Go.Proofs.Ytongmiebojilfaa

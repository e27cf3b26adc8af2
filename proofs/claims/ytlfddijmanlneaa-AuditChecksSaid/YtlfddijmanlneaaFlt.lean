/-
  The cube root, the square root and the floor of a float64, as the library's text works them out: plain functions of the bits.
-/
import Derived.Test.YtlfddijmanlneaaRows
import Derived.Test.YtlfddijmanlneaaSieve
import Derived.Test.YtlfddijmanlneaaShaMath
import Derived.WalkLawsBesides
import Derived.Laws.FloatArith
import Derived.KernelRfl
namespace Go.Proofs.Ytlfddijmanlneaa
open Go.RowKit
set_option linter.unusedVariables false
set_option maxRecDepth 100000

theorem bitsOf (w : World) (x : Nat) : (callFunc 101 #[.float .f64 x]).run Try.prog w = .ok (.value (.int .u64 x)) w := by kernel_rfl
theorem ofBits (w : World) (x : Nat) : (callFunc 100 #[.int .u64 x]).run Try.prog w = .ok (.value (.float .f64 (x : Int).toNat)) w := by kernel_rfl

def fO (op : BinOp) (x y : Nat) : Option Nat := floatBits op .f64 x y
theorem fO_run {op : BinOp} {x y r : Nat} (h : fO op x y = some r) (t : TypeId) (w : World) : (binOp op t (.float .f64 x) (.float .f64 y)).run Try.prog w = .ok (.float .f64 r) w := run_float_arith w op t .f64 x y r h

/-- What is asked of x: above the subnormal ones, and finite. -/
def okX (x : Nat) : Bool :=
  decide (x < 9223372036854775808) && (bits .andNot .u64 (x : Int) 9223372036854775808 == (x : Int)) && !(FloatKind.f64.format.order x 0 == some .eq) && !(FloatKind.f64.format.order x x != some .eq) && !(FloatKind.f64.format.order x 9218868437227405311 == some .gt) && !(FloatKind.f64.format.order x 0 == some .lt) && !(FloatKind.f64.format.order x 4503599627370496 == some .lt)

def maskO (t : Nat) : Option Nat := let a := (bits .and .u64 (t : Int) 18446744072635809792).toNat; if (bits .and .u64 (t : Int) 18446744072635809792 == (a : Int)) && decide (a < 9223372036854775808) then some a else none

def cbrtO (x : Nat) : Option Nat :=
  (fO .mul (x / 3 + 3071306043645493248) (x / 3 + 3071306043645493248)).bind fun q1 =>
  (fO .quo q1 x).bind fun r =>
  (fO .mul r (x / 3 + 3071306043645493248)).bind fun q2 =>
  (fO .add 4603064841997850097 q2).bind fun s =>
  (fO .add s 4609048195788499471).bind fun a =>
  (fO .quo 13827900089180538932 s).bind fun b =>
  (fO .add a b).bind fun c =>
  (fO .quo 4609916747145206638 c).bind fun d =>
  (fO .add 4600105333671292343 d).bind fun e =>
  (fO .mul (x / 3 + 3071306043645493248) e).bind fun t2 =>
  (maskO t2).bind fun m =>
  (fO .mul (m + 1073741824) (m + 1073741824)).bind fun s2 =>
  (fO .quo x s2).bind fun r2 =>
  (fO .add (m + 1073741824) (m + 1073741824)).bind fun w2 =>
  (fO .sub r2 (m + 1073741824)).bind fun n1 =>
  (fO .add w2 r2).bind fun n2 =>
  (fO .quo n1 n2).bind fun r3 =>
  (fO .mul (m + 1073741824) r3).bind fun z =>
  fO .add (m + 1073741824) z

theorem isNaN_any (x : Nat) (b : Bool) (hb : (FloatKind.f64.format.order x x != some .eq) = b) (w : World) : Calls Try.prog 98 #[.float .f64 x] w fun e w' => e = .returned (.bool b) ∧ w = w' := by
  subst hb
  go_enter Try.func98, Try.ntmps98
  go_wp2
  go_ret
  exact ⟨rfl, rfl⟩

set_option maxHeartbeats 4000000 in
set_option maxRecDepth 100000 in
theorem isInf_any (x : Nat) (hx : bits .andNot .u64 (x : Int) 9223372036854775808 = (x : Int)) (hb : (FloatKind.f64.format.order x 9218868437227405311 == some .gt) = false) (w : World) : Calls Try.prog 99 #[.float .f64 x, .int .i64 0] w fun e w' => e = .returned (.bool false) ∧ w = w' := by
  have hAbs : ∀ w, Calls Try.prog 103 #[.float .f64 x] w fun e w' => e = .returned (.float .f64 x) ∧ w = w' := by
    intro w
    have h1 := bitsOf
    have h2 := ofBits
    go_enter Try.func103, Try.ntmps103
    go_wp2
    go_ret
    exact ⟨rfl, rfl⟩
  have HA := Lib.hid hAbs
  clear hAbs
  go_enter Try.func99, Try.ntmps99
  go_wp2_with (go_at_call 103; refine (HA.out _).mono ?_; rintro e w' ⟨rfl, rfl⟩)
  go_ret
  exact ⟨rfl, rfl⟩

theorem maskO_some {t m : Nat} (h : maskO t = some m) : bits .and .u64 (t : Int) 18446744072635809792 = (m : Int) ∧ m < 9223372036854775808 := by
  unfold maskO at h
  simp only at h
  split at h
  · rename_i hc
    injection h with h
    rw [h] at hc
    simpa using hc
  · cases h

set_option maxHeartbeats 8000000 in
set_option maxRecDepth 100000 in
theorem cbrt_any (x y : Nat) (hok : okX x = true) (h : cbrtO x = some y) (w : World) : Calls Try.prog 86 #[.float .f64 x] w fun e w' => e = .returned (.float .f64 y) ∧ w = w' := by
  simp only [cbrtO, Option.bind_eq_some_iff] at h
  obtain ⟨q1, h1, r, h2, q2, h3, s, h4, a, h5, b, h6, c, h7, d, h8, e, h9, t2, h10, m, h11, s2, h12, r2, h13, w2, h14, n1, h15, n2, h16, r3, h17, z, h18, h19⟩ := h
  obtain ⟨hm, hm2⟩ := maskO_some h11
  unfold okX at hok
  simp only [Bool.and_eq_true, decide_eq_true_eq, Bool.not_eq_true', beq_iff_eq] at hok
  obtain ⟨⟨⟨⟨⟨⟨hx, ha⟩, hk1⟩, hk2⟩, hk3⟩, hk4⟩, hk5⟩ := hok
  obtain ⟨t, ht⟩ : ∃ t, x / 3 + 3071306043645493248 = t := ⟨_, rfl⟩
  rw [ht] at h1 h3 h10
  have htI : (x : Int) / 3 + 3071306043645493248 = (t : Int) := by omega
  obtain ⟨u, hu⟩ : ∃ u, m + 1073741824 = u := ⟨_, rfl⟩
  rw [hu] at h12 h14 h15 h18 h19
  have huI : (m : Int) + 1073741824 = (u : Int) := by omega
  have HNaN := Lib.hid (isNaN_any x false hk2)
  have HInf := Lib.hid (isInf_any x ha hk3)
  have g1 := fO_run h1 126
  have g2 := fO_run h2 126
  have g3 := fO_run h3 126
  have g4 := fO_run h4 126
  have g5 := fO_run h5 126
  have g6 := fO_run h6 126
  have g7 := fO_run h7 126
  have g8 := fO_run h8 126
  have g9 := fO_run h9 126
  have g10 := fO_run h10 126
  have g12 := fO_run h12 126
  have g13 := fO_run h13 126
  have g14 := fO_run h14 126
  have g15 := fO_run h15 126
  have g16 := fO_run h16 126
  have g17 := fO_run h17 126
  have g18 := fO_run h18 126
  have g19 := fO_run h19 126
  have h1' := bitsOf
  have h2' := ofBits
  clear h1 h2 h3 h4 h5 h6 h7 h8 h9 h10 h11 h12 h13 h14 h15 h16 h17 h18 h19 ht hu hk2 hk3 ha
  have hC : ∀ w, Calls Try.prog 93 #[.float .f64 x] w fun e w' => e = .returned (.float .f64 y) ∧ w = w' := by
    intro w
    go_enter Try.func93, Try.ntmps93
    go_wp2_with (first | (go_at_call 98; refine (HNaN.out _).mono ?_; rintro e w' ⟨rfl, rfl⟩) | (go_at_call 99; refine (HInf.out _).mono ?_; rintro e w' ⟨rfl, rfl⟩))
    go_ret
    exact ⟨rfl, rfl⟩
  have HC := Lib.hid hC
  clear hC g1 g2 g3 g4 g5 g6 g7 g8 g9 g10 g12 g13 g14 g15 g16 g17 g18 g19 htI huI hm
  go_enter Try.func86, Try.ntmps86
  go_wp2_with (go_at_call 93; refine (HC.out _).mono ?_; rintro e w' ⟨rfl, rfl⟩)
  go_ret
  exact ⟨rfl, rfl⟩


/-- The floor, where it isn't asked of a NaN. -/
def floorO (x : Nat) : Option Nat :=
  match FloatKind.f64.decode x with
  | .nan _ _ => none
  | d => some (FloatKind.f64.encode (d.integral .down))

theorem floor_ext (x y : Nat) (h : floorO x = some y) (w : World) : (callFunc 96 #[.float .f64 x]).run Try.prog w = .ok (.value (.float .f64 y)) w := by
  have e : (callFunc 96 #[.float .f64 x]).run Try.prog w = ((Extern.MathFloor.toIntegral "math.archFloor" .down #[.float .f64 x]) >>= fun v => pure (Next.value v)).run Try.prog w := by kernel_rfl
  rw [e]
  obtain ⟨N, hN⟩ : ∃ N : Bool → Nat → Sem Value, Extern.MathFloor.toIntegral "math.archFloor" .down #[.float .f64 x] = (match FloatKind.f64.decode x with | .nan s t => N s t | d => pure (.float .f64 (FloatKind.f64.encode (d.integral .down)))) := ⟨_, rfl⟩
  rw [hN]
  unfold floorO at h
  cases hd : FloatKind.f64.decode x with
  | nan s t => rw [hd] at h; cases h
  | infinity s => rw [hd] at h; injection h with h; subst h; simp
  | number s m e => rw [hd] at h; injection h with h; subst h; simp

def sqrtO (x : Nat) : Option Nat := FloatKind.f64.format.sqrt x

theorem sqrt_ext (x y : Nat) (h : sqrtO x = some y) (w : World) : (callFunc 94 #[.float .f64 x]).run Try.prog w = .ok (.value (.float .f64 y)) w := by
  have e : (callFunc 94 #[.float .f64 x]).run Try.prog w = ((Extern.MathSqrt.sqrt #[.float .f64 x]) >>= fun v => pure (Next.value v)).run Try.prog w := by kernel_rfl
  rw [e]
  obtain ⟨N, hN⟩ : ∃ N : Sem Value, Extern.MathSqrt.sqrt #[.float .f64 x] = (match FloatKind.f64.format.sqrt x with | some r => pure (.float .f64 r) | none => N) := ⟨_, rfl⟩
  rw [hN]
  unfold sqrtO at h
  rw [h]
  simp

theorem sqrt_any (x y : Nat) (h : sqrtO x = some y) (w : World) : Calls Try.prog 87 #[.float .f64 x] w fun e w' => e = .returned (.float .f64 y) ∧ w = w' := by
  have h1 := sqrt_ext x y h
  clear h
  go_enter Try.func87, Try.ntmps87
  go_wp2
  go_ret
  exact ⟨rfl, rfl⟩

theorem floor_any (x y : Nat) (h : floorO x = some y) (w : World) : Calls Try.prog 91 #[.float .f64 x] w fun e w' => e = .returned (.float .f64 y) ∧ w = w' := by
  have h1 := floor_ext x y h
  clear h
  go_enter Try.func91, Try.ntmps91
  go_wp2
  go_ret
  exact ⟨rfl, rfl⟩

/-- The first 32 bits behind the point. -/
def behindO (x : Nat) : Option Int :=
  (floorO x).bind fun f => (fO .sub x f).bind fun d => (fO .mul d 4751297606875873280).bind fun m => floatToIntVal .f64 m .u32

theorem behind_any (x : Nat) (r : Int) (h : behindO x = some r) (w : World) : Calls Try.prog 85 #[.float .f64 x] w fun e w' => e = .returned (.int .u32 r) ∧ w = w' := by
  simp only [behindO, Option.bind_eq_some_iff] at h
  obtain ⟨f, hf, d, hd, m, hm, hr⟩ := h
  have HF := Lib.hid (floor_any x f hf)
  have g1 := fO_run hd 126
  have g2 := fO_run hm 126
  have g3 : ∀ w, (convert 126 115 (.float .f64 m)).run Try.prog w = .ok (.int .u32 r) w := fun w => run_convert_float_int w 126 115 .f64 .u32 m r (by kernel_rfl) Try.underlying115 hr
  clear hf hd hm hr
  go_enter Try.func85, Try.ntmps85
  go_wp2_with (go_at_call 91; refine (HF.out _).mono ?_; rintro e w' ⟨rfl, rfl⟩)
  go_ret
  exact ⟨rfl, rfl⟩

/-- The primes, and the numbers as they are published. -/
abbrev primeL : List Nat := primesL
/-- What is worked out of one prime is what is published. -/
def cubeB (k : Nat) : Bool := okX (floatOfInt .f64 (primeL.getD k 0 : Nat)) && (cbrtO (floatOfInt .f64 (primeL.getD k 0 : Nat))).bind behindO == some ((roundL.getD k 0 : Nat) : Int)
def squareB (k : Nat) : Bool := (sqrtO (floatOfInt .f64 (primeL.getD k 0 : Nat))).bind behindO == some ((beginL.getD k 0 : Nat) : Int)

theorem cubes_all : (List.range 64).all cubeB = true := by kernel_rfl
theorem squares_all : (List.range 8).all squareB = true := by kernel_rfl

theorem cube_at {k : Nat} (hk : k < 64) : okX (floatOfInt .f64 (primeL.getD k 0 : Nat)) = true ∧ ∃ y, cbrtO (floatOfInt .f64 (primeL.getD k 0 : Nat)) = some y ∧ behindO y = some ((roundL.getD k 0 : Nat) : Int) := by
  have := List.all_eq_true.1 cubes_all k (List.mem_range.2 hk)
  unfold cubeB at this
  rw [Bool.and_eq_true, beq_iff_eq, Option.bind_eq_some_iff] at this
  exact this

theorem square_at {k : Nat} (hk : k < 8) : ∃ y, sqrtO (floatOfInt .f64 (primeL.getD k 0 : Nat)) = some y ∧ behindO y = some ((beginL.getD k 0 : Nat) : Int) := by
  have := List.all_eq_true.1 squares_all k (List.mem_range.2 hk)
  unfold squareB at this
  rw [beq_iff_eq, Option.bind_eq_some_iff] at this
  exact this

end Go.Proofs.Ytlfddijmanlneaa

/-
  An argument Ref opened.
-/
import Derived.Test.YtkepfigoeaheaaaSlotPut
import Derived.Test.YtkepfigoeaheaaaTakesMath
import Derived.Test.YtkepfigoeaheaaaInWrong
import Derived.Test.YtkepfigoeaheaaaDig
import Derived.Test.YtkepfigoeaheaaaRefDig
import Derived.Test.YtkepfigoeaheaaaDiskRead
import Derived.Test.YtkepfigoeaheaaaDiskBad
import Derived.Test.YtkepfigoeaheaaaSlotRef
import Derived.Deep.Slices
import Derived.Deep.Fields
namespace Go.Proofs.Ytkepfigoeaheaaa
open Go.RowKit
set_option linter.unusedVariables false
set_option linter.unusedSimpArgs false

structure RefF where
  d : List UInt8
  a : Int
  n : Int

def zR : RefF := ⟨List.replicate 32 0, 0, 0⟩

def OkR (r : RefF) : Prop := 0 ≤ r.a ∧ r.a ≤ 65535 ∧ 0 ≤ r.n ∧ r.n ≤ 65536

def encR (r : RefF) : List UInt8 := refB [] r.d r.a r.n

abbrev St := List UInt8 × Bool

def numS (most : Nat) (s : St) : Nat × St := ((numF most s.1).1, ((numF most s.1).2.1, s.2 || (numF most s.1).2.2))

def digS (s : St) : List UInt8 × St := (digF s.1, ((cutF 32 s.1).2.1, s.2 || (cutF 32 s.1).2.2))

def refS (s : St) : RefF × St :=
  (if (numS 65536 (numS 65535 (digS s).2).2).2.2 = true then zR else ⟨(digS s).1, ((numS 65535 (digS s).2).1 : Nat), ((numS 65536 (numS 65535 (digS s).2).2).1 : Nat)⟩, (numS 65536 (numS 65535 (digS s).2).2).2)

/-- How a part is taken: what it is, if all went right; what was put comes back. -/
structure Takes {α : Type} (take : St → α × St) (enc : α → List UInt8) (ok : α → Prop) : Prop where
  sound : ∀ s, (take s).2.2 = false → s.2 = false ∧ s.1 = enc (take s).1 ++ (take s).2.1 ∧ ok (take s).1
  back : ∀ x t, ok x → take (enc x ++ t, false) = (x, (t, false))

theorem or_no {a b : Bool} (h : (a || b) = false) : a = false ∧ b = false := Bool.or_eq_false_iff.1 h

theorem numF_sound {most : Nat} {l : List UInt8} (h : (numF most l).2.2 = false) : l = Lib.uvarint (numF most l).1 ++ (numF most l).2.1 ∧ (numF most l).1 ≤ most ∧ (numF most l).1 < 18446744073709551616 := by
  unfold numF at h ⊢
  by_cases hc : (lead l).2 = 0 ∨ most < (lead l).1
  · rw [if_pos hc] at h; cases h
  · rw [if_neg hc] at h ⊢
    obtain ⟨v, g, hL⟩ : ∃ v g, lead l = (v, g) := ⟨_, _, rfl⟩
    have hv := (lead_le l).2
    rw [hL] at hc hv ⊢
    simp only [not_or] at hc
    obtain ⟨u, r, h1, h2, h3, _⟩ := leadFrom_sound l 0 0 v g hL hc.1
    have hvu : v = u := by simpa using h3
    subst hvu
    have hg : g = (Lib.uvarint v).length := by omega
    refine ⟨?_, by simp only; omega, hv⟩
    simp only
    rw [h1, hg]
    simp

theorem takes_num (most : Nat) (hm : most < 18446744073709551616) : Takes (numS most) Lib.uvarint (fun v => v ≤ most ∧ v < 18446744073709551616) where
  sound := fun s h => by
    obtain ⟨h1, h2⟩ := or_no h
    obtain ⟨e1, e2, e3⟩ := numF_sound h2
    exact ⟨h1, e1, e2, e3⟩
  back := fun v t h => by
    unfold numS
    rw [numF_back most v t h.1 h.2]
    rfl

theorem takes_dig : Takes digS id (fun d => d.length = 32) where
  sound := fun s h => by
    obtain ⟨h1, h2⟩ := or_no h
    unfold digS
    unfold cutF at h2 ⊢
    unfold digF
    by_cases hl : s.1.length < 32
    · rw [if_pos hl] at h2; cases h2
    · rw [if_neg hl, if_neg hl]
      refine ⟨h1, ?_, by rw [List.length_take]; omega⟩
      simp
  back := fun d t h => by
    unfold digS digF cutF
    have hl : ¬ (d ++ t).length < 32 := by rw [List.length_append]; omega
    dsimp only [id]
    rw [if_neg hl, if_neg hl, ← h, List.take_left, List.drop_left]
    rfl

theorem takes_ref : Takes refS encR (fun r => OkR r ∧ r.d.length = 32) where
  sound := fun s h => by
    have h' : (numS 65536 (numS 65535 (digS s).2).2).2.2 = false := h
    obtain ⟨a1, a2, a3, a4⟩ := (takes_num 65536 (by omega)).sound _ h'
    obtain ⟨b1, b2, b3, b4⟩ := (takes_num 65535 (by omega)).sound _ a1
    obtain ⟨c1, c2, c3⟩ := takes_dig.sound _ b1
    unfold refS
    rw [if_neg (by rw [h']; simp)]
    refine ⟨c1, ?_, ⟨by simp only; omega, by simp only; omega, by simp only; omega, by simp only; omega⟩, c3⟩
    unfold encR refB
    simp only [List.nil_append]
    rw [uF_nat b4, uF_nat a4, List.append_assoc, List.append_assoc, ← a2, ← b2]
    exact c2
  back := fun r t h => by
    obtain ⟨⟨g1, g2, g3, g4⟩, g5⟩ := h
    obtain ⟨d, a, n⟩ := r
    simp only at g1 g2 g3 g4 g5
    obtain ⟨a, rfl⟩ := Int.eq_ofNat_of_zero_le g1
    obtain ⟨n, rfl⟩ := Int.eq_ofNat_of_zero_le g3
    have e : encR ⟨d, (a : Int), (n : Int)⟩ ++ t = id d ++ (Lib.uvarint a ++ (Lib.uvarint n ++ t)) := by
      unfold encR refB
      simp only [List.nil_append]
      rw [uF_nat (by omega), uF_nat (by omega)]
      simp
    rw [e]
    unfold refS
    rw [takes_dig.back d _ g5, (takes_num 65535 (by omega)).back a _ ⟨by omega, by omega⟩, (takes_num 65536 (by omega)).back n _ ⟨by omega, by omega⟩]
    simp

def I64 (a : Int) : Prop := -9223372036854775808 ≤ a ∧ a ≤ 9223372036854775807

def rC (r : RefF) : List Value := refC r.d r.a r.n

structure RefW (r : RefF) : Prop where
  d : r.d.length = 32
  a : I64 r.a
  n : I64 r.n

theorem rC_length {r : RefF} (h : RefW r) : (rC r).length = 34 := refC_length h.d _ _

theorem rC_one (r : RefF) : ∀ v ∈ rC r, v.oneCell' = true := refC_cell _ _ _

theorem all_oneC {l : List Value} (h : ∀ v ∈ l, v.oneCell' = true) : l.toArray.all (·.oneCell') = true := by
  rw [List.all_toArray, List.all_eq_true]
  exact h

theorem wpList_allocZC {P : Program} {ops : Array Oper} {rest : List Oper} {o : Oper} {a : Act} {w : World} {Q : Exit → Act → World → Prop} (hg : o.guard = none) (t : TypeId) (ho : o.op = .alloc t) (Z : Array Value) (hz : (zeroValue t).run P w = .ok (.agg Z) w)
    (h : wpList P ops Q rest (a.put o.dst (.pointer (some ⟨w.heap.size, 0, none⟩))) (w.alloc (.cells Z t))) : wpList P ops Q (o :: rest) a w := by
  refine wpList_plain hg fun K hK => ?_
  unfold Oper.wp execOp
  simp only [ho, Instr.alloc, Sem.run_bind, hz, Result.andThen_ok]
  exact hK _ _ h

theorem refZero (w : World) : (zeroValue 26).run Try.prog w = .ok (.agg refZ.toArray) w := by kernel_rfl

/-! ### taking, whatever went wrong ahead -/
variable {lo : Nat}
theorem number_fl (p most : Nat) (s : St) (w : World) (h : PInL lo w p s.1 s.2) (hm : most < 18446744073709551616) :
    Calls Try.prog 43 #[.pointer (some ⟨p, 0, none⟩), .int .u64 most] w fun e w' => e = .returned (.int .u64 (numS most s).1) ∧ PInL lo w' p (numS most s).2.1 (numS most s).2.2 ∧ Turn p w w' := number_in p most s.1 s.2 w h hm

theorem digest_fl (p : Nat) (s : St) (w : World) (h : PInL lo w p s.1 s.2) :
    Calls Try.prog 47 #[.pointer (some ⟨p, 0, none⟩)] w fun e w' => e = .returned (.agg (Lib.byteCells (digS s).1).toArray) ∧ PInL lo w' p (digS s).2.1 (digS s).2.2 ∧ Turn p w w' := digest_in p s.1 s.2 w h

theorem numS_le (most : Nat) (s : St) : (numS most s).1 ≤ most := numF_le' most s.1

theorem digS_length (s : St) : (digS s).1.length = 32 := digF_length s.1

theorem btake_fl (s : St) (p : Nat) (w : World) (h : PInL lo w p s.1 s.2) (TL : List Value) (hTL : TL = rC (refS s).1) :
    Calls Try.prog 44 #[.pointer (some ⟨p, 0, none⟩)] w fun e w' => e = .returned (.agg TL.toArray) ∧ PInL lo w' p (refS s).2.1 (refS s).2.2 ∧ Turn p w w' := by
  have hT : TL = tkC (digS s).1 (numS 65535 (digS s).2).1 (numS 65536 (numS 65535 (digS s).2).2).1 (refS s).2.2 := by
    rw [hTL]
    unfold tkC refS rC
    cases (numS 65536 (numS 65535 (digS s).2).2).2.2 <;> rfl
  refine btake_gen p (fun w => PInL lo w p s.1 s.2) (fun w => PInL lo w p (digS s).2.1 (digS s).2.2) (fun w => PInL lo w p (numS 65535 (digS s).2).2.1 (numS 65535 (digS s).2).2.2) (fun w => PInL lo w p (refS s).2.1 (refS s).2.2) (digS s).1 (digF_length _) (Lib.byteCells (digS s).1) rfl _ _ (numF_le' _ _) (numF_le' _ _) _ TL hT
    (fun _ _ h k => h.low k) (fun _ _ h k => h.low k) (fun _ _ h k => h.low k) (fun _ _ h k => h.low k) (fun w h => ?_) (fun w h => ?_) (fun w h => ?_) (fun w h => ?_) w h h.lt
  · refine (digest_in p s.1 s.2 w h).mono ?_
    rintro e w' ⟨he, hp, ht⟩
    exact ⟨he, hp, ht⟩
  · refine (show Calls Try.prog 43 #[.pointer (some ⟨p, 0, none⟩), .int .u64 65535] w _ from number_in p 65535 _ _ w h (by omega)).mono ?_
    rintro e w' ⟨he, hp, ht⟩
    exact ⟨he, hp, ht⟩
  · refine (show Calls Try.prog 43 #[.pointer (some ⟨p, 0, none⟩), .int .u64 65536] w _ from number_in p 65536 _ _ w h (by omega)).mono ?_
    rintro e w' ⟨he, hp, ht⟩
    exact ⟨he, hp, ht⟩
  · refine (wrong_in p _ _ w h).mono ?_
    rintro e w' ⟨he, hw⟩
    exact ⟨he, hw.symm⟩

theorem refs_eqv (a b : RefF) (ha : a.d.length = 32) (hb : b.d.length = 32) (XL YL : List Value) (hX : XL = rC a) (hY : YL = rC b) (w : World) :
    ∃ r, (Op.equalIn 10000 26 (.agg XL.toArray) (.agg YL.toArray)).run Try.prog w = .ok r w ∧ (r = true ↔ a = b) := by
  refine ⟨_, ref_eqv a.d b.d ha hb a.a a.n b.a b.n XL YL hX hY w, ?_⟩
  simp only [Bool.and_eq_true, decide_eq_true_eq, beq_iff_eq]
  obtain ⟨x, y, z⟩ := a
  obtain ⟨x', y', z'⟩ := b
  simp [and_assoc]

theorem refS_w (s : St) : RefW (refS s).1 := by
  unfold refS
  split
  · exact ⟨rfl, by unfold I64 zR; simp, by unfold I64 zR; simp⟩
  · have h2 := numS_le 65535 (digS s).2
    have h3 := numS_le 65536 (numS 65535 (digS s).2).2
    exact ⟨digS_length _, by unfold I64; simp only; omega, by unfold I64; simp only; omega⟩

theorem encR_le (r : RefF) (hd : r.d.length = 32) : (encR r).length ≤ 52 := by
  have e1 := Lib.uvarint_length64 (uF_wrap r.a).2
  have e2 := Lib.uvarint_length64 (uF_wrap r.n).2
  unfold encR refB
  simp only [List.length_append, List.length_nil]
  omega

theorem refB_out (out d : List UInt8) (a n : Int) : refB out d a n = out ++ encR ⟨d, a, n⟩ := by unfold encR refB; simp

theorem wpList_load_mid_ifC {P : Program} {ops : Array Oper} {rest : List Oper} {o : Oper} {a : Act} {w : World} {Q : Exit → Act → World → Prop} (hw : Region.wanted o (yielded ops a.tmps) = true) (ty : TypeId) (x : Operand) (ho : o.op = .load ty x)
    (b off : Nat) (hx : a.eval x = .pointer (some ⟨b, off, none⟩)) (cs : List Value) (d : TypeDesc) (hc : w.rangeAt b off cs)
    (hu : P.underlying ty = some d) (hd : d.isRow = true) (hi : (P.info? ty).map (·.size) = some cs.length)
    (h : wpList P ops Q rest (a.put o.dst (.agg cs.toArray)) w) : wpList P ops Q (o :: rest) a w :=
  wpList_step fun K hK => by
    rw [if_pos hw]
    exact wp_load_mid ty x ho b off hx cs d hc hu hd hi (hK _ _ h)

theorem wpList_at {P : Program} {ops : Array Oper} {rest : List Oper} {o : Oper} {a : Act} {w : World} {Q : Exit → Act → World → Prop} (n : Nat) (hd : o.dst = some n) (h : wpList P ops Q (o :: rest) a w) : wpList P ops Q (o :: rest) a w := h

theorem wpList_neq_ifC {P : Program} {ops : Array Oper} {rest : List Oper} {o : Oper} {a : Act} {w : World} {Q : Exit → Act → World → Prop} (hw : Region.wanted o (yielded ops a.tmps) = true) (ty ty2 : TypeId) (x y : Operand) (ho : o.op = .binOp .neq ty x y ty2)
    (X Y : List Value) (hx : a.eval x = .agg X.toArray) (hy : a.eval y = .agg Y.toArray) (b : Bool) (he : ∀ w, (Op.equalIn 10000 ty (.agg X.toArray) (.agg Y.toArray)).run P w = .ok b w) (hm : P.eqGuardType P.depth ty = false)
    (h : wpList P ops Q rest (a.put o.dst (.bool (!b))) w) : wpList P ops Q (o :: rest) a w :=
  wpList_step fun K hK => by
    rw [if_pos hw]
    unfold Oper.wp execOp
    simp only [ho, hx, hy, Sem.run_bind, Sem.run_pure, Result.andThen_ok, run_eqGuard_agg, run_neq_struct, he, hm]
    exact hK _ _ h

theorem ref_cmp {a b : RefF} (ha : a.d.length = 32) (hb : b.d.length = 32) {XL YL : List Value} (hX : XL = rC a) (hY : YL = rC b) : ∃ r : Bool, (∀ w, (Op.equalIn 10000 26 (.agg XL.toArray) (.agg YL.toArray)).run Try.prog w = .ok r w) ∧ (r = true ↔ a = b) := by
  classical
  refine ⟨decide (a = b), fun w => ?_, decide_eq_true_iff⟩
  obtain ⟨r, h1, h2⟩ := refs_eqv a b ha hb XL YL hX hY w
  have e : r = decide (a = b) := by rw [Bool.eq_iff_iff, h2, decide_eq_true_eq]
  rw [h1, e]

theorem wpList_eql_ifC {P : Program} {ops : Array Oper} {rest : List Oper} {o : Oper} {a : Act} {w : World} {Q : Exit → Act → World → Prop} (hw : Region.wanted o (yielded ops a.tmps) = true) (ty ty2 : TypeId) (x y : Operand) (ho : o.op = .binOp .eql ty x y ty2)
    (X Y : List Value) (hx : a.eval x = .agg X.toArray) (hy : a.eval y = .agg Y.toArray) (b : Bool) (he : ∀ w, (Op.equalIn 10000 ty (.agg X.toArray) (.agg Y.toArray)).run P w = .ok b w) (hm : P.eqGuardType P.depth ty = false)
    (h : wpList P ops Q rest (a.put o.dst (.bool b)) w) : wpList P ops Q (o :: rest) a w :=
  wpList_step fun K hK => by
    rw [if_pos hw]
    unfold Oper.wp execOp
    simp only [ho, hx, hy, Sem.run_bind, Sem.run_pure, Result.andThen_ok, run_eqGuard_agg, run_eql_struct, he, hm]
    exact hK _ _ h


/-- The sector that tells a Ref. -/
def layR (r : RefF) : List UInt8 := ((1 : UInt8) :: encR r) ++ List.replicate (64 - (1 + (encR r).length)) 0
theorem layR_length {r : RefF} (h : r.d.length = 32) : (layR r).length = 64 := by
  have := encR_le r h
  unfold layR
  simp only [List.length_append, List.length_cons, List.length_replicate]
  omega
theorem okR_z : OkR zR := by unfold OkR zR; simp
theorem refS_ok (s : St) : OkR (refS s).1 ∧ (refS s).1.d.length = 32 := by
  by_cases h : (refS s).2.2 = false
  · exact (takes_ref.sound s h).2.2
  · have h' : (numS 65536 (numS 65535 (digS s).2).2).2.2 = true := by
      have : (refS s).2.2 = true := by simpa using h
      exact this
    unfold refS
    rw [if_pos h']
    exact ⟨okR_z, rfl⟩
/-- What a sector tells. -/
def tellF (s : List UInt8) : RefF × Bool := if layR (refS (numS 1 (s, false)).2).1 = s then ((refS (numS 1 (s, false)).2).1, true) else (zR, false)
theorem uv_one : Lib.uvarint 1 = [1] := by rw [Lib.uvarint_small (by omega)]; rfl
theorem read_lay {r : RefF} (h : OkR r) (hd : r.d.length = 32) : (refS (numS 1 (layR r, false)).2).1 = r := by
  have e : layR r = Lib.uvarint 1 ++ (encR r ++ List.replicate (64 - (1 + (encR r).length)) 0) := by rw [uv_one]; rfl
  rw [e, (takes_num 1 (by omega)).back 1 _ ⟨by omega, by omega⟩, takes_ref.back r _ ⟨h, hd⟩]
theorem tell_lay {r : RefF} (h : OkR r) (hd : r.d.length = 32) : tellF (layR r) = (r, true) := by
  unfold tellF
  rw [read_lay h hd, if_pos rfl]
theorem tell_yes {s : List UInt8} {r : RefF} (h : tellF s = (r, true)) : OkR r ∧ r.d.length = 32 ∧ layR r = s := by
  unfold tellF at h
  split at h
  · rename_i hc
    injection h with h1 _
    rw [← h1]
    exact ⟨(refS_ok _).1, (refS_ok _).2, hc⟩
  · injection h with _ h2
    cases h2
theorem tell_no {s : List UInt8} {r : RefF} (h : tellF s = (r, false)) : r = zR := by
  unfold tellF at h
  split at h
  · injection h with _ h2
    cases h2
  · injection h with h1 _
    exact h1.symm
theorem layR_inj {a b : RefF} (ha : OkR a) (hb : OkR b) (h1 : a.d.length = 32) (h2 : b.d.length = 32) (h : layR a = layR b) : a = b := by
  have e1 := read_lay ha h1
  rw [h, read_lay hb h2] at e1
  exact e1.symm
theorem tell_w (s : List UInt8) : RefW (tellF s).1 ∧ OkR (tellF s).1 ∧ (tellF s).1.d.length = 32 := by
  unfold tellF
  split
  · exact ⟨refS_w _, (refS_ok _).1, (refS_ok _).2⟩
  · exact ⟨⟨rfl, by unfold I64 zR; simp, by unfold I64 zR; simp⟩, okR_z, rfl⟩

end Go.Proofs.Ytkepfigoeaheaaa

namespace Go.Proofs.Ytkepfigoeaheaaa
open Go.RowKit
set_option linter.unusedVariables false
set_option linter.unusedSimpArgs false

theorem step_copy_dd {P : Program} {ops : Array Oper} {o : Oper} {a : Act} {w : World} {K : Act → World → Prop} {Q : Exit → Act → World → Prop} {E : Prop} (dd : Option Tmp) (hdd : o.dst = dd) (hgd : o.guard = none) (d s : Operand) (dT sT : TypeId)
    (ho : o.op = .call { callee := .builtin .copy, args := #[d, s], argTypes := #[dT, sT] }) (elem : TypeId) (hu : P.underlying dT = some (.slice elem)) (hsz : (P.info? elem).map (·.size) = some 1)
    (dp sp : Option Addr) (dLen dCap sLen sCap : Nat) (hd : a.eval d = .slice dp dLen dCap) (hs : a.eval s = .slice sp sLen sCap)
    (g off : Nat) (cur : List Value) (t : TypeId) (hg : w.heap[g]? = some (.cells cur.toArray t (0, 0))) (cs : List Value) (hn : cs.length = Nat.min sLen dLen)
    (hpos : 0 < cs.length → dp = some ⟨g, off, none⟩ ∧ ∃ ad, sp = some ad ∧ ∀ j v, cs[j]? = some v → w.cell? (ad.add j) = some v)
    (hfit : off + cs.length ≤ cur.length) (h1 : ∀ v ∈ cs, v.oneCell' = true)
    (h : ∀ w', Hid (w'.heap[g]? = some (.cells (splice cur off cs).toArray t (0, 0))) → Wrote g w w' → K (a.put dd (goInt cs.length)) w') :
    if Region.wanted o (yielded ops a.tmps) = true then Oper.wp P o a w K Q else E := by
  subst hdd
  exact step_copy_any hgd d s dT sT ho elem hu hsz dp sp dLen dCap sLen sCap hd hs g off cur t hg cs hn hpos hfit h1 h

theorem lay_splice (r : RefF) (h : r.d.length = 32) : splice (Lib.byteCells zero64) 0 (Lib.byteCells (refB [1] r.d r.a r.n)) = Lib.byteCells (layR r) := by
  have hle := encR_le r h
  have e : refB [1] r.d r.a r.n = 1 :: encR r := by rw [refB_out]; rfl
  rw [e]
  unfold splice layR Lib.byteCells zero64
  simp only [List.take_zero, List.nil_append, List.map_append, List.map_replicate, List.length_map, List.length_cons, Nat.zero_add, List.drop_replicate]
  rw [Nat.add_comm 1]
theorem secIn_one (s : List UInt8) : (Lib.byteCells s).toArray.all (·.oneCell') = true := sec_one s
theorem byteSizeS : (Try.prog.info? 5).map (·.size) = some 1 := by kernel_rfl
set_option maxHeartbeats 8000000 in
set_option maxRecDepth 100000 in
theorem lay_any (r : RefF) (hr : RefW r) (DL LL : List Value) (hDL : DL = rC r) (hLL : LL = Lib.byteCells (layR r)) (w : World) :
    Calls Try.prog 66 #[.agg DL.toArray] w fun e w' => e = .returned (.agg LL.toArray) ∧ Below w.heap.size w w' := by
  obtain ⟨ZL, hZL⟩ : ∃ z, z = Lib.byteCells zero64 := ⟨_, rfl⟩
  have hZl : ZL.length = 64 := by rw [hZL, Lib.byteCells_length]; rfl
  obtain ⟨W1, hW1⟩ : ∃ z, z = w.alloc (.cells DL.toArray 26) := ⟨_, rfl⟩
  obtain ⟨W2, hW2⟩ : ∃ z, z = W1.alloc (.cells ZL.toArray 49) := ⟨_, rfl⟩
  obtain ⟨W3, hW3⟩ : ∃ z, z = W2.alloc (.cells ZL.toArray 49) := ⟨_, rfl⟩
  have hb1 : Below w.heap.size w W1 := by rw [hW1]; exact (Below.refl _ _).alloc (Nat.le_refl _) _
  have hb2 : Below W1.heap.size W1 W2 := by rw [hW2]; exact (Below.refl _ _).alloc (Nat.le_refl _) _
  have hb3 : Below W2.heap.size W2 W3 := by rw [hW3]; exact (Below.refl _ _).alloc (Nat.le_refl _) _
  have z1 : W1.heap.size = w.heap.size + 1 := by rw [hW1]; simp
  have z2 : W2.heap.size = w.heap.size + 2 := by rw [hW2]; simp; omega
  have hR : Arr W3 w.heap.size 26 DL := (Arr.up (Arr.up (by rw [hW1]; exact Arr.new w _ _) hb2) hb3)
  have hA : Arr W3 (w.heap.size + 1) 49 ZL := by rw [← z1]; exact Arr.up (by rw [hW2]; exact Arr.new W1 _ _) hb3
  have hG : Arr W3 (w.heap.size + 1 + 1) 49 ZL := by rw [show w.heap.size + 1 + 1 = W2.heap.size by omega, hW3]; exact Arr.new W2 _ _
  have hb : Below w.heap.size w W3 := (hb1.trans (hb2.mono (by omega))).trans (hb3.mono (by omega))
  have z3 : W3.heap.size = w.heap.size + 3 := by rw [hW3]; simp; omega
  obtain ⟨ga, hga⟩ : ∃ z, z = w.heap.size + 1 := ⟨_, rfl⟩
  obtain ⟨g, hg⟩ : ∃ z, z = w.heap.size + 1 + 1 := ⟨_, rfl⟩
  rw [← hga] at hA
  rw [← hg] at hG
  have hgs : w.heap.size < ga ∧ ga < g ∧ g < W3.heap.size := by omega
  have HDi := Lib.hid (show (Try.prog.info? 26).map (·.size) = some DL.length by rw [hDL, rC_length hr]; exact refSize)
  have HDL := Lib.hid hDL
  have HLL := Lib.hid hLL
  have HLl := Lib.hid (show LL.length = 64 by rw [hLL, Lib.byteCells_length]; exact layR_length hr.d)
  have HLi := Lib.hid (show (Try.prog.info? 49).map (·.size) = some LL.toArray.size by rw [List.size_toArray, HLl.out]; exact secInfo)
  have HLz := Lib.hid (show ZL.toArray.size = LL.toArray.size by rw [List.size_toArray, List.size_toArray, HLl.out, hZl])
  have HL1 := Lib.hid (show LL.toArray.all (·.oneCell') = true by rw [hLL]; exact sec_one _)
  have HZL := Lib.hid hZL
  have HZl := Lib.hid hZl
  have Hr := Lib.hid hr
  have HW := Lib.hid (show W3 = ((w.alloc (.cells DL.toArray 26)).alloc (.cells (Lib.byteCells zero64).toArray 49)).alloc (.cells (Lib.byteCells zero64).toArray 49) by rw [hW3, hW2, hW1, hZL])
  have Hg := Lib.hid (show g = w.heap.size + 1 + 1 ∧ ga = w.heap.size + 1 from ⟨hg, hga⟩)
  clear hDL hLL hZL hZl hr hW1 hW2 hW3 hb1 hb2 hb3 z1 z2 z3 hga hg
  go_enter Try.func66, Try.ntmps66
  go_upto_region 2 with fail
  change Code.wp _ _ _ _ (((w.alloc (.cells DL.toArray 26)).alloc (.cells (Lib.byteCells zero64).toArray 49)).alloc (.cells (Lib.byteCells zero64).toArray 49))
  rw [← HW.out]
  rw [← Hg.out.1, ← Hg.out.2]
  clear HW
  refine wp_region_held_drew (S := fun w' => w'.rangeAt w.heap.size 0 DL) (by kernel_rfl) (Arr.drewN hR 1).range (fun hHeld => ?_)
  have HRd := Lib.hid (Arr.drewN hR 1)
  have HGd := Lib.hid (Arr.drewN hG 1)
  have HAd := Lib.hid (Arr.drewN hA 1)
  have Hbd := Lib.hid (Below.dN hb 1)
  obtain ⟨B, hB⟩ : ∃ B, B = W3.heap.size := ⟨_, rfl⟩
  have hBd : B ≤ W3.drew.heap.size := Nat.le_of_eq hB
  have hgB : w.heap.size < ga ∧ ga < g ∧ g < B := by omega
  have hwB : w.heap.size ≤ B := by omega
  clear hR hG hA hb hgs hB
  refine anyH_take (i := 0) (v := .slice (some ⟨g, 0, none⟩) 64 64) (some 4) rfl rfl (by kernel_rfl) (by kernel_rfl) (by kernel_rfl) (fun _ _ _ h => h) (Or.inl ⟨by rfl, fun w' hw => by (go_simp)⟩) (by assumption) ?_
  simp only [Act.put, List.setIfInBounds_toArray, List.set_cons_zero, List.set_cons_succ]
  refine anyH_take (i := 2) (v := .agg DL.toArray) (some 6) rfl rfl (by kernel_rfl) (by kernel_rfl) (by kernel_rfl) (fun _ _ _ h => h) (yieldsIf_load_mid (by rfl) 26 (.tmp 1) rfl w.heap.size 0 rfl DL _ (fun w' h => h) Try.underlying26 rfl HDi.out) (by assumption) ?_
  simp only [Act.put, List.setIfInBounds_toArray, List.set_cons_zero, List.set_cons_succ]
  refine wpAnyH_ready (rs := [1]) (by kernel_rfl) (by simp) ?_
  refine AllReadyH.cons rfl (fun K hK => ?_) AllReadyH.nil
  go_simp
  go_at_call 30
  refine Calls.mono (number_any B 1 (by omega) _ [] W3.drew (Owns.nil _ _ _) hBd (by simp)) ?_
  rintro e w4 ⟨v4, rfl, hO4, hg4⟩
  have hb4 : Below B W3.drew w4 := hg4.below hBd (fun k hk => by cases hk)
  have HR4 := Lib.hid (HRd.out.below hb4 (by omega))
  have HG4 := Lib.hid (HGd.out.below hb4 (by omega))
  have HA4 := Lib.hid (HAd.out.below hb4 (by omega))
  have Hb4 := Lib.hid (Hbd.out.trans (hb4.mono hwB))
  rw [List.nil_append, uv_one] at hO4
  obtain ⟨A4, c4, hv4, hc4, hcm4, hbs4⟩ := hO4.slice
  have hv4b : v4 = .slice A4 1 c4 := hv4
  subst hv4b
  have Hbs4 := Lib.hid hbs4
  have Hc4 := Lib.hid (show 1 ≤ c4 from hc4)
  have HB4 := Lib.hid (show B ≤ w4.heap.size from Nat.le_trans hBd hb4.size)
  clear hO4 hg4 hb4 hv4 hbs4 hc4 HRd HGd HAd Hbd hBd
  go_wp2_with fail
  refine hK.out _ _ HR4.out.range (fun hHeldx => ?_)
  clear hK K
  try simp only [Act.put, List.setIfInBounds_toArray, List.set_cons_zero, List.set_cons_succ]
  refine wpAnyH_ready (rs := [3]) (by kernel_rfl) (by simp) ?_
  refine AllReadyH.cons rfl (fun K hK => ?_) AllReadyH.nil
  go_simp
  go_at_call 31
  refine Calls.mono (bput_any [1] r.d Hr.out.d r.a r.n DL HDL.out A4 1 c4 w4 rfl (by omega) Hc4.out hcm4 Hbs4.out) ?_
  rintro e w5 ⟨v5, rfl, hO5, hb5⟩
  have HR5 := Lib.hid (HR4.out.up hb5)
  have HG5 := Lib.hid (HG4.out.up hb5)
  have HA5 := Lib.hid (HA4.out.up hb5)
  have Hb5 := Lib.hid (Hb4.out.trans (hb5.mono Hb4.out.size))
  obtain ⟨A5, c5, rfl, hc5, hcm5, hbs5⟩ := hO5.slice
  obtain ⟨P, hP⟩ : ∃ P, refB [1] r.d r.a r.n = P := ⟨_, rfl⟩
  rw [hP] at hbs5 hc5 ⊢
  have HP := Lib.hid hP
  have hPl : P.length ≤ 53 := by rw [← hP, refB_out]; have := encR_le r Hr.out.d; simp only [List.length_append, List.length_cons, List.length_nil]; exact Nat.le_trans (Nat.add_le_add_left this 1) (by omega)
  obtain ⟨m, hm⟩ : ∃ m, P.length = m := ⟨_, rfl⟩
  rw [hm] at hc5 hPl ⊢
  have Hm := Lib.hid hm
  have Hcs := Lib.hid hbs5.cells
  have Hwl := Lib.hid (show B ≤ w5.heap.size from Nat.le_trans HB4.out hb5.size)
  clear hO5 hb5 hbs5 hP hm HR4 HG4 HA4 Hb4 Hbs4
  go_wp2_with fail
  refine hK.out _ _ HR5.out.range (fun hHeldx => ?_)
  clear hK K
  try simp only [Act.put, List.setIfInBounds_toArray, List.set_cons_zero, List.set_cons_succ]
  refine wpAnyH_ready (rs := [4]) (by kernel_rfl) (by simp) ?_
  refine AllReadyH.cons rfl (fun K hK => ?_) AllReadyH.nil
  refine step_copy_dd (some 8) (by rfl) (by rfl) _ _ _ _ (by rfl) 5 Try.underlying33 byteSizeS _ _ _ _ _ _ (by rfl) (by rfl) g 0 ZL 49 HG5.out (Lib.byteCells P) (by rw [Lib.byteCells_length, Hm.out]; exact (Nat.min_eq_left (by omega)).symm) (fun hp => ⟨rfl, Hcs.out hp⟩) (by rw [Lib.byteCells_length, Hm.out, HZl.out]; omega) (byteCells_one P) ?_
  intro w6 hG6 hw6
  have hG6b : Arr w6 g 49 LL := by
    have h := hG6.out
    rw [HZL.out, ← HP.out, lay_splice r Hr.out.d, ← HLL.out] at h
    exact h
  have HR6 := Lib.hid (show Arr w6 w.heap.size 26 DL from (hw6.1.block w.heap.size (by have := HR5.out.lt; omega) (fun e => by injection e with e; omega)).trans HR5.out)
  have HA6 := Lib.hid (show Arr w6 ga 49 ZL from (hw6.1.block ga (by have := HA5.out.lt; omega) (fun e => by injection e with e; omega)).trans HA5.out)
  have Hb6 := Lib.hid (show Below w.heap.size w w6 from Hb5.out.trans ⟨hw6.1.os, hw6.1.tape, hw6.1.output, hw6.1.size, fun k hk => hw6.1.block k (by have := Hwl.out; omega) (fun e => by injection e with e; omega)⟩)
  have HG6 := Lib.hid hG6b
  clear hG6 hw6 hG6b HR5 HG5 HA5 Hb5
  refine hK.out _ _ HR6.out.range (fun hHeldx => ?_)
  clear hK K
  rw [show goInt ((Lib.byteCells P).length : Nat) = .int .i64 (m : Nat) by rw [Lib.byteCells_length, Hm.out]; rfl]
  try simp only [Act.put, List.setIfInBounds_toArray, List.set_cons_zero, List.set_cons_succ]
  refine wpAnyH_done (by kernel_rfl) ?_ _
  clear hHeld
  have hset := HA6.out.setRow LL
  have hbe : Below w.heap.size w (w6.setRow ga LL.toArray) := Hb6.out.trans (((Only.refl (fun k => k = ga) w6).setRow (.inl rfl) LL.toArray).below Hb6.out.size (by rintro k rfl; omega))
  have Hset := Lib.hid hset
  have Hbe := Lib.hid hbe
  clear hset hbe
  go_wp2_with (first
    | (refine wpList_load_row rfl _ _ rfl g rfl 49 LL.toArray (0, 0) _ HG6.out Try.underlying49 rfl HLi.out ?_)
    | (refine wpList_store_row rfl _ _ _ rfl ga LL.toArray rfl rfl 49 ZL.toArray HA6.out HLi.out HLz.out HL1.out ?_))
  exact bodyPost_ret (v := .agg LL.toArray) (results_cell_row (by rfl) _ _ ga 49 LL.toArray (0, 0) _ (by rfl) Hset.out Try.underlying49 rfl HLi.out) rfl ⟨rfl, Hbe.out⟩

end Go.Proofs.Ytkepfigoeaheaaa

namespace Go.Proofs.Ytkepfigoeaheaaa
open Go.RowKit
set_option linter.unusedVariables false
set_option linter.unusedSimpArgs false


set_option maxRecDepth 100000 in
theorem sec_eqvS {X Y : List UInt8} (hX : X.length = 64) (hY : Y.length = 64) {XL YL : List Value} (hXL : XL = Lib.byteCells X) (hYL : YL = Lib.byteCells Y) (w : World) : (Op.equalIn 10000 49 (.agg XL.toArray) (.agg YL.toArray)).run Try.prog w = .ok (decide (X = Y)) w := by
  subst hXL hYL
  have hi : Try.prog.info? 5 = some ((Try.prog.info? 5).get (by kernel_rfl)) := (Option.some_get _).symm
  have h1 := run_equalIn_array (P := Try.prog) (w := w) 9999 (Lib.byteCells X).toArray (Lib.byteCells Y).toArray Try.underlying49 hi
  have hc : Try.prog.cellsOf 5 = 1 := by kernel_rfl
  rw [hc, eqItems_bytesD 9998 X Y w (List.range 64) (fun i hi => by have := List.mem_range.1 hi; omega), all_getDD hX hY] at h1
  exact h1
theorem gtSec : Try.prog.eqGuardType Try.prog.depth 49 = false := by kernel_rfl
theorem yieldsIf_neqC {P : Program} {ops : Array Oper} {S : World → Prop} {op : Oper} {a : Act} (hw : Region.wanted op (yielded ops a.tmps) = true) (ty ty2 : TypeId) (x y : Operand) (ho : op.op = .binOp .neq ty x y ty2)
    (X Y : List Value) (hx : a.eval x = .agg X.toArray) (hy : a.eval y = .agg Y.toArray) (b : Bool) (he : ∀ w, (Op.equalIn 10000 ty (.agg X.toArray) (.agg Y.toArray)).run P w = .ok b w) (hm : P.eqGuardType P.depth ty = false) : YieldsIf P ops S op (.bool (!b)) a :=
  .inl ⟨hw, fun w hw' => by
    unfold execOp
    simp only [ho, hx, hy, Sem.run_bind, Sem.run_pure, Result.andThen_ok, run_eqGuard_agg, run_neq_struct, he, hm]⟩
theorem ref_built0 : Try.prog.built 26 [] = some refZ.toArray := by kernel_rfl
theorem rC_zR : rC zR = refZ := rfl
set_option maxHeartbeats 8000000 in
set_option maxRecDepth 100000 in
theorem tell_any (s : List UInt8) (hs : s.length = 64) (SL : List Value) (hSL : SL = Lib.byteCells s) (w : World) :
    Calls Try.prog 65 #[.agg SL.toArray] w fun e w' => e = .returned (.tuple #[.agg (rC (tellF s).1).toArray, .bool (tellF s).2]) ∧ Below w.heap.size w w' := by
  obtain ⟨ZL, hZL⟩ : ∃ z, z = refZ := ⟨_, rfl⟩
  obtain ⟨W1, hW1⟩ : ∃ z, z = w.alloc (.cells SL.toArray 49) := ⟨_, rfl⟩
  obtain ⟨W2, hW2⟩ : ∃ z, z = W1.alloc (.cells ZL.toArray 26) := ⟨_, rfl⟩
  have hb1 : Below w.heap.size w W1 := by rw [hW1]; exact (Below.refl _ _).alloc (Nat.le_refl _) _
  have hb2 : Below W1.heap.size W1 W2 := by rw [hW2]; exact (Below.refl _ _).alloc (Nat.le_refl _) _
  have z1 : W1.heap.size = w.heap.size + 1 := by rw [hW1]; simp
  have hA : Arr W2 w.heap.size 49 SL := Arr.up (by rw [hW1]; exact Arr.new w _ _) hb2
  have hZ : Arr W2 (w.heap.size + 1) 26 ZL := by rw [← z1, hW2]; exact Arr.new W1 _ _
  have hb : Below w.heap.size w W2 := hb1.trans (hb2.mono (by omega))
  have z2 : W2.heap.size = w.heap.size + 2 := by rw [hW2]; simp; omega
  obtain ⟨ga, hga⟩ : ∃ z, z = w.heap.size + 1 := ⟨_, rfl⟩
  rw [← hga] at hZ
  have hgs : w.heap.size < ga ∧ ga < W2.heap.size := by omega
  have Hs := Lib.hid hs
  have HSL := Lib.hid hSL
  have HSl := Lib.hid (show SL.length = 64 by rw [hSL, Lib.byteCells_length]; exact hs)
  have HSn := Lib.hid (show (Try.prog.info? 49).map (·.size) = some SL.length by rw [HSl.out]; exact secInfo)
  have HSb := Lib.hid (fun (w' : World) (h : Arr w' w.heap.size 49 SL) => show Bs w' w'.heap.size (some ⟨w.heap.size, 0, none⟩) s from fun hp => ⟨w.heap.size, 0, rfl, h.lt, fun j hj => by
    rw [h.cell, hSL, Nat.zero_add]
    exact byteCells_get hj⟩)
  have HZL := Lib.hid hZL
  have HW := Lib.hid (show W2 = (w.alloc (.cells SL.toArray 49)).alloc (.cells refZ.toArray 26) by rw [hW2, hW1, hZL])
  have Hga := Lib.hid hga
  clear hSL hs hZL hW1 hW2 hb1 hb2 z1 z2 hga
  obtain ⟨T, hT⟩ : ∃ T, tellF s = T := ⟨_, rfl⟩
  have HT := Lib.hid hT
  rw [hT]
  clear hT
  go_enter Try.func65, Try.ntmps65
  go_upto_region 1 with fail
  change Code.wp _ _ _ _ ((w.alloc (.cells SL.toArray 49)).alloc (.cells refZ.toArray 26))
  rw [← HW.out, ← Hga.out]
  clear HW
  go_wp2_with fail
  refine (from_n W2.heap.size (some ⟨w.heap.size, 0, none⟩) 64 64 s W2 (HSb.out W2 hA) Hs.out (by omega)).mono ?_
  rintro e w3 ⟨p, rfl, hp, hP3, hb3⟩
  have HA3 := Lib.hid (hA.up hb3)
  have HZ3 := Lib.hid (hZ.up hb3)
  have Hb3 := Lib.hid (hb.trans (hb3.mono hb.size))
  have hP3' : PInL 0 w3 p ((s, false) : St).1 ((s, false) : St).2 := hP3
  have hpl := hP3.lt
  have hgp : ga < p := by omega
  clear hA hZ hb hb3 hP3
  go_wp2_with fail
  refine Calls.mono (number_fl p 1 (s, false) w3 hP3' (by omega)) ?_
  rintro e w4 ⟨rfl, hP4, ht4⟩
  have HA4 := Lib.hid (show Arr w4 w.heap.size 49 SL from (ht4.block _ HA3.out.lt (fun e => by injection e; omega)).trans HA3.out)
  have HZ4 := Lib.hid (show Arr w4 ga 26 ZL from (ht4.block _ HZ3.out.lt (fun e => by injection e; omega)).trans HZ3.out)
  have Hb4 := Lib.hid (show Below w.heap.size w w4 from Hb3.out.trans (ht4.below Hb3.out.size (by omega)))
  obtain ⟨s1, hs1⟩ : ∃ z, (numS 1 (s, false)).2 = z := ⟨_, rfl⟩
  rw [hs1] at hP4
  have Hs1 := Lib.hid hs1
  obtain ⟨TL, hTL⟩ : ∃ z, z = rC (refS s1).1 := ⟨_, rfl⟩
  have HTL := Lib.hid hTL
  have hTl : TL.length = 34 := by rw [hTL]; exact rC_length (refS_w _)
  have HTi := Lib.hid (show (Try.prog.info? 26).map (·.size) = some TL.toArray.size ∧ ZL.toArray.size = TL.toArray.size by rw [List.size_toArray, List.size_toArray, hTl, HZL.out]; exact ⟨refSize, rfl⟩)
  have HTn := Lib.hid (show (Try.prog.info? 26).map (·.size) = some TL.length by rw [hTl]; exact refSize)
  have HT1 := Lib.hid (show TL.toArray.all (·.oneCell') = true by rw [hTL]; exact all_oneC (rC_one _))
  have Htk := Lib.hid (btake_fl s1 p w4 hP4 TL hTL)
  clear hs1 hTL hTl hP3' hP4 ht4 HA3 HZ3 Hb3
  go_wp2_with fail
  refine Calls.mono Htk.out ?_
  rintro e w5 ⟨rfl, _, ht5⟩
  have HA5 := Lib.hid (show Arr w5 w.heap.size 49 SL from (ht5.block _ HA4.out.lt (fun e => by injection e; omega)).trans HA4.out)
  have HZ5 := Lib.hid (show Arr w5 ga 26 ZL from (ht5.block _ HZ4.out.lt (fun e => by injection e; omega)).trans HZ4.out)
  have Hb5 := Lib.hid (show Below w.heap.size w w5 from Hb4.out.trans (ht5.below Hb4.out.size (by omega)))
  obtain ⟨g, hg⟩ : ∃ z, z = w5.heap.size := ⟨_, rfl⟩
  have Hg := Lib.hid hg
  have HZ0 := Lib.hid (fun w : World => show (zeroValue 26).run Try.prog w = .ok (.agg ZL.toArray) w by rw [HZL.out]; exact refZero w)
  have hgag : ga < g := by rw [hg]; exact HZ5.out.lt
  clear ht5 Htk HA4 HZ4 Hb4 hg hpl hp hgp
  go_upto_region 4 with (first | (refine wpList_allocZC rfl 26 rfl ZL.toArray (HZ0.out _) ?_) | (change wpList _ _ _ _ _ (w5.alloc (.cells ZL.toArray 26)); refine wpList_store_row rfl _ _ _ rfl w5.heap.size TL.toArray rfl rfl 26 ZL.toArray (heap_alloc_new w5 _) HTi.out.1 HTi.out.2 HT1.out ?_; obtain ⟨w6, hw6⟩ : ∃ x, x = (w5.alloc (.cells ZL.toArray 26)).setRow w5.heap.size TL.toArray := ⟨_, rfl⟩; rw [← hw6]; obtain ⟨hP6, hb6⟩ := alloc_row w5 26 ZL.toArray TL; rw [← hw6] at hP6 hb6; clear hw6))
  rw [← Hg.out] at hP6 ⊢
  have HA6 := Lib.hid (HA5.out.up hb6)
  have HZ6 := Lib.hid (HZ5.out.up hb6)
  have Hb6 := Lib.hid (Hb5.out.trans (hb6.mono Hb5.out.size))
  clear hb6 HA5 HZ5 Hb5
  obtain ⟨LL, hLL⟩ : ∃ z, z = Lib.byteCells (layR (refS s1).1) := ⟨_, rfl⟩
  have HLL := Lib.hid hLL
  obtain ⟨q, hq⟩ : ∃ q, decide (layR (refS s1).1 = s) = q := ⟨_, rfl⟩
  have Hq := Lib.hid (fun w : World => show (Op.equalIn 10000 49 (.agg LL.toArray) (.agg SL.toArray)).run Try.prog w = .ok q w by rw [← hq]; exact sec_eqvS (layR_length (refS_w s1).d) Hs.out hLL HSL.out w)
  have HTq := Lib.hid (show T = if q = true then ((refS s1).1, true) else (zR, false) by
    rw [← HT.out]
    unfold tellF
    rw [Hs1.out, ← hq]
    by_cases h : layR (refS s1).1 = s
    · rw [if_pos h, if_pos (decide_eq_true h)]
    · rw [if_neg h, if_neg (by rw [decide_eq_false h]; simp)])
  clear hLL hq
  refine wp_region_held_drew (S := fun w' => Arr w' g 26 TL ∧ Arr w' w.heap.size 49 SL) (by kernel_rfl) ⟨Arr.drewN hP6 1, HA6.out.drewN 1⟩ (fun hHeld => ?_)
  have HPd := Lib.hid (Arr.drewN hP6 1)
  have HAd := Lib.hid (HA6.out.drewN 1)
  have HZd := Lib.hid (HZ6.out.drewN 1)
  have Hbd := Lib.hid (Below.dN Hb6.out 1)
  clear hP6 HA6 HZ6 Hb6
  refine anyH_take (i := 0) (v := .agg TL.toArray) (some 12) rfl rfl (by kernel_rfl) (by kernel_rfl) (by kernel_rfl) (fun _ _ _ h => h) (yieldsIf_load_mid (by rfl) 26 (.tmp 5) rfl g 0 rfl TL _ (fun w' h => Arr.range h.1) Try.underlying26 rfl HTn.out) (by assumption) ?_
  simp only [Act.put, List.setIfInBounds_toArray, List.set_cons_zero, List.set_cons_succ]
  refine anyH_take (i := 2) (v := .agg SL.toArray) (some 14) rfl rfl (by kernel_rfl) (by kernel_rfl) (by kernel_rfl) (fun _ _ _ h => h) (yieldsIf_load_mid (by rfl) 49 (.tmp 1) rfl w.heap.size 0 rfl SL _ (fun w' h => Arr.range h.2) Try.underlying49 rfl HSn.out) (by assumption) ?_
  simp only [Act.put, List.setIfInBounds_toArray, List.set_cons_zero, List.set_cons_succ]
  refine wpAnyH_ready (rs := [1]) (by kernel_rfl) (by simp) ?_
  refine AllReadyH.cons rfl (fun K hK => ?_) AllReadyH.nil
  go_simp
  go_at_call 66
  refine Calls.mono (lay_any (refS s1).1 (refS_w s1) TL LL HTL.out HLL.out w6.drew) ?_
  rintro e w7 ⟨rfl, hb7⟩
  have HP7 := Lib.hid (HPd.out.up hb7)
  have HA7 := Lib.hid (HAd.out.up hb7)
  have HZ7 := Lib.hid (HZd.out.up hb7)
  have Hb7 := Lib.hid (Hbd.out.trans (hb7.mono Hbd.out.size))
  clear hb7 HPd HAd HZd Hbd
  go_wp2_with fail
  refine hK.out _ _ ⟨HP7.out, HA7.out⟩ (fun hHeldx => ?_)
  clear hK K
  try simp only [Act.put, List.setIfInBounds_toArray, List.set_cons_zero, List.set_cons_succ]
  refine anyH_take (i := 3) (v := .bool (!q)) (some 15) rfl rfl (by kernel_rfl) (by kernel_rfl) (by kernel_rfl) (fun _ _ _ h => h) (yieldsIf_neqC (by rfl) 49 _ _ _ rfl LL SL rfl rfl q Hq.out gtSec) (by assumption) ?_
  simp only [Act.put, List.setIfInBounds_toArray, List.set_cons_zero, List.set_cons_succ]
  refine wpAnyH_done (by kernel_rfl) ?_ _
  clear hHeld
  have hP7 := HP7.out
  have Hbe := Lib.hid (fun (cs : Array Value) => show Below w.heap.size w (w7.setRow ga cs) from Hb7.out.trans (((Only.refl (fun k => k = ga) w7).setRow (.inl rfl) cs).below Hb7.out.size (by rintro k rfl; omega)))
  cases q with
  | true =>
    have HTe := Lib.hid (show T = ((refS s1).1, true) by rw [HTq.out]; rfl)
    have Hset := Lib.hid (HZ7.out.setRow TL)
    go_wp2_with (first
      | (refine wpList_load_row rfl _ _ rfl g rfl 26 TL.toArray (0, 0) _ hP7 Try.underlying26 rfl HTi.out.1 ?_)
      | (refine wpList_store_row rfl _ _ _ rfl ga TL.toArray rfl rfl 26 ZL.toArray HZ7.out HTi.out.1 HTi.out.2 HT1.out ?_))
    (try simp only [Exit.inBlock, Exit.then])
    obtain ⟨V, hV⟩ : ∃ V, V = Value.tuple #[.agg TL.toArray, .bool true] := ⟨_, rfl⟩
    refine bodyPost_ret (v := V) ?hx1 ?h2 ?h3
    case hx1 => rw [hV]; exact results_cell2 (fn := Try.f65) (by rfl) _ _ ga 26 TL.toArray (0, 0) _ (by rfl) _ (by rfl) Hset.out Try.underlying26 rfl HTi.out.1
    case h2 => rfl
    case h3 => exact ⟨by rw [hV, HTe.out, HTL.out], Hbe.out _⟩
  | false =>
    have HTe := Lib.hid (show T = (zR, false) by rw [HTq.out]; rfl)
    have HZb := Lib.hid (show Try.prog.built 26 [] = some ZL.toArray by rw [HZL.out]; exact ref_built0)
    have HZi := Lib.hid (show (Try.prog.info? 26).map (·.size) = some ZL.toArray.size by rw [HZL.out]; exact refSize)
    have HZ1 := Lib.hid (show ZL.toArray.all (·.oneCell') = true by rw [HZL.out]; exact all_oneC (refC_cell _ _ _))
    have Hset := Lib.hid (HZ7.out.setRow ZL)
    go_wp2_with (first
      | (refine wpList_builtD rfl _ _ rfl [] rfl ZL.toArray HZb.out ?_)
      | (refine wpList_store_row rfl _ _ _ rfl ga ZL.toArray rfl rfl 26 ZL.toArray HZ7.out HZi.out rfl HZ1.out ?_))
    (try simp only [Exit.inBlock, Exit.then])
    obtain ⟨V, hV⟩ : ∃ V, V = Value.tuple #[.agg ZL.toArray, .bool false] := ⟨_, rfl⟩
    refine bodyPost_ret (v := V) ?hx1 ?h2 ?h3
    case hx1 => rw [hV]; exact results_cell2 (fn := Try.f65) (by rfl) _ _ ga 26 ZL.toArray (0, 0) _ (by rfl) _ (by rfl) Hset.out Try.underlying26 rfl HZi.out
    case h2 => rfl
    case h3 => exact ⟨by rw [hV, HTe.out, HZL.out, rC_zR], Hbe.out _⟩

end Go.Proofs.Ytkepfigoeaheaaa

namespace Go.Proofs.Ytkepfigoeaheaaa
open Go.RowKit
set_option linter.unusedVariables false
set_option linter.unusedSimpArgs false

def okR (r : RefF) : Bool := decide (0 ≤ r.a) && (decide (r.a ≤ 65535) && (decide (0 ≤ r.n) && decide (r.n ≤ 65536)))

theorem okR_iff {r : RefF} : okR r = true ↔ OkR r := by
  unfold okR OkR
  simp only [Bool.and_eq_true, decide_eq_true_eq]

set_option maxHeartbeats 4000000 in
set_option maxRecDepth 100000 in
theorem may14_any (r : RefF) (hr : RefW r) (TL : List Value) (hTL : TL = rC r) (w : World) :
    Calls Try.prog 26 #[.agg TL.toArray] w fun e w' => e = .returned (.bool (okR r)) ∧ Below w.heap.size w w' := by
  obtain ⟨W, hW⟩ : ∃ W, W = w.alloc (.cells TL.toArray 26) := ⟨_, rfl⟩
  have hR : Arr W w.heap.size 26 TL := by rw [hW]; exact Arr.new w _ _
  have hB : Below w.heap.size w W := by rw [hW]; exact (Below.refl _ w).alloc (Nat.le_refl _) _
  have hc1 : W.cell? ⟨w.heap.size, 32, none⟩ = some (.int .i64 r.a) := by rw [hR.cell, hTL]; exact (refC_at hr.d r.a r.n).1
  have hc2 : W.cell? ⟨w.heap.size, 33, none⟩ = some (.int .i64 r.n) := by rw [hR.cell, hTL]; exact (refC_at hr.d r.a r.n).2
  obtain ⟨a, ha⟩ : ∃ z, r.a = z := ⟨_, rfl⟩
  obtain ⟨n, hn⟩ : ∃ z, r.n = z := ⟨_, rfl⟩
  have Hok := Lib.hid (show okR r = (decide (0 ≤ a) && (decide (a ≤ 65535) && (decide (0 ≤ n) && decide (n ≤ 65536)))) by rw [← ha, ← hn]; rfl)
  rw [ha] at hc1
  rw [hn] at hc2
  have HW := Lib.hid hW
  clear hW hR hTL ha hn
  rw [Hok.out]
  obtain ⟨b1, hb1⟩ : ∃ b, decide (0 ≤ a) = b := ⟨_, rfl⟩
  obtain ⟨b2, hb2⟩ : ∃ b, decide (a ≤ 65535) = b := ⟨_, rfl⟩
  obtain ⟨b3, hb3⟩ : ∃ b, decide (0 ≤ n) = b := ⟨_, rfl⟩
  obtain ⟨b4, hb4⟩ : ∃ b, decide (n ≤ 65536) = b := ⟨_, rfl⟩
  have hb1' : decide (a ≥ 0) = b1 := hb1
  have hb3' : decide (n ≥ 0) = b3 := hb3
  rw [hb1, hb2, hb3, hb4]
  go_enter Try.func26, Try.ntmps26
  go_upto_region 1 with fail
  rw [← HW.out]
  clear HW Hok
  cases b1 with
  | false =>
    go_wp2_with fail
    go_ret
    exact ⟨rfl, hB⟩
  | true =>
    cases b2 with
    | false =>
      go_wp2_with fail
      go_ret
      exact ⟨rfl, hB⟩
    | true =>
      cases b3 with
      | false =>
        go_wp2_with fail
        go_ret
        exact ⟨rfl, hB⟩
      | true =>
        go_wp2_with fail
        go_ret
        exact ⟨rfl, hB⟩


/-- A disk with power; its blocks are F. -/
def SDk (F : Nat → Prop) (w : World) (k n : Nat) (S : List (List UInt8)) (W : List WrF) : Prop := ∃ L, Disk w F k n S L W false 0
theorem SDk.up {F : Nat → Prop} {w w' : World} {k n : Nat} {S : List (List UInt8)} {W : List WrF} (h : SDk F w k n S W) (hb : Below w.heap.size w w') : SDk F w' k n S W := by
  obtain ⟨L, h1⟩ := h
  exact ⟨L, h1.below hb⟩
theorem SDk.lt {F : Nat → Prop} {w : World} {k n : Nat} {S : List (List UInt8)} {W : List WrF} (h : SDk F w k n S W) : ∀ b, F b → b < w.heap.size := by
  obtain ⟨L, h1⟩ := h
  exact h1.Flt
theorem SDk.more {F F' : Nat → Prop} {w : World} {k n : Nat} {S : List (List UInt8)} {W : List WrF} (h : SDk F w k n S W) (h1 : ∀ b, F b → F' b) (h2 : ∀ b, F' b → b < w.heap.size) : SDk F' w k n S W := by
  obtain ⟨L, h⟩ := h
  exact ⟨L, h.more h1 h2⟩
theorem SDk.facts {F : Nat → Prop} {w : World} {k n : Nat} {S : List (List UInt8)} {W : List WrF} (h : SDk F w k n S W) : S.length = n ∧ (∀ s ∈ S, s.length = 64) ∧ n ≤ 65536 ∧ k < w.heap.size ∧ F k := by
  obtain ⟨L, ⟨gs, gl, bm, vw, base, nm, D, hD, _⟩⟩ := h
  exact ⟨hD.lS, hD.s64, hD.n2, hD.Flt k hD.Fk, hD.Fk⟩
theorem SDk.read {F : Nat → Prop} {w : World} {k n : Nat} {S : List (List UInt8)} {W : List WrF} (h : SDk F w k n S W) (a : Nat) (ha : a < n) (SL : List Value) (hSL : SL = Lib.byteCells (S.getD a [])) :
    Calls Try.prog 28 #[.pointer (some ⟨k, 0, none⟩), .int .i64 (a : Nat)] w fun e w' => e = .returned (.tuple #[.agg SL.toArray, .int .i64 0]) ∧ Below w.heap.size w w' := by
  obtain ⟨L, ⟨gs, gl, bm, vw, base, nm, D, hD, _⟩⟩ := h
  exact read_yes k gs n a S SL w hD.c0 hD.hs hD.s64 hD.lS ha hD.n2 (hD.Flt k hD.Fk) hSL
theorem SDk.readNo {F : Nat → Prop} {w : World} {k n : Nat} {S : List (List UInt8)} {W : List WrF} (h : SDk F w k n S W) (a : Int) (ha : a < 0 ∨ (n : Int) ≤ a) :
    Calls Try.prog 28 #[.pointer (some ⟨k, 0, none⟩), .int .i64 a] w fun e w' => e = .returned (.tuple #[.agg (Lib.byteCells zero64).toArray, .int .i64 2]) ∧ Below w.heap.size w w' := by
  obtain ⟨L, ⟨gs, gl, bm, vw, base, nm, D, hD, _⟩⟩ := h
  exact read_no k gs n a w hD.c0 ha hD.n2 (hD.Flt k hD.Fk)
theorem SDk.write {F : Nat → Prop} {w : World} {k n : Nat} {S : List (List UInt8)} {W : List WrF} (h : SDk F w k n S W) (a : Nat) (ha : a < n) (s : List UInt8) (hs : s.length = 64) (SL : List Value) (hSL : SL = Lib.byteCells s) (hW : W.length + 1 ≤ 100000) :
    Calls Try.prog 21 #[.pointer (some ⟨k, 0, none⟩), .int .i64 (a : Nat), .agg SL.toArray] w fun e w' => e = .returned (.int .i64 0) ∧ SDk (newF F w w') w' k n (S.set a s) (W ++ [(a, s, false)]) ∧ Only F w w' := by
  obtain ⟨L, hD⟩ := h
  refine (write_live F k n a S L W false 0 s SL w hD rfl ha hs hSL hW).mono ?_
  rintro e w' ⟨he, hD', hO⟩
  exact ⟨he, ⟨L, hD'⟩, hO⟩
theorem sdk_new {n : Nat} {w w' : World} {k : Nat} (h : Disk w' (newF (fun _ => False) w w') k n (List.replicate n zero64) (List.replicate n zero64) [] false 0) : SDk (newF (fun _ => False) w w') w' k n (List.replicate n zero64) [] := ⟨_, h⟩


set_option maxHeartbeats 8000000 in
set_option maxRecDepth 100000 in
theorem srd_yes (F : Nat → Prop) (k n a : Nat) (S : List (List UInt8)) (W : List WrF) (w : World) (h : SDk F w k n S W) (ha : a < n) (ha2 : a < 2) (T : RefF × Bool) (hT : T = tellF (S.getD a [])) (RL : List Value) (hRL : RL = rC T.1) :
    Calls Try.prog 23 #[.pointer (some ⟨k, 0, none⟩), .int .i64 (a : Nat)] w fun e w' => e = .returned (.tuple #[.agg RL.toArray, .bool T.2]) ∧ Below w.heap.size w w' := by
  obtain ⟨hl, h64, hn6, hk, _⟩ := h.facts
  have hs : (S.getD a []).length = 64 := h64 _ (by simp [List.getD, show a < S.length by omega])
  obtain ⟨s, hse⟩ : ∃ s, S.getD a [] = s := ⟨_, rfl⟩
  rw [hse] at hs hT
  obtain ⟨SL, hSL⟩ : ∃ z, z = Lib.byteCells s := ⟨_, rfl⟩
  obtain ⟨ZL, hZL⟩ : ∃ z, z = refZ := ⟨_, rfl⟩
  obtain ⟨ZS, hZS⟩ : ∃ z, z = Lib.byteCells zero64 := ⟨_, rfl⟩
  obtain ⟨W1, hW1⟩ : ∃ z, z = w.alloc (.cells ZL.toArray 26) := ⟨_, rfl⟩
  have hb1 : Below w.heap.size w W1 := by rw [hW1]; exact (Below.refl _ _).alloc (Nat.le_refl _) _
  have hZ : Arr W1 w.heap.size 26 ZL := by rw [hW1]; exact Arr.new w _ _
  have HD1 := Lib.hid (h.up hb1)
  have Hread := Lib.hid (HD1.out.read a ha SL (by rw [hse]; exact hSL))
  have HZL := Lib.hid hZL
  have HW := Lib.hid (show W1 = w.alloc (.cells refZ.toArray 26) by rw [hW1, hZL])
  have HSL := Lib.hid hSL
  have HSl := Lib.hid (show SL.length = 64 by rw [hSL, Lib.byteCells_length]; exact hs)
  have HSi := Lib.hid (show (Try.prog.info? 49).map (·.size) = some SL.toArray.size ∧ ZS.toArray.size = SL.toArray.size by rw [List.size_toArray, List.size_toArray, HSl.out, hZS]; exact ⟨secInfo, rfl⟩)
  have HS1 := Lib.hid (show SL.toArray.all (·.oneCell') = true by rw [hSL]; exact sec_one _)
  have HSn := Lib.hid (show (Try.prog.info? 49).map (·.size) = some SL.length by rw [HSl.out]; exact secInfo)
  have HZS := Lib.hid (fun w : World => show (zeroValue 49).run Try.prog w = .ok (.agg ZS.toArray) w by rw [hZS]; kernel_rfl)
  have Hs := Lib.hid hs
  have HT := Lib.hid hT
  have HRL := Lib.hid hRL
  have hRl : RL.length = 34 := by rw [hRL, hT]; exact rC_length (tell_w s).1
  have HRi := Lib.hid (show (Try.prog.info? 26).map (·.size) = some RL.toArray.size ∧ ZL.toArray.size = RL.toArray.size by rw [List.size_toArray, List.size_toArray, hRl, hZL]; exact ⟨refSize, rfl⟩)
  have HR1 := Lib.hid (show RL.toArray.all (·.oneCell') = true by rw [hRL]; exact all_oneC (rC_one _))
  have hd2 : decide ((2 : Int) ≤ (a : Int)) = false := by simp; omega
  have hd2' : decide ((a : Int) ≥ 2) = false := hd2
  have hd2n : decide (2 ≤ a) = false := by simp; omega
  have hkl : k < w.heap.size := hk
  clear hW1 hZL hSL hZS hs hT hRL hRl hse hl h64 hn6 hk h
  go_enter Try.func23, Try.ntmps23
  go_upto_region 1 with fail
  change Code.wp _ _ _ _ (w.alloc (.cells refZ.toArray 26))
  rw [← HW.out]
  clear HW
  go_wp2_with fail
  refine Calls.mono Hread.out ?_
  rintro e w3 ⟨rfl, hb3⟩
  have HZ3 := Lib.hid (hZ.up hb3)
  have Hb3 := Lib.hid (hb1.trans (hb3.mono hb1.size))
  clear hZ hb1 hb3 Hread
  obtain ⟨g, hg⟩ : ∃ z, z = w3.heap.size := ⟨_, rfl⟩
  have Hg := Lib.hid hg
  clear hg
  go_upto_region 4 with (first | (refine wpList_allocZC rfl 49 rfl ZS.toArray (HZS.out _) ?_) | (change wpList _ _ _ _ _ (w3.alloc (.cells ZS.toArray 49)); refine wpList_store_row rfl _ _ _ rfl w3.heap.size SL.toArray rfl rfl 49 ZS.toArray (heap_alloc_new w3 _) HSi.out.1 HSi.out.2 HS1.out ?_; obtain ⟨w4, hw4⟩ : ∃ x, x = (w3.alloc (.cells ZS.toArray 49)).setRow w3.heap.size SL.toArray := ⟨_, rfl⟩; rw [← hw4]; obtain ⟨hP4, hb4⟩ := alloc_row w3 49 ZS.toArray SL; rw [← hw4] at hP4 hb4; clear hw4))
  rw [← Hg.out] at hP4 ⊢
  have HZ4 := Lib.hid (HZ3.out.up hb4)
  have Hb4 := Lib.hid (Hb3.out.trans (hb4.mono Hb3.out.size))
  clear hb4 HZ3 Hb3
  have q1 : ((0 : Int) != 0) = false := by simp
  have Htell := Lib.hid (tell_any s Hs.out SL HSL.out w4)
  rw [← HT.out, ← HRL.out] at Htell
  go_wp2_with (first | ((with_reducible refine wpList_at 20 (by rfl) ?_); refine wpList_load_mid_ifC (by rfl) 49 _ rfl g 0 rfl SL _ (Arr.range hP4) Try.underlying49 rfl HSn.out ?_))
  refine Calls.mono Htell.out ?_
  rintro e w5 ⟨rfl, hb5⟩
  have HZ5 := Lib.hid (HZ4.out.up hb5)
  have Hb5 := Lib.hid (Hb4.out.trans (hb5.mono Hb4.out.size))
  have Hset := Lib.hid (HZ5.out.setRow RL)
  have Hbe := Lib.hid (show Below w.heap.size w (w5.setRow w.heap.size RL.toArray) from Hb5.out.trans (((Only.refl (fun k => k = w.heap.size) w5).setRow (.inl rfl) RL.toArray).below Hb5.out.size (by rintro k rfl; omega)))
  obtain ⟨tb, htb⟩ : ∃ z, T.2 = z := ⟨_, rfl⟩
  rw [htb]
  have Htb := Lib.hid htb
  clear hb5 hP4 HZ4 Hb4 q1 Htell htb
  go_wp2_with (first
    | (refine wpList_store_row rfl _ _ _ rfl w.heap.size RL.toArray rfl rfl 26 ZL.toArray HZ5.out HRi.out.1 HRi.out.2 HR1.out ?_))
  (try simp only [Exit.inBlock, Exit.then])
  obtain ⟨V, hV⟩ : ∃ V, V = Value.tuple #[.agg RL.toArray, .bool tb] := ⟨_, rfl⟩
  refine bodyPost_ret (v := V) ?hx1 ?h2 ?h3
  case hx1 => rw [hV]; exact results_cell2 (fn := Try.f23) (by rfl) _ _ w.heap.size 26 RL.toArray (0, 0) _ (by rfl) _ (by rfl) Hset.out Try.underlying26 rfl HRi.out.1
  case h2 => rfl
  case h3 => exact ⟨by rw [hV, Htb.out], Hbe.out⟩

end Go.Proofs.Ytkepfigoeaheaaa

namespace Go.Proofs.Ytkepfigoeaheaaa
open Go.RowKit
set_option linter.unusedVariables false
set_option linter.unusedSimpArgs false


/-- Where the commit of a digest stands. -/
def findF (S : List (List UInt8)) (dg : List UInt8) : RefF × Int :=
  if (tellF (S.getD 0 [])).2 = true ∧ (tellF (S.getD 0 [])).1.d = dg then ((tellF (S.getD 0 [])).1, 0)
  else if (tellF (S.getD 1 [])).2 = true ∧ (tellF (S.getD 1 [])).1.d = dg then ((tellF (S.getD 1 [])).1, 0) else (zR, 7)
theorem rC_dig {r : RefF} (h : r.d.length = 32) {RL : List Value} (hRL : RL = rC r) (j : Nat) (v : Value) (hj : (Lib.byteCells r.d)[j]? = some v) : RL[0 + j]? = some v := by
  rw [hRL, Nat.zero_add]
  unfold rC refC
  rw [List.getElem?_append_left (List.getElem?_eq_some_iff.1 hj).1]
  exact hj
theorem dig_eqvS {X Y : List UInt8} (hX : X.length = 32) (hY : Y.length = 32) {XL YL : List Value} (hXL : XL = Lib.byteCells X) (hYL : YL = Lib.byteCells Y) (w : World) : (Op.equalIn 10000 24 (.agg XL.toArray) (.agg YL.toArray)).run Try.prog w = .ok (decide (X = Y)) w := by
  subst hXL hYL
  exact dig_eqv_at 9998 X Y hX hY w
theorem gtDg : Try.prog.eqGuardType Try.prog.depth 24 = false := by kernel_rfl
set_option maxHeartbeats 16000000 in
set_option maxRecDepth 100000 in
theorem sfind_any (F : Nat → Prop) (k n : Nat) (S : List (List UInt8)) (W : List WrF) (w : World) (h : SDk F w k n S W) (hn : 2 ≤ n) (dg : List UInt8) (hdg : dg.length = 32) (GL : List Value) (hGL : GL = Lib.byteCells dg) (T : RefF × Int) (hT : T = findF S dg) (RL : List Value) (hRL : RL = rC T.1) :
    Calls Try.prog 24 #[.pointer (some ⟨k, 0, none⟩), .agg GL.toArray] w fun e w' => e = .returned (.tuple #[.agg RL.toArray, .int .i64 T.2]) ∧ Below w.heap.size w w' := by
  obtain ⟨ZL, hZL⟩ : ∃ z, z = refZ := ⟨_, rfl⟩
  obtain ⟨W1, hW1⟩ : ∃ z, z = w.alloc (.cells GL.toArray 24) := ⟨_, rfl⟩
  obtain ⟨W2, hW2⟩ : ∃ z, z = W1.alloc (.cells ZL.toArray 26) := ⟨_, rfl⟩
  have hb1 : Below w.heap.size w W1 := by rw [hW1]; exact (Below.refl _ _).alloc (Nat.le_refl _) _
  have hb2 : Below W1.heap.size W1 W2 := by rw [hW2]; exact (Below.refl _ _).alloc (Nat.le_refl _) _
  have z1 : W1.heap.size = w.heap.size + 1 := by rw [hW1]; simp
  have hG : Arr W2 w.heap.size 24 GL := Arr.up (by rw [hW1]; exact Arr.new w _ _) hb2
  have hZ : Arr W2 (w.heap.size + 1) 26 ZL := by rw [← z1, hW2]; exact Arr.new W1 _ _
  have hb : Below w.heap.size w W2 := hb1.trans (hb2.mono (by omega))
  have z2 : W2.heap.size = w.heap.size + 2 := by rw [hW2]; simp; omega
  obtain ⟨ga, hga⟩ : ∃ z, z = w.heap.size + 1 := ⟨_, rfl⟩
  rw [← hga] at hZ
  have hgs : w.heap.size < ga ∧ ga < W2.heap.size := by omega
  have HD := Lib.hid h
  have HGn := Lib.hid (show (Try.prog.info? 24).map (·.size) = some GL.length by rw [hGL, Lib.byteCells_length, hdg]; exact digInfo)
  have HGL := Lib.hid hGL
  have Hdg := Lib.hid hdg
  have HZL := Lib.hid hZL
  have HW := Lib.hid (show W2 = (w.alloc (.cells GL.toArray 24)).alloc (.cells refZ.toArray 26) by rw [hW2, hW1, hZL])
  have Hga := Lib.hid hga
  have HT := Lib.hid hT
  have HRL := Lib.hid hRL
  have HZ0 := Lib.hid (fun w : World => show (zeroValue 26).run Try.prog w = .ok (.agg ZL.toArray) w by rw [hZL]; exact refZero w)
  have HZb := Lib.hid (show Try.prog.built 26 [] = some ZL.toArray by rw [hZL]; exact ref_built0)
  have HZi := Lib.hid (show (Try.prog.info? 26).map (·.size) = some ZL.toArray.size by rw [hZL]; exact refSize)
  have HZ1 := Lib.hid (show ZL.toArray.all (·.oneCell') = true by rw [hZL]; exact all_oneC (refC_cell _ _ _))
  have HG0 := Lib.hid hG
  have HZz := Lib.hid hZ
  have Hb0 := Lib.hid hb
  clear hGL hdg hZL hW1 hW2 hb1 hb2 z1 z2 hga hT hRL hG hZ hb h
  go_enter Try.func24, Try.ntmps24
  go_upto_region 1 with fail
  change Code.wp _ _ _ _ ((w.alloc (.cells GL.toArray 24)).alloc (.cells refZ.toArray 26))
  rw [← HW.out, ← Hga.out]
  clear HW
  go_wp2_with fail
  go_loopw [9] (fun i wr => ∃ j : Nat, j ≤ 2 ∧ i = .int .i64 j ∧ Hid (Below w.heap.size w wr) ∧ Hid (Arr wr w.heap.size 24 GL) ∧ Hid (Arr wr ga 26 ZL) ∧ Hid (∀ i, i < j → ¬ ((tellF (S.getD i [])).2 = true ∧ (tellF (S.getD i [])).1.d = dg))) (fun i _ => 2 - (Go.RowKit.intOf i).toNat)
  case atStart => exact ⟨0, by omega, rfl, Hb0, HG0, HZz, Lib.hid (fun i hi => by omega)⟩
  case round =>
    clear HG0 HZz
    obtain ⟨j, hj, rfl, Hbr, HG, HZ, Hno⟩ := hrel
    by_cases hlt : j < 2
    · have hd1 : decide ((j : Int) < (2 : Int)) = true := by simp; omega
      have hd1n : decide (j < 2) = true := decide_eq_true hlt
      obtain ⟨Tj, hTj⟩ : ∃ z, z = tellF (S.getD j []) := ⟨_, rfl⟩
      obtain ⟨JL, hJL⟩ : ∃ z, z = rC Tj.1 := ⟨_, rfl⟩
      have Hrd := Lib.hid (srd_yes F k n j S W wr (HD.out.up Hbr.out) (by omega) hlt Tj hTj JL hJL)
      have hJd : Tj.1.d.length = 32 := by rw [hTj]; exact (tell_w _).2.2
      have hJl : JL.length = 34 := by rw [hJL, hTj]; exact rC_length (tell_w _).1
      have HJi := Lib.hid (show (Try.prog.info? 26).map (·.size) = some JL.toArray.size ∧ ZL.toArray.size = JL.toArray.size by rw [List.size_toArray, List.size_toArray, hJl, HZL.out]; exact ⟨refSize, rfl⟩)
      have HJ1 := Lib.hid (show JL.toArray.all (·.oneCell') = true by rw [hJL]; exact all_oneC (rC_one _))
      have HTj := Lib.hid hTj
      have HJL := Lib.hid hJL
      obtain ⟨XL, hXL⟩ : ∃ z, z = Lib.byteCells Tj.1.d := ⟨_, rfl⟩
      have HXn := Lib.hid (show (Try.prog.info? 24).map (·.size) = some XL.length by rw [hXL, Lib.byteCells_length, hJd]; exact digInfo)
      obtain ⟨qd, hqd⟩ : ∃ z, decide (Tj.1.d = dg) = z := ⟨_, rfl⟩
      have Hqd := Lib.hid hqd
      have Heq := Lib.hid (fun w : World => show (Op.equalIn 10000 24 (.agg XL.toArray) (.agg GL.toArray)).run Try.prog w = .ok qd w by rw [← hqd]; exact dig_eqvS hJd Hdg.out hXL HGL.out w)
      have HXr := Lib.hid (fun (w' : World) (g : Nat) (h : Arr w' g 26 JL) => show w'.rangeAt g 0 XL from fun j v hj => by rw [h.cell]; exact rC_dig hJd hJL j v (by rw [← hXL]; exact hj))
      obtain ⟨tb, htb⟩ : ∃ z, Tj.2 = z := ⟨_, rfl⟩
      rw [htb] at Hrd
      have Htb := Lib.hid htb
      clear hTj hJL hJd hJl hXL hqd htb
      go_wp2_with fail
      refine Calls.mono Hrd.out ?_
      rintro e w3 ⟨rfl, hb3⟩
      have Hb3 := Lib.hid (Hbr.out.trans (hb3.mono Hbr.out.size))
      have HG3 := Lib.hid (HG.out.up hb3)
      have HZ3 := Lib.hid (HZ.out.up hb3)
      obtain ⟨g, hg⟩ : ∃ z, z = w3.heap.size := ⟨_, rfl⟩
      have Hg := Lib.hid hg
      have hgag : ga < g := by rw [hg]; exact HZ3.out.lt
      clear hb3 hg Hrd
      go_upto_region 5 with (first | (refine wpList_allocZC rfl 26 rfl ZL.toArray (HZ0.out _) ?_) | (change wpList _ _ _ _ _ (w3.alloc (.cells ZL.toArray 26)); refine wpList_store_row rfl _ _ _ rfl w3.heap.size JL.toArray rfl rfl 26 ZL.toArray (heap_alloc_new w3 _) HJi.out.1 HJi.out.2 HJ1.out ?_; obtain ⟨w4, hw4⟩ : ∃ x, x = (w3.alloc (.cells ZL.toArray 26)).setRow w3.heap.size JL.toArray := ⟨_, rfl⟩; rw [← hw4]; obtain ⟨hP4, hb4⟩ := alloc_row w3 26 ZL.toArray JL; rw [← hw4] at hP4 hb4; clear hw4))
      rw [← Hg.out] at hP4 ⊢
      have Hb4 := Lib.hid (Hb3.out.trans (hb4.mono Hb3.out.size))
      have HG4 := Lib.hid (HG3.out.up hb4)
      have HZ4 := Lib.hid (HZ3.out.up hb4)
      have HX4 := Lib.hid (HXr.out w4 g hP4)
      have HG4r := Lib.hid (show w4.rangeAt w.heap.size 0 GL from HG4.out.range)
      clear hb4 Hb3 HG3 HZ3
      by_cases hm : tb = true ∧ qd = true
      · obtain ⟨rfl, rfl⟩ := hm
        have hTe : T = (Tj.1, 0) := by
          have hit : (tellF (S.getD j [])).2 = true ∧ (tellF (S.getD j [])).1.d = dg := ⟨by rw [← HTj.out]; exact Htb.out, by rw [← HTj.out]; exact of_decide_eq_true Hqd.out⟩
          rw [HT.out]
          unfold findF
          rcases Nat.eq_zero_or_pos j with e | e
          · subst e; rw [if_pos hit, HTj.out]
          · obtain rfl : j = 1 := by omega
            rw [if_neg (Hno.out 0 (by omega)), if_pos hit, HTj.out]
        have hRe : RL = JL := by rw [HRL.out, hTe, HJL.out]
        have HTe := Lib.hid hTe
        subst hRe
        have Hset := Lib.hid (HZ4.out.setRow RL)
        have Hbe := Lib.hid (show Below w.heap.size w (w4.setRow ga RL.toArray) from Hb4.out.trans (((Only.refl (fun k => k = ga) w4).setRow (.inl rfl) RL.toArray).below Hb4.out.size (by rintro k rfl; omega)))
        clear hTe
        go_wp2_with (first
          | ((with_reducible refine wpList_at 21 (by rfl) ?_); refine wpList_load_mid_ifC (by rfl) 24 _ rfl g 0 rfl XL _ HX4.out Try.underlying24 rfl HXn.out ?_)
          | ((with_reducible refine wpList_at 22 (by rfl) ?_); refine wpList_load_mid_ifC (by rfl) 24 _ rfl w.heap.size 0 rfl GL _ HG4r.out Try.underlying24 rfl HGn.out ?_)
          | ((with_reducible refine wpList_at 23 (by rfl) ?_); refine wpList_eql_ifC (by rfl) 24 _ _ _ rfl XL GL rfl rfl true Heq.out gtDg ?_)
          | ((with_reducible refine wpList_at 25 (by rfl) ?_); refine wpList_load_row rfl _ _ rfl g rfl 26 RL.toArray (0, 0) _ hP4 Try.underlying26 rfl HJi.out.1 ?_)
          | (refine wpList_store_row rfl _ _ _ rfl ga RL.toArray rfl rfl 26 ZL.toArray HZ4.out HJi.out.1 HJi.out.2 HJ1.out ?_))
        (try simp only [Exit.inBlock, Exit.then])
        obtain ⟨V, hV⟩ : ∃ V, V = Value.tuple #[.agg RL.toArray, .int .i64 0] := ⟨_, rfl⟩
        refine bodyPost_ret (v := V) ?hx1 ?h2 ?h3
        case hx1 => rw [hV]; exact results_cell2 (fn := Try.f24) (by rfl) _ _ ga 26 RL.toArray (0, 0) _ (by rfl) _ (by rfl) Hset.out Try.underlying26 rfl HJi.out.1
        case h2 => rfl
        case h3 => exact ⟨by rw [hV, HTe.out], Hbe.out⟩
      · have Hno2 := Lib.hid (show ∀ i, i < j + 1 → ¬ ((tellF (S.getD i [])).2 = true ∧ (tellF (S.getD i [])).1.d = dg) from fun i hi hh => by
          by_cases e : i < j
          · exact Hno.out i e hh
          · obtain rfl : i = j := by omega
            rw [← HTj.out] at hh
            exact hm ⟨by rw [← Htb.out]; exact hh.1, by rw [← Hqd.out]; exact decide_eq_true hh.2⟩)
        cases tb with
        | false =>
          clear hm
          go_wp2_with fail
          go_roundw
          case rel => exact ⟨j + 1, by omega, by go_num, Hb4, HG4, HZ4, Hno2⟩
          case measure => simp [Go.RowKit.intOf]; omega
        | true =>
          obtain rfl : qd = false := by
            cases qd with
            | false => rfl
            | true => exact absurd ⟨rfl, rfl⟩ hm
          clear hm
          go_wp2_with (first
            | ((with_reducible refine wpList_at 21 (by rfl) ?_); refine wpList_load_mid_ifC (by rfl) 24 _ rfl g 0 rfl XL _ HX4.out Try.underlying24 rfl HXn.out ?_)
            | ((with_reducible refine wpList_at 22 (by rfl) ?_); refine wpList_load_mid_ifC (by rfl) 24 _ rfl w.heap.size 0 rfl GL _ HG4r.out Try.underlying24 rfl HGn.out ?_)
            | ((with_reducible refine wpList_at 23 (by rfl) ?_); refine wpList_eql_ifC (by rfl) 24 _ _ _ rfl XL GL rfl rfl false Heq.out gtDg ?_))
          go_roundw
          case rel => exact ⟨j + 1, by omega, by go_num, Hb4, HG4, HZ4, Hno2⟩
          case measure => simp [Go.RowKit.intOf]; omega
    · obtain rfl : j = 2 := by omega
      have hd1 : decide (((2 : Nat) : Int) < (2 : Int)) = false := by simp
      have hTe : T = (zR, 7) := by
        rw [HT.out]
        unfold findF
        rw [if_neg (Hno.out 0 (by omega)), if_neg (Hno.out 1 (by omega))]
      have hRe : RL = ZL := by rw [HRL.out, hTe, HZL.out]; rfl
      have HTe := Lib.hid hTe
      have HRe := Lib.hid hRe
      have Hset := Lib.hid (HZ.out.setRow ZL)
      have Hbe := Lib.hid (show Below w.heap.size w (wr.setRow ga ZL.toArray) from Hbr.out.trans (((Only.refl (fun k => k = ga) wr).setRow (.inl rfl) ZL.toArray).below Hbr.out.size (by rintro k rfl; omega)))
      clear hTe hRe
      go_wp2_with (first
        | (refine wpList_builtD rfl _ _ rfl [] rfl ZL.toArray HZb.out ?_)
        | (refine wpList_store_row rfl _ _ _ rfl ga ZL.toArray rfl rfl 26 ZL.toArray HZ.out HZi.out rfl HZ1.out ?_))
      (try simp only [Exit.inBlock, Exit.then])
      obtain ⟨V, hV⟩ : ∃ V, V = Value.tuple #[.agg ZL.toArray, .int .i64 7] := ⟨_, rfl⟩
      refine bodyPost_ret (v := V) ?hx1 ?h2 ?h3
      case hx1 => rw [hV]; exact results_cell2 (fn := Try.f24) (by rfl) _ _ ga 26 ZL.toArray (0, 0) _ (by rfl) _ (by rfl) Hset.out Try.underlying26 rfl HZi.out
      case h2 => rfl
      case h3 => exact ⟨by rw [hV, HTe.out, HRe.out], Hbe.out⟩

end Go.Proofs.Ytkepfigoeaheaaa

namespace Go.Proofs.Ytkepfigoeaheaaa
open Go.RowKit
set_option linter.unusedVariables false
set_option linter.unusedSimpArgs false


set_option maxHeartbeats 16000000 in
set_option maxRecDepth 100000 in
theorem swr_any (F : Nat → Prop) (k n : Nat) (S : List (List UInt8)) (W : List WrF) (w : World) (h : SDk F w k n S W) (hn : 2 ≤ n) (ep : Nat) (hep : ep < 18446744073709551616) (r : RefF) (hr : RefW r) (DL : List Value) (hDL : DL = rC r) (hW : W.length + 1 ≤ 100000) :
    Calls Try.prog 25 #[.pointer (some ⟨k, 0, none⟩), .int .u64 (ep : Nat), .agg DL.toArray] w fun e w' => Only F w w' ∧ ((OkR r ∧ e = .returned (.int .i64 0) ∧ SDk (newF F w w') w' k n (S.set (ep % 2) (layR r)) (W ++ [(ep % 2, layR r, false)])) ∨ (¬ OkR r ∧ e = .returned (.int .i64 1) ∧ SDk (newF F w w') w' k n S W)) := by
  obtain ⟨W1, hW1⟩ : ∃ z, z = w.alloc (.cells DL.toArray 26) := ⟨_, rfl⟩
  have hb1 : Below w.heap.size w W1 := by rw [hW1]; exact (Below.refl _ _).alloc (Nat.le_refl _) _
  have hR : Arr W1 w.heap.size 26 DL := by rw [hW1]; exact Arr.new w _ _
  have HD1 := Lib.hid (h.up hb1)
  obtain ⟨LL, hLL⟩ : ∃ z, z = Lib.byteCells (layR r) := ⟨_, rfl⟩
  obtain ⟨ZL, hZL⟩ : ∃ z, z = refZ := ⟨_, rfl⟩
  obtain ⟨ZS, hZS⟩ : ∃ z, z = Lib.byteCells zero64 := ⟨_, rfl⟩
  have HLl := Lib.hid (show LL.length = 64 by rw [hLL, Lib.byteCells_length]; exact layR_length hr.d)
  have HLi := Lib.hid (show (Try.prog.info? 49).map (·.size) = some LL.toArray.size ∧ ZS.toArray.size = LL.toArray.size by rw [List.size_toArray, List.size_toArray, HLl.out, hZS]; exact ⟨secInfo, rfl⟩)
  have HLn := Lib.hid (show (Try.prog.info? 49).map (·.size) = some LL.length by rw [HLl.out]; exact secInfo)
  have HL1 := Lib.hid (show LL.toArray.all (·.oneCell') = true by rw [hLL]; exact sec_one _)
  have HZS := Lib.hid (fun w : World => show (zeroValue 49).run Try.prog w = .ok (.agg ZS.toArray) w by rw [hZS]; kernel_rfl)
  have HZ0 := Lib.hid (fun w : World => show (zeroValue 26).run Try.prog w = .ok (.agg ZL.toArray) w by rw [hZL]; exact refZero w)
  obtain ⟨T, hT⟩ : ∃ T, T = tellF (layR r) := ⟨_, rfl⟩
  obtain ⟨TL, hTL⟩ : ∃ z, z = rC T.1 := ⟨_, rfl⟩
  have hTw := tell_w (layR r)
  rw [← hT] at hTw
  have hTl : TL.length = 34 := by rw [hTL]; exact rC_length hTw.1
  have HTi := Lib.hid (show (Try.prog.info? 26).map (·.size) = some TL.toArray.size ∧ ZL.toArray.size = TL.toArray.size by rw [List.size_toArray, List.size_toArray, hTl, hZL]; exact ⟨refSize, rfl⟩)
  have HTn := Lib.hid (show (Try.prog.info? 26).map (·.size) = some TL.length by rw [hTl]; exact refSize)
  have HT1 := Lib.hid (show TL.toArray.all (·.oneCell') = true by rw [hTL]; exact all_oneC (rC_one _))
  have HDn := Lib.hid (show (Try.prog.info? 26).map (·.size) = some DL.length by rw [hDL, rC_length hr]; exact refSize)
  obtain ⟨q, hq1, hq2⟩ := ref_cmp hTw.2.2 hr.d hTL hDL
  have Hq := Lib.hid hq1
  have Hqo := Lib.hid (show q = true ↔ OkR r by
    rw [hq2]
    exact ⟨fun e => by rw [← e]; exact hTw.2.1, fun h => by rw [hT, tell_lay h hr.d]⟩)
  obtain ⟨a, ha⟩ : ∃ a, ep % 2 = a := ⟨_, rfl⟩
  have ha2 : a < 2 := by omega
  have haI : (ep : Int) % 2 = (a : Int) := by omega
  have haT : (ep : Int).tmod 2 = (a : Int) := by rw [Int.tmod_eq_emod_of_nonneg (by omega)]; exact haI
  have haw : IntKind.i64.wrap (a : Int) = (a : Int) := IntWalk.i64_in _ (by omega)
  have HW := Lib.hid hW1
  have HDL := Lib.hid hDL
  have HLL := Lib.hid hLL
  have HTe := Lib.hid hT
  have HTL := Lib.hid hTL
  have Hr := Lib.hid hr
  have Hk := Lib.hid (show a < n ∧ W.length + 1 ≤ 100000 from ⟨by omega, hW⟩)
  have HF := Lib.hid h.lt
  rw [ha]
  clear hW1 hDL hLL hZL hZS hT hTL hTw hTl hq1 hq2 hr h ha hn hW
  go_enter Try.func25, Try.ntmps25
  go_upto_region 1 with fail
  rw [← HW.out]
  clear HW
  obtain ⟨gr, hgr⟩ : ∃ z, w.heap.size = z := ⟨_, rfl⟩
  rw [hgr] at hR ⊢
  have Hgr := Lib.hid hgr
  have Hb1 := Lib.hid hb1
  have Hlay := Lib.hid (lay_any r Hr.out DL LL HDL.out HLL.out W1)
  clear hgr hb1
  go_wp2_with (first | ((with_reducible refine wpList_at 10 (by rfl) ?_); refine wpList_load_mid_ifC (by rfl) 26 _ rfl gr 0 rfl DL _ (Arr.range hR) Try.underlying26 rfl HDn.out ?_))
  refine Calls.mono Hlay.out ?_
  rintro e w2 ⟨rfl, hb2⟩
  have HR2 := Lib.hid (hR.up hb2)
  have HD2 := Lib.hid (HD1.out.up hb2)
  have Hb2 := Lib.hid (Hb1.out.trans (hb2.mono Hb1.out.size))
  obtain ⟨g, hg⟩ : ∃ z, z = w2.heap.size := ⟨_, rfl⟩
  have Hg := Lib.hid hg
  clear hb2 hR HD1 Hb1 Hlay hg
  go_upto_region 2 with (first | (refine wpList_allocZC rfl 49 rfl ZS.toArray (HZS.out _) ?_) | (change wpList _ _ _ _ _ (w2.alloc (.cells ZS.toArray 49)); refine wpList_store_row rfl _ _ _ rfl w2.heap.size LL.toArray rfl rfl 49 ZS.toArray (heap_alloc_new w2 _) HLi.out.1 HLi.out.2 HL1.out ?_; obtain ⟨w3, hw3⟩ : ∃ x, x = (w2.alloc (.cells ZS.toArray 49)).setRow w2.heap.size LL.toArray := ⟨_, rfl⟩; rw [← hw3]; obtain ⟨hP3, hb3⟩ := alloc_row w2 49 ZS.toArray LL; rw [← hw3] at hP3 hb3; clear hw3))
  rw [← Hg.out] at hP3 ⊢
  have HR3 := Lib.hid (HR2.out.up hb3)
  have HD3 := Lib.hid (HD2.out.up hb3)
  have Hb3 := Lib.hid (Hb2.out.trans (hb3.mono Hb2.out.size))
  have Htell := Lib.hid (tell_any (layR r) (layR_length Hr.out.d) LL HLL.out w3)
  rw [← HTe.out, ← HTL.out] at Htell
  clear hb3 HR2 HD2 Hb2
  go_wp2_with (first | ((with_reducible refine wpList_at 13 (by rfl) ?_); refine wpList_load_mid_ifC (by rfl) 49 _ rfl g 0 rfl LL _ (Arr.range hP3) Try.underlying49 rfl HLn.out ?_))
  refine Calls.mono Htell.out ?_
  rintro e w4 ⟨rfl, hb4⟩
  have HP4 := Lib.hid (hP3.up hb4)
  have HR4 := Lib.hid (HR3.out.up hb4)
  have HD4 := Lib.hid (HD3.out.up hb4)
  have Hb4 := Lib.hid (Hb3.out.trans (hb4.mono Hb3.out.size))
  obtain ⟨g2, hg2⟩ : ∃ z, z = w4.heap.size := ⟨_, rfl⟩
  have Hg2 := Lib.hid hg2
  clear hb4 hP3 HR3 HD3 Hb3 hg2 Htell
  go_upto_region 3 with (first | (refine wpList_allocZC rfl 26 rfl ZL.toArray (HZ0.out _) ?_) | (change wpList _ _ _ _ _ (w4.alloc (.cells ZL.toArray 26)); refine wpList_store_row rfl _ _ _ rfl w4.heap.size TL.toArray rfl rfl 26 ZL.toArray (heap_alloc_new w4 _) HTi.out.1 HTi.out.2 HT1.out ?_; obtain ⟨w5, hw5⟩ : ∃ x, x = (w4.alloc (.cells ZL.toArray 26)).setRow w4.heap.size TL.toArray := ⟨_, rfl⟩; rw [← hw5]; obtain ⟨hP5, hb5⟩ := alloc_row w4 26 ZL.toArray TL; rw [← hw5] at hP5 hb5; clear hw5))
  rw [← Hg2.out] at hP5 ⊢
  have HP5s := Lib.hid (HP4.out.up hb5)
  have HR5 := Lib.hid (HR4.out.up hb5)
  have HD5 := Lib.hid (HD4.out.up hb5)
  have Hb5 := Lib.hid (Hb4.out.trans (hb5.mono Hb4.out.size))
  have HR5r := Lib.hid (show w5.rangeAt gr 0 DL from HR5.out.range)
  have HP5r := Lib.hid (show w5.rangeAt g 0 LL from HP5s.out.range)
  clear hb5 HP4 HR4 HD4 Hb4 HR5
  cases q with
  | false =>
    have Hno := Lib.hid (show ¬ OkR r from fun h => by have := Hqo.out.2 h; cases this)
    go_wp2_with (first
      | ((with_reducible refine wpList_at 17 (by rfl) ?_); refine wpList_load_mid_ifC (by rfl) 26 _ rfl g2 0 rfl TL _ (Arr.range hP5) Try.underlying26 rfl HTn.out ?_)
      | ((with_reducible refine wpList_at 18 (by rfl) ?_); refine wpList_load_mid_ifC (by rfl) 26 _ rfl gr 0 rfl DL _ HR5r.out Try.underlying26 rfl HDn.out ?_)
      | ((with_reducible refine wpList_at 19 (by rfl) ?_); refine wpList_neq_ifC (by rfl) 26 _ _ _ rfl TL DL rfl rfl false Hq.out gtR ?_))
    go_ret
    exact ⟨Only.of_below Hb5.out, .inr ⟨Hno.out, rfl, HD5.out.more (fun b hb => .inl hb) (fun b hb => hb.elim (HD5.out.lt b) (fun h => h.2))⟩⟩
  | true =>
    have Hyes := Lib.hid (Hqo.out.1 rfl)
    have Hwr := Lib.hid (HD5.out.write a Hk.out.1 (layR r) (layR_length Hr.out.d) LL HLL.out Hk.out.2)
    go_wp2_with (first
      | ((with_reducible refine wpList_at 17 (by rfl) ?_); refine wpList_load_mid_ifC (by rfl) 26 _ rfl g2 0 rfl TL _ (Arr.range hP5) Try.underlying26 rfl HTn.out ?_)
      | ((with_reducible refine wpList_at 18 (by rfl) ?_); refine wpList_load_mid_ifC (by rfl) 26 _ rfl gr 0 rfl DL _ HR5r.out Try.underlying26 rfl HDn.out ?_)
      | ((with_reducible refine wpList_at 19 (by rfl) ?_); refine wpList_neq_ifC (by rfl) 26 _ _ _ rfl TL DL rfl rfl true Hq.out gtR ?_)
      | ((with_reducible refine wpList_at 24 (by rfl) ?_); refine wpList_load_mid_ifC (by rfl) 49 _ rfl g 0 rfl LL _ HP5r.out Try.underlying49 rfl HLn.out ?_))
    refine Calls.mono Hwr.out ?_
    rintro e w6 ⟨rfl, hD6, hO6⟩
    have hlt6 := hD6.lt
    have HD6 := Lib.hid (hD6.more (F' := newF F w w6) (fun b hb => hb.elim (fun h => .inl h) (fun h => .inr ⟨by have := Hb5.out.size; omega, h.2⟩)) (fun b hb => hb.elim (fun h => hlt6 b (.inl h)) (fun h => h.2)))
    have HO6 := Lib.hid (show Only F w w6 from ⟨hO6.os.trans Hb5.out.os, hO6.tape.trans Hb5.out.tape, hO6.output.trans Hb5.out.output, Nat.le_trans Hb5.out.size hO6.size, fun b hb hn => (hO6.block b (Nat.lt_of_lt_of_le hb Hb5.out.size) hn).trans (Hb5.out.block b hb)⟩)
    clear hD6 hO6 hP5 hlt6
    go_wp2_with fail
    go_ret
    exact ⟨HO6.out, .inl ⟨Hyes.out, rfl, HD6.out⟩⟩

end Go.Proofs.Ytkepfigoeaheaaa

namespace Go.Proofs.Ytkepfigoeaheaaa
open Go.RowKit
set_option linter.unusedVariables false
set_option linter.unusedSimpArgs false


def sevenR : RefF := ⟨7 :: List.replicate 31 0, 300, 9⟩
theorem seven_w : RefW sevenR := ⟨rfl, by unfold I64 sevenR; simp, by unfold I64 sevenR; simp⟩
theorem seven_ok : OkR sevenR := by unfold OkR sevenR; simp
theorem seven_built : Try.prog.built 24 [(0, .int .u8 7)] = some (Lib.byteCells sevenR.d).toArray := by kernel_rfl
theorem tell_zero : (tellF zero64).2 = false := by
  cases h : (tellF zero64).2 with
  | false => rfl
  | true =>
    have h1 : tellF zero64 = ((tellF zero64).1, true) := Prod.ext rfl h
    have h2 := (tell_yes h1).2.2
    have h3 := congrArg List.head? h2
    simp [layR, zero64] at h3
theorem rep_getD {n i : Nat} (hi : i < n) : (List.replicate n zero64).getD i [] = zero64 := by simp [List.getD, hi]
theorem find_zero (n : Nat) (hn : 2 ≤ n) (dg : List UInt8) : findF (List.replicate n zero64) dg = (zR, 7) := by
  unfold findF
  rw [rep_getD (show 0 < n by omega), rep_getD (show 1 < n by omega), tell_zero]
  simp
theorem getD_set_same {α : Type} {S : List α} {i : Nat} (x z : α) (hi : i < S.length) : (S.set i x).getD i z = x := by simp [List.getD, hi]
theorem getD_set_other {α : Type} {S : List α} {i j : Nat} (x z : α) (h : i ≠ j) : (S.set i x).getD j z = S.getD j z := by simp [List.getD, List.getElem?_set_ne h]
/-- A Ref told by one slot is found, unless the slot ahead tells another one with that digest. -/
theorem find_there {S : List (List UInt8)} {r : RefF} (h : OkR r) (hd : r.d.length = 32) (i : Nat) (hi : i < 2) (hS : S.getD i [] = layR r) (ho : i = 1 → ¬ ((tellF (S.getD 0 [])).2 = true ∧ (tellF (S.getD 0 [])).1.d = r.d)) : findF S r.d = (r, 0) := by
  have ht := tell_lay h hd
  unfold findF
  rcases Nat.eq_zero_or_pos i with e | e
  · subst e; rw [hS, ht, if_pos ⟨rfl, rfl⟩]
  · obtain rfl : i = 1 := by omega
    rw [if_neg (ho rfl), hS, ht, if_pos ⟨rfl, rfl⟩]
theorem ref_eqvS {a b : RefF} (ha : a.d.length = 32) (hb : b.d.length = 32) {XL YL : List Value} (hX : XL = rC a) (hY : YL = rC b) (h : a = b) : ∀ w, (Op.equalIn 10000 26 (.agg XL.toArray) (.agg YL.toArray)).run Try.prog w = .ok true w := by
  obtain ⟨r, h1, h2⟩ := ref_cmp ha hb hX hY
  have := h2.2 h
  rw [← this]
  exact h1
theorem newF_not {F : Nat → Prop} {w w' : World} {g : Nat} (h : ¬ F g) (hg : g < w.heap.size) : ¬ newF F w w' g := fun hb => hb.elim h (fun hb => by omega)
theorem wpList_built_if {P : Program} {ops : Array Oper} {rest : List Oper} {o : Oper} {a : Act} {w : World} {Q : Exit → Act → World → Prop} (hw : Region.wanted o (yielded ops a.tmps) = true) (t : TypeId) (parts : Array (Nat × Operand)) (ho : o.op = .build t parts)
    (ps : List (Nat × Value)) (hp : parts.toList.map (fun x => (x.1, a.eval x.2)) = ps) (cells : Array Value) (hf : P.built t ps = some cells)
    (h : wpList P ops Q rest (a.put o.dst (.agg cells)) w) : wpList P ops Q (o :: rest) a w :=
  wpList_step fun K hK => by
    rw [if_pos hw]
    unfold Oper.wp execOp
    simp only [ho, Sem.run_bind, run_build w t _ cells (show P.built t (parts.map fun (i, x) => (i, a.eval x)).toList = some cells by rw [← hf, ← hp]; simp), Result.andThen_ok, Sem.run_pure]
    exact hK _ _ h


set_option maxHeartbeats 16000000 in
set_option maxRecDepth 100000 in
theorem speaks14_any (w : World) : Calls Try.prog 19 #[] w fun e w' => e = .returned (.bool true) ∧ Below w.heap.size w w' := by
  obtain ⟨XL, hXL⟩ : ∃ z, z = Lib.byteCells sevenR.d := ⟨_, rfl⟩
  obtain ⟨DL, hDL⟩ : ∃ z, z = rC sevenR := ⟨_, rfl⟩
  obtain ⟨ZL, hZL⟩ : ∃ z, z = refZ := ⟨_, rfl⟩
  obtain ⟨ZM, hZM⟩ : ∃ z, z = refZ := ⟨_, rfl⟩
  have HXb := Lib.hid (show Try.prog.built 24 [(0, .int .u8 7)] = some XL.toArray by rw [hXL]; exact seven_built)
  have HDb := Lib.hid (show Try.prog.built 26 [(0, .agg XL.toArray), (1, .int .i64 300), (2, .int .i64 9)] = some DL.toArray by rw [hDL]; exact ref_built sevenR.d XL hXL rfl 300 9)
  have HZb := Lib.hid (show Try.prog.built 26 [] = some ZM.toArray by rw [hZM]; exact ref_built0)
  have HZ0 := Lib.hid (fun w : World => show (zeroValue 26).run Try.prog w = .ok (.agg ZL.toArray) w by rw [hZL]; exact refZero w)
  have HXn := Lib.hid (show (Try.prog.info? 24).map (·.size) = some XL.length by rw [hXL]; exact digInfo)
  have HDi := Lib.hid (show (Try.prog.info? 26).map (·.size) = some DL.toArray.size ∧ ZL.toArray.size = DL.toArray.size by rw [hDL, hZL]; exact ⟨refSize, rfl⟩)
  have HDn := Lib.hid (show (Try.prog.info? 26).map (·.size) = some DL.length by rw [hDL]; exact refSize)
  have HD1 := Lib.hid (show DL.toArray.all (·.oneCell') = true by rw [hDL]; exact all_oneC (rC_one _))
  have HMi := Lib.hid (show (Try.prog.info? 26).map (·.size) = some ZM.toArray.size ∧ ZL.toArray.size = ZM.toArray.size by rw [hZM, hZL]; exact ⟨refSize, rfl⟩)
  have HMn := Lib.hid (show (Try.prog.info? 26).map (·.size) = some ZM.length by rw [hZM]; exact refSize)
  have HM1 := Lib.hid (show ZM.toArray.all (·.oneCell') = true by rw [hZM]; exact all_oneC (refC_cell _ _ _))
  have Hqd := Lib.hid (ref_eqvS (a := sevenR) (b := sevenR) rfl rfl hDL hDL rfl)
  have Hqz := Lib.hid (ref_eqvS (a := zR) (b := zR) rfl rfl (show ZM = rC zR from hZM) (show ZM = rC zR from hZM) rfl)
  have HXr := Lib.hid (fun (w' : World) (g : Nat) (h : Arr w' g 26 DL) => show w'.rangeAt g 0 XL from fun j v hj => by rw [h.cell]; exact rC_dig (r := sevenR) rfl hDL j v (by rw [← hXL]; exact hj))
  have HXL := Lib.hid hXL
  have HDL := Lib.hid hDL
  have HZM := Lib.hid hZM
  clear hXL hDL hZL hZM
  go_enter Try.func19, Try.ntmps19
  go_wp2_with fail
  refine Calls.mono (show Calls Try.prog 20 #[.int .i64 3] w (NewPost 3 w) from new_yes 3 w (by omega) (by omega)) ?_
  rintro e w1 ⟨k, rfl, hD1, hB1⟩
  obtain ⟨F, hF⟩ : ∃ F, F = newF (fun _ => False) w w1 := ⟨_, rfl⟩
  have hK1 := sdk_new hD1
  rw [← hF] at hK1
  have HF := Lib.hid (show ∀ b, F b → w.heap.size ≤ b ∧ b < w1.heap.size from fun b hb => by rw [hF] at hb; exact hb.elim (fun h => h.elim) id)
  have HK1 := Lib.hid hK1
  have Hb1 := Lib.hid hB1
  obtain ⟨S, hS⟩ : ∃ S, S = List.replicate 3 zero64 := ⟨_, rfl⟩
  rw [← hS] at HK1
  have HS := Lib.hid hS
  obtain ⟨g, hg⟩ : ∃ z, z = w1.heap.size := ⟨_, rfl⟩
  have Hg := Lib.hid hg
  clear hD1 hB1 hS hg hF hK1
  go_upto_region 5 with (first
    | (refine wpList_builtD rfl _ _ rfl [(0, .int .u8 7)] rfl XL.toArray HXb.out ?_)
    | (refine wpList_builtD rfl _ _ rfl [(0, .agg XL.toArray), (1, .int .i64 300), (2, .int .i64 9)] rfl DL.toArray HDb.out ?_)
    | (refine wpList_allocZC rfl 26 rfl ZL.toArray (HZ0.out _) ?_) | (change wpList _ _ _ _ _ (w1.alloc (.cells ZL.toArray 26)); refine wpList_store_row rfl _ _ _ rfl w1.heap.size DL.toArray rfl rfl 26 ZL.toArray (heap_alloc_new w1 _) HDi.out.1 HDi.out.2 HD1.out ?_; obtain ⟨w2, hw2⟩ : ∃ x, x = (w1.alloc (.cells ZL.toArray 26)).setRow w1.heap.size DL.toArray := ⟨_, rfl⟩; rw [← hw2]; obtain ⟨hP2, hb2⟩ := alloc_row w1 26 ZL.toArray DL; rw [← hw2] at hP2 hb2; clear hw2))
  rw [← Hg.out] at hP2 ⊢
  have HK2 := Lib.hid (HK1.out.up hb2)
  have Hb2 := Lib.hid (Hb1.out.trans (hb2.mono Hb1.out.size))
  have Hf := Lib.hid (sfind_any F k 3 S [] w2 HK2.out (by omega) sevenR.d rfl XL HXL.out (zR, 7) (by rw [HS.out]; exact (find_zero 3 (by omega) _).symm) ZM HZM.out)
  have HX2 := Lib.hid (HXr.out w2 g hP2)
  clear hb2 HK1 Hb1
  go_wp2_with (first | ((with_reducible refine wpList_at 24 (by rfl) ?_); refine wpList_load_mid_ifC (by rfl) 24 _ rfl g 0 rfl XL _ HX2.out Try.underlying24 rfl HXn.out ?_))
  refine Calls.mono Hf.out ?_
  rintro e w3 ⟨rfl, hb3⟩
  have HP3 := Lib.hid (hP2.up hb3)
  have HK3 := Lib.hid (HK2.out.up hb3)
  have Hb3 := Lib.hid (Hb2.out.trans (hb3.mono Hb2.out.size))
  obtain ⟨g4, hg4⟩ : ∃ z, z = w3.heap.size := ⟨_, rfl⟩
  have Hg4 := Lib.hid hg4
  have Hgg := Lib.hid (show g < g4 by rw [hg4]; exact HP3.out.lt)
  clear hb3 hP2 HK2 Hb2 hg4 Hf HX2
  go_upto_region 6 with (first | (refine wpList_allocZC rfl 26 rfl ZL.toArray (HZ0.out _) ?_) | (change wpList _ _ _ _ _ (w3.alloc (.cells ZL.toArray 26)); refine wpList_store_row rfl _ _ _ rfl w3.heap.size ZM.toArray rfl rfl 26 ZL.toArray (heap_alloc_new w3 _) HMi.out.1 HMi.out.2 HM1.out ?_; obtain ⟨w4, hw4⟩ : ∃ x, x = (w3.alloc (.cells ZL.toArray 26)).setRow w3.heap.size ZM.toArray := ⟨_, rfl⟩; rw [← hw4]; obtain ⟨hP4, hb4⟩ := alloc_row w3 26 ZL.toArray ZM; rw [← hw4] at hP4 hb4; clear hw4))
  rw [← Hg4.out] at hP4 ⊢
  have HP4 := Lib.hid (HP3.out.up hb4)
  have HK4 := Lib.hid (HK3.out.up hb4)
  have Hb4 := Lib.hid (Hb3.out.trans (hb4.mono Hb3.out.size))
  have HM4 := Lib.hid hP4
  have HP4r := Lib.hid (show w4.rangeAt g 0 DL from HP4.out.range)
  clear hb4 HP3 HK3 Hb3 hP4
  have Hwr := Lib.hid (swr_any F k 3 S [] w4 HK4.out (by omega) 3 (by omega) sevenR seven_w DL HDL.out (by simp))
  go_wp2_with (first | ((with_reducible refine wpList_at 29 (by rfl) ?_); refine wpList_load_mid_ifC (by rfl) 26 _ rfl g 0 rfl DL _ HP4r.out Try.underlying26 rfl HDn.out ?_))
  refine Calls.mono Hwr.out ?_
  rintro e w5 ⟨hO5, hres⟩
  obtain ⟨rfl, hK5⟩ : e = .returned (.int .i64 0) ∧ SDk (newF F w4 w5) w5 k 3 (S.set 1 (layR sevenR)) ([] ++ [(1, layR sevenR, false)]) := by
    rcases hres with ⟨_, he, hk⟩ | ⟨h, _⟩
    · exact ⟨he, hk⟩
    · exact absurd seven_ok h
  have HP5 := Lib.hid (HP4.out.only hO5 (fun h => by have := (HF.out g h).2; have := Hg.out; omega))
  have HM5 := Lib.hid (HM4.out.only hO5 (fun h => by have := (HF.out g4 h).2; have := Hg.out; have := Hgg.out; omega))
  have Hb5 := Lib.hid (show Below w.heap.size w w5 from Hb4.out.trans (hO5.below Hb4.out.size (fun b hb => (HF.out b hb).1)))
  have HK5 := Lib.hid hK5
  have HX5 := Lib.hid (HXr.out w5 g HP5.out)
  have Hf := Lib.hid (sfind_any _ k 3 (S.set 1 (layR sevenR)) _ w5 HK5.out (by omega) sevenR.d rfl XL HXL.out (sevenR, 0) (by
    refine (find_there seven_ok rfl 1 (by omega) (getD_set_same _ _ (by rw [HS.out]; simp)) (fun _ h => ?_)).symm
    rw [getD_set_other _ _ (by omega), HS.out, rep_getD (show 0 < 3 by omega), tell_zero] at h
    cases h.1) DL HDL.out)
  clear hO5 hres hK5 HP4 HM4 HP4r HK4 Hb4 Hwr
  go_wp2_with (first | ((with_reducible refine wpList_at 34 (by rfl) ?_); refine wpList_load_mid_ifC (by rfl) 24 _ rfl g 0 rfl XL _ HX5.out Try.underlying24 rfl HXn.out ?_))
  refine Calls.mono Hf.out ?_
  rintro e w6 ⟨rfl, hb6⟩
  have HP6 := Lib.hid (HP5.out.up hb6)
  have HM6 := Lib.hid (HM5.out.up hb6)
  have Hb6 := Lib.hid (Hb5.out.trans (hb6.mono Hb5.out.size))
  obtain ⟨g8, hg8⟩ : ∃ z, z = w6.heap.size := ⟨_, rfl⟩
  have Hg8 := Lib.hid hg8
  clear hb6 HP5 HM5 Hb5 HK5 hg8 Hf HX5
  go_upto_region 8 with (first | (refine wpList_allocZC rfl 26 rfl ZL.toArray (HZ0.out _) ?_) | (change wpList _ _ _ _ _ (w6.alloc (.cells ZL.toArray 26)); refine wpList_store_row rfl _ _ _ rfl w6.heap.size DL.toArray rfl rfl 26 ZL.toArray (heap_alloc_new w6 _) HDi.out.1 HDi.out.2 HD1.out ?_; obtain ⟨w7, hw7⟩ : ∃ x, x = (w6.alloc (.cells ZL.toArray 26)).setRow w6.heap.size DL.toArray := ⟨_, rfl⟩; rw [← hw7]; obtain ⟨hP7, hb7⟩ := alloc_row w6 26 ZL.toArray DL; rw [← hw7] at hP7 hb7; clear hw7))
  rw [← Hg8.out] at hP7 ⊢
  have HP7 := Lib.hid (show w7.rangeAt g 0 DL from (HP6.out.up hb7).range)
  have HM7 := Lib.hid (show w7.rangeAt g4 0 ZM from (HM6.out.up hb7).range)
  have HY7 := Lib.hid (show w7.rangeAt g8 0 DL from hP7.range)
  have Hb7 := Lib.hid (Hb6.out.trans (hb7.mono Hb6.out.size))
  have q1 : ((7 : Int) == 7) = true := by simp
  have q2 : ((0 : Int) == 0) = true := by simp
  clear hb7 HP6 HM6 Hb6 hP7
  go_wp2_with (first
    | ((with_reducible refine wpList_at 41 (by rfl) ?_); refine wpList_load_mid_ifC (by rfl) 26 _ rfl g4 0 rfl ZM _ HM7.out Try.underlying26 rfl HMn.out ?_)
    | ((with_reducible refine wpList_at 42 (by rfl) ?_); refine wpList_built_if (by rfl) _ _ rfl [] rfl ZM.toArray HZb.out ?_)
    | ((with_reducible refine wpList_at 43 (by rfl) ?_); refine wpList_eql_ifC (by rfl) 26 _ _ _ rfl ZM ZM rfl rfl true Hqz.out gtR ?_)
    | ((with_reducible refine wpList_at 54 (by rfl) ?_); refine wpList_load_mid_ifC (by rfl) 26 _ rfl g8 0 rfl DL _ HY7.out Try.underlying26 rfl HDn.out ?_)
    | ((with_reducible refine wpList_at 55 (by rfl) ?_); refine wpList_load_mid_ifC (by rfl) 26 _ rfl g 0 rfl DL _ HP7.out Try.underlying26 rfl HDn.out ?_)
    | ((with_reducible refine wpList_at 56 (by rfl) ?_); refine wpList_eql_ifC (by rfl) 26 _ _ _ rfl DL DL rfl rfl true Hqd.out gtR ?_))
  go_ret
  exact ⟨rfl, Hb7.out⟩

end Go.Proofs.Ytkepfigoeaheaaa

namespace Go.Proofs.Ytkepfigoeaheaaa
open Go.RowKit
set_option linter.unusedVariables false
set_option linter.unusedSimpArgs false

set_option maxRecDepth 100000
theorem dig_cellsB {H : Type} {enc : TypeId × Value → H} {W : World} {base : Nat} {sp : Nat → Bool} {held : Bool} {m : Nat} {cs : List Value} {x : DataW H × List MemPlace} (hl : cs.length = 32) (h : DataW.trod enc Try.prog W base sp held m 24 cs = some x) : ∃ l : List UInt8, l.length = 32 ∧ cs = Lib.byteCells l := by
  have hr : ∃ l : List UInt8, l.length = 32 ∧ (.agg cs.toArray : Value) = digV l := by
    obtain ⟨xs, m', _, _, hlen, hn, hel⟩ := DataW.trod_array Try.underlying24 h
    have hc1 : Try.prog.cellsOf 5 = 1 := by kernel_rfl
    have hall : ∀ i, i < 32 → ∃ b : UInt8, cs[i]? = some (.int .u8 (b.toNat : Nat)) := by
      intro i hi
      have h1 := hel i hi
      rw [hc1, Nat.mul_one] at h1
      have hx : xs[i]? = some (xs[i]'(by omega)) := List.getElem?_eq_getElem (by omega)
      rw [hx] at h1
      have hd : ((cs.drop i).take 1) = [cs[i]'(by omega)] := by rw [List.drop_eq_getElem_cons (by omega)]; rfl
      rw [hd] at h1
      obtain ⟨k, e, _, hw⟩ := DataW.trod_int Try.underlying5 h1
      have hb := bounds_u8 hw
      simp only [List.cons.injEq, and_true] at e
      refine ⟨k.toNat.toUInt8, ?_⟩
      rw [List.getElem?_eq_getElem (by omega), e, Lib.toUInt8_toNat (by omega), Int.toNat_of_nonneg hb.1]
    have hch : ∃ f : Nat → UInt8, ∀ i, i < 32 → cs[i]? = some (.int .u8 ((f i).toNat : Nat)) := by
      classical
      refine ⟨fun i => if hi : i < 32 then Classical.choose (hall i hi) else 0, fun i hi => ?_⟩
      simp only [dif_pos hi]
      exact Classical.choose_spec (hall i hi)
    obtain ⟨f, hf2⟩ := hch
    refine ⟨(List.range 32).map f, by simp, ?_⟩
    unfold digV
    congr 2
    apply List.ext_getElem?
    intro i
    by_cases hi : i < 32
    · rw [hf2 i hi]
      simp [Lib.byteCells, hi]
    · rw [List.getElem?_eq_none (by omega), List.getElem?_eq_none (by simp [Lib.byteCells]; omega)]
  obtain ⟨l, h1, h2⟩ := hr
  refine ⟨l, h1, ?_⟩
  unfold digV at h2
  injection h2 with h2
  simpa using congrArg Array.toList h2

theorem int_cellB {H : Type} {enc : TypeId × Value → H} {W : World} {base : Nat} {sp : Nat → Bool} {held : Bool} {v : Value} {y : DataW H × List MemPlace} {n : Nat} (h : DataW.trod enc Try.prog W base sp held n 3 [v] = some y) :
    ∃ z, v = .int .i64 z ∧ -9223372036854775808 ≤ z ∧ z ≤ 9223372036854775807 := by
  obtain ⟨z, hcs, _, hw⟩ := DataW.trod_int Try.underlying3 h
  simp at hcs
  exact ⟨z, hcs, bounds_i64 hw⟩

theorem ref_open {H : Type} {enc : TypeId × Value → H} {W : World} {r : Reach} {b0 base : Nat} {sp : Nat → Bool} {held : Bool} {v : Value} {d : DataW H} {p : List MemPlace}
    (hv : Value.okWide Try.prog W r b0 26 v) (h : DataW.Trod enc Try.prog W base sp held 26 v d p) :
    ∃ (l : List UInt8) (a n : Int), l.length = 32 ∧ (-9223372036854775808 ≤ a ∧ a ≤ 9223372036854775807) ∧ (-9223372036854775808 ≤ n ∧ n ≤ 9223372036854775807) ∧ v = .agg (refC l a n).toArray := by
  have hT := Try.underlying26
  obtain ⟨cs0, rfl, hsz, _⟩ : ∃ cs, v = .agg cs ∧ cs.size = Try.prog.cellsOf 26 ∧ Row.okWide Try.prog W r b0 26 cs := by
    simpa [Value.okWide, hT] using hv
  obtain ⟨fuel, hf⟩ := h
  have hC : Try.prog.cellsOf 26 = 34 := by kernel_rfl
  rw [hC] at hsz
  obtain ⟨cs⟩ := cs0
  have hl : cs.length = 34 := hsz
  obtain ⟨ys, n', _, _, hlen, hyl, hff⟩ := DataW.trod_struct Try.underlying26 hf
  have hcs : (Value.agg cs.toArray).cells.toList = cs := by simp [Value.cells]
  have g : ∀ j (hj : j < ys.length), ys[j]? = some (ys[j]) := fun j hj => List.getElem?_eq_getElem hj
  have hy3 : ys.length = 3 := hyl
  have c0 : DataW.trod enc Try.prog W base sp held n' 24 ((cs.drop 0).take (Try.prog.cellsOf 24)) = ys[0]? := hcs ▸ hff 0 _ rfl
  have c1 : DataW.trod enc Try.prog W base sp held n' 3 ((cs.drop 32).take (Try.prog.cellsOf 3)) = ys[1]? := hcs ▸ hff 1 _ rfl
  have c2 : DataW.trod enc Try.prog W base sp held n' 3 ((cs.drop 33).take (Try.prog.cellsOf 3)) = ys[2]? := hcs ▸ hff 2 _ rfl
  have k1 : Try.prog.cellsOf 3 = 1 := by kernel_rfl
  have k32 : Try.prog.cellsOf 24 = 32 := by kernel_rfl
  rw [k32, g 0 (by omega), List.drop_zero] at c0
  rw [k1, g 1 (by omega), show (cs.drop 32).take 1 = [cs[32]'(by omega)] by rw [List.drop_eq_getElem_cons (by omega)]; rfl] at c1
  rw [k1, g 2 (by omega), show (cs.drop 33).take 1 = [cs[33]'(by omega)] by rw [List.drop_eq_getElem_cons (by omega)]; rfl] at c2
  obtain ⟨l, h32, e0⟩ := dig_cellsB (by rw [List.length_take]; omega) c0
  obtain ⟨a, e1, ha⟩ := int_cellB c1
  obtain ⟨n, e2, hn⟩ := int_cellB c2
  refine ⟨l, a, n, h32, ha, hn, ?_⟩
  congr 2
  unfold refC
  rw [← e0, ← e1, ← e2]
  conv => lhs; rw [← List.take_append_drop 32 cs]
  congr 1
  rw [List.drop_eq_getElem_cons (by omega), List.drop_eq_getElem_cons (by omega), List.drop_eq_nil_of_le (by omega)]

end Go.Proofs.Ytkepfigoeaheaaa

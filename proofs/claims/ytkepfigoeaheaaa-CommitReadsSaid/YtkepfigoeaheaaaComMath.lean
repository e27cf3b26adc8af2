/-
  Plain facts on commits: their bytes; what is taken of bytes.
-/
import Derived.Test.YtkepfigoeaheaaaComBin
import Derived.Test.YtkepfigoeaheaaaTakesMath
namespace Go.Proofs.Ytkepfigoeaheaaa
open Go.RowKit
set_option linter.unusedVariables false
set_option linter.unusedSimpArgs false

structure RefF where
  d : List UInt8
  a : Int
  n : Int
structure BinF where
  x : Int
  a : Int
  n : Int
  d : List UInt8
structure Com where
  ep : Nat
  r1 : RefF
  r2 : RefF
  r3 : RefF
  bins : List BinF
  st : List UInt8
  evs : List (List UInt8)
def zR : RefF := ⟨List.replicate 32 0, 0, 0⟩
def zB : BinF := ⟨0, 0, 0, List.replicate 32 0⟩
def zC : Com := ⟨0, zR, zR, zR, [], List.replicate 32 0, []⟩
def OkR (r : RefF) : Prop := 0 ≤ r.a ∧ r.a ≤ 65535 ∧ 0 ≤ r.n ∧ r.n ≤ 65536
def OkB (b : BinF) : Prop := 0 ≤ b.x ∧ b.x ≤ 2147483647 ∧ 0 ≤ b.a ∧ b.a ≤ 65535 ∧ 0 ≤ b.n ∧ b.n ≤ 65536
def RiseB (l : List BinF) : Prop := ∀ i, i + 1 < l.length → (l.getD i zB).x < (l.getD (i + 1) zB).x
def MayC (c : Com) : Prop := 0 < c.ep ∧ OkR c.r1 ∧ OkR c.r2 ∧ OkR c.r3 ∧ (∀ b ∈ c.bins, OkB b) ∧ RiseB c.bins

def encR (r : RefF) : List UInt8 := refB [] r.d r.a r.n
def encN (b : BinF) : List UInt8 := binB b.x b.a b.n b.d
def encE (e : List UInt8) : List UInt8 := Lib.uvarint e.length ++ e
def encH (c : Com) : List UInt8 := Lib.uvarint c.ep ++ (encR c.r1 ++ (encR c.r2 ++ encR c.r3))
def encC (c : Com) : List UInt8 := encH c ++ ((Lib.uvarint c.bins.length ++ c.bins.flatMap encN) ++ (c.st ++ (Lib.uvarint c.evs.length ++ c.evs.flatMap encE)))

abbrev St := List UInt8 × Bool
def numS (most : Nat) (s : St) : Nat × St := ((numF most s.1).1, ((numF most s.1).2.1, s.2 || (numF most s.1).2.2))
def digS (s : St) : List UInt8 × St := (digF s.1, ((cutF 32 s.1).2.1, s.2 || (cutF 32 s.1).2.2))
def bytS (most : Int) (s : St) : List UInt8 × St := ((bytesF most s.1).1, ((bytesF most s.1).2.1, s.2 || (bytesF most s.1).2.2))
def refS (s : St) : RefF × St :=
  (if (numS 65536 (numS 65535 (digS s).2).2).2.2 = true then zR else ⟨(digS s).1, ((numS 65535 (digS s).2).1 : Nat), ((numS 65536 (numS 65535 (digS s).2).2).1 : Nat)⟩, (numS 65536 (numS 65535 (digS s).2).2).2)
def binS (s : St) : BinF × St :=
  (if (digS (numS 65536 (numS 65535 (numS 2147483647 s).2).2).2).2.2 = true then zB else ⟨((numS 2147483647 s).1 : Nat), ((numS 65535 (numS 2147483647 s).2).1 : Nat), ((numS 65536 (numS 65535 (numS 2147483647 s).2).2).1 : Nat), (digS (numS 65536 (numS 65535 (numS 2147483647 s).2).2).2).1⟩,
   (digS (numS 65536 (numS 65535 (numS 2147483647 s).2).2).2).2)
def evS (s : St) : List UInt8 × St := bytS 65536 s
def runS {α : Type} (take : St → α × St) : Nat → List α × St → List α × St
  | 0, x => x
  | n + 1, x => if (take x.2).2.2 = true then ([], (take x.2).2) else runS take n (x.1 ++ [(take x.2).1], (take x.2).2)
def rowsS {α : Type} (take : St → α × St) (s : St) : List α × St := runS take (numS 65536 s).1 ([], (numS 65536 s).2)

/-- How a part is taken: what it is, if all went right; what was put comes back. -/
structure Takes {α : Type} (take : St → α × St) (enc : α → List UInt8) (ok : α → Prop) : Prop where
  sound : ∀ s, (take s).2.2 = false → s.2 = false ∧ s.1 = enc (take s).1 ++ (take s).2.1 ∧ ok (take s).1
  back : ∀ x t, ok x → take (enc x ++ t, false) = (x, (t, false))

theorem or_no {a b : Bool} (h : (a || b) = false) : a = false ∧ b = false := Bool.or_eq_false_iff.1 h
theorem numF_sound {most : Nat} {l : List UInt8} (h : (numF most l).2.2 = false) : l = Lib.uvarint (numF most l).1 ++ (numF most l).2.1 ∧ (numF most l).1 ≤ most ∧ (numF most l).1 < 18446744073709551616 := by
  unfold numF at h ⊢
  by_cases hc : (lead l).2 = 0 ∨ most < (lead l).1
  · rw [if_pos hc] at h; cases h
  · rw [if_neg hc] at h ⊢
    obtain ⟨v, g, hL⟩ : ∃ v g, lead l = (v, g) := ⟨_, _, rfl⟩
    have hv := (lead_le l).2
    rw [hL] at hc hv ⊢
    simp only [not_or] at hc
    obtain ⟨u, r, h1, h2, h3, _⟩ := leadFrom_sound l 0 0 v g hL hc.1
    have hvu : v = u := by simpa using h3
    subst hvu
    have hg : g = (Lib.uvarint v).length := by omega
    refine ⟨?_, by simp only; omega, hv⟩
    simp only
    rw [h1, hg]
    simp
theorem takes_num (most : Nat) (hm : most < 18446744073709551616) : Takes (numS most) Lib.uvarint (fun v => v ≤ most ∧ v < 18446744073709551616) where
  sound := fun s h => by
    obtain ⟨h1, h2⟩ := or_no h
    obtain ⟨e1, e2, e3⟩ := numF_sound h2
    exact ⟨h1, e1, e2, e3⟩
  back := fun v t h => by
    unfold numS
    rw [numF_back most v t h.1 h.2]
    rfl
theorem takes_dig : Takes digS id (fun d => d.length = 32) where
  sound := fun s h => by
    obtain ⟨h1, h2⟩ := or_no h
    unfold digS
    unfold cutF at h2 ⊢
    unfold digF
    by_cases hl : s.1.length < 32
    · rw [if_pos hl] at h2; cases h2
    · rw [if_neg hl, if_neg hl]
      refine ⟨h1, ?_, by rw [List.length_take]; omega⟩
      simp
  back := fun d t h => by
    unfold digS digF cutF
    have hl : ¬ (d ++ t).length < 32 := by rw [List.length_append]; omega
    dsimp only [id]
    rw [if_neg hl, if_neg hl, ← h, List.take_left, List.drop_left]
    rfl
theorem takes_ev : Takes evS encE (fun e => e.length ≤ 65536) where
  sound := fun s h => by
    obtain ⟨h1, h2⟩ := or_no h
    unfold evS bytS encE
    unfold bytesF at h2 ⊢
    rw [if_neg (by omega)] at h2 ⊢
    simp only [Int.reduceToNat] at h2 ⊢
    obtain ⟨h3, h4⟩ := or_no h2
    obtain ⟨e1, e2, e3⟩ := numF_sound h3
    unfold cutF at h4 ⊢
    by_cases hl : (numF 65536 s.1).2.1.length < (numF 65536 s.1).1
    · rw [if_pos hl] at h4; cases h4
    · rw [if_neg hl]
      have hlen : (List.take (numF 65536 s.1).1 (numF 65536 s.1).2.1).length = (numF 65536 s.1).1 := by rw [List.length_take]; omega
      dsimp only
      refine ⟨h1, ?_, by rw [hlen]; exact e2⟩
      rw [hlen, List.append_assoc, List.take_append_drop]
      exact e1
  back := fun e t h => by
    unfold evS bytS encE bytesF
    rw [if_neg (by omega)]
    simp only [Int.reduceToNat, List.append_assoc]
    rw [numF_back 65536 e.length (e ++ t) h (by omega)]
    unfold cutF
    have hl : ¬ (e ++ t).length < e.length := by rw [List.length_append]; omega
    dsimp only
    rw [if_neg hl]
    simp
theorem takes_ref : Takes refS encR (fun r => OkR r ∧ r.d.length = 32) where
  sound := fun s h => by
    have h' : (numS 65536 (numS 65535 (digS s).2).2).2.2 = false := h
    obtain ⟨a1, a2, a3, a4⟩ := (takes_num 65536 (by omega)).sound _ h'
    obtain ⟨b1, b2, b3, b4⟩ := (takes_num 65535 (by omega)).sound _ a1
    obtain ⟨c1, c2, c3⟩ := takes_dig.sound _ b1
    unfold refS
    rw [if_neg (by rw [h']; simp)]
    refine ⟨c1, ?_, ⟨by simp only; omega, by simp only; omega, by simp only; omega, by simp only; omega⟩, c3⟩
    unfold encR refB
    simp only [List.nil_append]
    rw [uF_nat b4, uF_nat a4, List.append_assoc, List.append_assoc, ← a2, ← b2]
    exact c2
  back := fun r t h => by
    obtain ⟨⟨g1, g2, g3, g4⟩, g5⟩ := h
    obtain ⟨d, a, n⟩ := r
    simp only at g1 g2 g3 g4 g5
    obtain ⟨a, rfl⟩ := Int.eq_ofNat_of_zero_le g1
    obtain ⟨n, rfl⟩ := Int.eq_ofNat_of_zero_le g3
    have e : encR ⟨d, (a : Int), (n : Int)⟩ ++ t = id d ++ (Lib.uvarint a ++ (Lib.uvarint n ++ t)) := by
      unfold encR refB
      simp only [List.nil_append]
      rw [uF_nat (by omega), uF_nat (by omega)]
      simp
    rw [e]
    unfold refS
    rw [takes_dig.back d _ g5, (takes_num 65535 (by omega)).back a _ ⟨by omega, by omega⟩, (takes_num 65536 (by omega)).back n _ ⟨by omega, by omega⟩]
    simp
theorem takes_bin : Takes binS encN (fun b => OkB b ∧ b.d.length = 32) where
  sound := fun s h => by
    have h' : (digS (numS 65536 (numS 65535 (numS 2147483647 s).2).2).2).2.2 = false := h
    obtain ⟨a1, a2, a3⟩ := takes_dig.sound _ h'
    obtain ⟨b1, b2, b3, b4⟩ := (takes_num 65536 (by omega)).sound _ a1
    obtain ⟨c1, c2, c3, c4⟩ := (takes_num 65535 (by omega)).sound _ b1
    obtain ⟨d1, d2, d3, d4⟩ := (takes_num 2147483647 (by omega)).sound _ c1
    unfold binS
    rw [if_neg (by rw [h']; simp)]
    refine ⟨d1, ?_, ⟨by simp only; omega, by simp only; omega, by simp only; omega, by simp only; omega, by simp only; omega, by simp only; omega⟩, a3⟩
    unfold encN binB
    simp only
    rw [uN_nat d4, uN_nat c4, uN_nat b4, List.append_assoc, List.append_assoc, List.append_assoc]
    have a2' : (numS 65536 (numS 65535 (numS 2147483647 s).2).2).2.1 = (digS (numS 65536 (numS 65535 (numS 2147483647 s).2).2).2).1 ++ (digS (numS 65536 (numS 65535 (numS 2147483647 s).2).2).2).2.1 := a2
    rw [← a2', ← b2, ← c2]
    exact d2
  back := fun r t h => by
    obtain ⟨⟨g0, g00, g1, g2, g3, g4⟩, g5⟩ := h
    obtain ⟨x, a, n, d⟩ := r
    simp only at g0 g00 g1 g2 g3 g4 g5
    obtain ⟨x, rfl⟩ := Int.eq_ofNat_of_zero_le g0
    obtain ⟨a, rfl⟩ := Int.eq_ofNat_of_zero_le g1
    obtain ⟨n, rfl⟩ := Int.eq_ofNat_of_zero_le g3
    have e : encN ⟨(x : Int), (a : Int), (n : Int), d⟩ ++ t = Lib.uvarint x ++ (Lib.uvarint a ++ (Lib.uvarint n ++ (id d ++ t))) := by
      unfold encN binB
      simp only
      rw [uN_nat (by omega), uN_nat (by omega), uN_nat (by omega)]
      simp
    rw [e]
    unfold binS
    rw [(takes_num 2147483647 (by omega)).back x _ ⟨by omega, by omega⟩, (takes_num 65535 (by omega)).back a _ ⟨by omega, by omega⟩, (takes_num 65536 (by omega)).back n _ ⟨by omega, by omega⟩, takes_dig.back d _ g5]
    simp

theorem run_sound {α : Type} {take : St → α × St} {enc : α → List UInt8} {ok : α → Prop} (T : Takes take enc ok) : ∀ (n : Nat) (acc : List α) (s : St), (runS take n (acc, s)).2.2 = false → s.2 = false ∧ ∃ rows, (runS take n (acc, s)).1 = acc ++ rows ∧ rows.length = n ∧ s.1 = rows.flatMap enc ++ (runS take n (acc, s)).2.1 ∧ ∀ r ∈ rows, ok r
  | 0, acc, s, h => ⟨h, [], by simp [runS], rfl, by simp [runS], fun _ h => by cases h⟩
  | n + 1, acc, s, h => by
    unfold runS at h ⊢
    by_cases hw : (take s).2.2 = true
    · rw [if_pos hw] at h
      rw [hw] at h
      cases h
    · rw [if_neg hw] at h ⊢
      have hw' : (take s).2.2 = false := by simpa using hw
      obtain ⟨h1, h2, h3⟩ := T.sound s hw'
      obtain ⟨_, rows, g1, g2, g3, g4⟩ := run_sound T n _ _ h
      refine ⟨h1, (take s).1 :: rows, ?_, by rw [List.length_cons, g2], ?_, fun r hr => ?_⟩
      · rw [g1]; simp
      · rw [List.flatMap_cons, List.append_assoc, ← g3]
        exact h2
      · rcases List.mem_cons.1 hr with rfl | hr
        · exact h3
        · exact g4 r hr
theorem run_back {α : Type} {take : St → α × St} {enc : α → List UInt8} {ok : α → Prop} (T : Takes take enc ok) (t : List UInt8) : ∀ (rows acc : List α), (∀ r ∈ rows, ok r) → runS take rows.length (acc, (rows.flatMap enc ++ t, false)) = (acc ++ rows, (t, false))
  | [], acc, _ => by simp [runS]
  | r :: rs, acc, h => by
    rw [List.length_cons]
    unfold runS
    rw [List.flatMap_cons, List.append_assoc, T.back r _ (h r List.mem_cons_self)]
    dsimp only
    rw [if_neg (by simp), run_back T t rs _ fun x hx => h x (List.mem_cons_of_mem _ hx)]
    simp
theorem takes_rows {α : Type} {take : St → α × St} {enc : α → List UInt8} {ok : α → Prop} (T : Takes take enc ok) : Takes (rowsS take) (fun l => Lib.uvarint l.length ++ l.flatMap enc) (fun l => l.length ≤ 65536 ∧ ∀ r ∈ l, ok r) where
  sound := fun s h => by
    obtain ⟨h1, rows, g1, g2, g3, g4⟩ := run_sound T _ _ _ h
    obtain ⟨n1, n2, n3, n4⟩ := (takes_num 65536 (by omega)).sound _ h1
    have e : (rowsS take s).1 = rows := by show (runS take _ _).1 = _; rw [g1]; rfl
    refine ⟨n1, ?_, by rw [e, g2]; exact n3, by rw [e]; exact g4⟩
    rw [e, g2, List.append_assoc]
    show s.1 = _ ++ (_ ++ (runS take _ _).2.1)
    rw [← g3]
    exact n2
  back := fun l t h => by
    unfold rowsS
    rw [List.append_assoc, (takes_num 65536 (by omega)).back l.length _ ⟨h.1, by omega⟩]
    rw [run_back T t l [] h.2]
    rfl

/-- What Decode takes of bytes, step by step. -/
def dS0 (b : List UInt8) : St := (numS 18446744073709551615 (b, false)).2
def dS1 (b : List UInt8) : St := (refS (dS0 b)).2
def dS2 (b : List UInt8) : St := (refS (dS1 b)).2
def dS3 (b : List UInt8) : St := (refS (dS2 b)).2
def dS4 (b : List UInt8) : St := (rowsS binS (dS3 b)).2
def dS5 (b : List UInt8) : St := (digS (dS4 b)).2
def dS6 (b : List UInt8) : St := (rowsS evS (dS5 b)).2
/-- The commit that is taken. -/
structure IsDec (b : List UInt8) (c : Com) : Prop where
  ep : (numS 18446744073709551615 (b, false)).1 = c.ep
  r1 : (refS (dS0 b)).1 = c.r1
  r2 : (refS (dS1 b)).1 = c.r2
  r3 : (refS (dS2 b)).1 = c.r3
  bins : (rowsS binS (dS3 b)).1 = c.bins
  st : (digS (dS4 b)).1 = c.st
  evs : (rowsS evS (dS5 b)).1 = c.evs
theorem isDec (b : List UInt8) : ∃ c, IsDec b c := ⟨⟨_, _, _, _, _, _, _⟩, ⟨rfl, rfl, rfl, rfl, rfl, rfl, rfl⟩⟩
/-- What a commit of bytes is, but for its epoch, and for its bins' order. -/
structure OkC (c : Com) : Prop where
  ep : c.ep < 18446744073709551616
  r1 : OkR c.r1 ∧ c.r1.d.length = 32
  r2 : OkR c.r2 ∧ c.r2.d.length = 32
  r3 : OkR c.r3 ∧ c.r3.d.length = 32
  bins : c.bins.length ≤ 65536 ∧ ∀ b ∈ c.bins, OkB b ∧ b.d.length = 32
  st : c.st.length = 32
  evs : c.evs.length ≤ 65536 ∧ ∀ e ∈ c.evs, e.length ≤ 65536
theorem num0_sound {b : List UInt8} (h : (dS0 b).2 = false) : b = Lib.uvarint (numS 18446744073709551615 (b, false)).1 ++ (dS0 b).1 ∧ (numS 18446744073709551615 (b, false)).1 < 18446744073709551616 := by
  have h' : (numF 18446744073709551615 b).2.2 = false := by
    unfold dS0 numS at h
    simpa using h
  have := numF_sound h'
  exact ⟨this.1, this.2.2⟩
theorem dec_sound {b : List UInt8} {c : Com} (hc : IsDec b c) (h : (dS6 b).2 = false) : b = encC c ++ (dS6 b).1 ∧ OkC c := by
  rw [dS6] at h
  obtain ⟨a1, a2, a3⟩ := (takes_rows takes_ev).sound (dS5 b) h
  rw [← dS6] at a2
  rw [dS5] at a1
  obtain ⟨b1, b2, b3⟩ := takes_dig.sound (dS4 b) a1
  rw [← dS5] at b2
  rw [dS4] at b1
  obtain ⟨c1, c2, c3⟩ := (takes_rows takes_bin).sound (dS3 b) b1
  rw [← dS4] at c2
  rw [dS3] at c1
  obtain ⟨d1, d2, d3⟩ := takes_ref.sound (dS2 b) c1
  rw [← dS3] at d2
  rw [dS2] at d1
  obtain ⟨e1, e2, e3⟩ := takes_ref.sound (dS1 b) d1
  rw [← dS2] at e2
  rw [dS1] at e1
  obtain ⟨f1, f2, f3⟩ := takes_ref.sound (dS0 b) e1
  rw [← dS1] at f2
  have gg := num0_sound f1
  rw [hc.ep] at gg
  rw [hc.r1] at f2 f3
  rw [hc.r2] at e2 e3
  rw [hc.r3] at d2 d3
  rw [hc.bins] at c2 c3
  rw [hc.st] at b2 b3
  rw [hc.evs] at a2 a3
  refine ⟨?_, ⟨gg.2, f3, e3, d3, c3, b3, a3⟩⟩
  have b2' : (dS4 b).1 = c.st ++ (dS5 b).1 := b2
  unfold encC encH
  simp only [List.append_assoc] at a2 c2 ⊢
  rw [← a2, ← b2', ← c2, ← d2, ← e2, ← f2]
  exact gg.1
theorem dec_back {c : Com} (h : OkC c) (t : List UInt8) : IsDec (encC c ++ t) c ∧ dS6 (encC c ++ t) = (t, false) := by
  have e : encC c ++ t = Lib.uvarint c.ep ++ (encR c.r1 ++ (encR c.r2 ++ (encR c.r3 ++ ((Lib.uvarint c.bins.length ++ c.bins.flatMap encN) ++ (id c.st ++ ((Lib.uvarint c.evs.length ++ c.evs.flatMap encE) ++ t)))))) := by
    unfold encC encH
    simp
  generalize encC c ++ t = b at e
  obtain ⟨t6, ht6⟩ : ∃ z, z = (Lib.uvarint c.evs.length ++ c.evs.flatMap encE) ++ t := ⟨_, rfl⟩
  rw [← ht6] at e
  obtain ⟨t5, ht5⟩ : ∃ z, z = id c.st ++ t6 := ⟨_, rfl⟩
  rw [← ht5] at e
  obtain ⟨t4, ht4⟩ : ∃ z, z = (Lib.uvarint c.bins.length ++ c.bins.flatMap encN) ++ t5 := ⟨_, rfl⟩
  rw [← ht4] at e
  obtain ⟨t3, ht3⟩ : ∃ z, z = encR c.r3 ++ t4 := ⟨_, rfl⟩
  rw [← ht3] at e
  obtain ⟨t2, ht2⟩ : ∃ z, z = encR c.r2 ++ t3 := ⟨_, rfl⟩
  rw [← ht2] at e
  obtain ⟨t1, ht1⟩ : ∃ z, z = encR c.r1 ++ t2 := ⟨_, rfl⟩
  rw [← ht1] at e
  have h0 : numS 18446744073709551615 (b, false) = (c.ep, (t1, false)) := by rw [e]; exact (takes_num 18446744073709551615 (by omega)).back c.ep _ ⟨by have := h.ep; omega, h.ep⟩
  have k0 : dS0 b = (t1, false) := by rw [dS0, h0]
  have h1 : refS (dS0 b) = (c.r1, (t2, false)) := by rw [k0, ht1]; exact takes_ref.back c.r1 t2 h.r1
  have k1 : dS1 b = (t2, false) := by rw [dS1, h1]
  have h2 : refS (dS1 b) = (c.r2, (t3, false)) := by rw [k1, ht2]; exact takes_ref.back c.r2 t3 h.r2
  have k2 : dS2 b = (t3, false) := by rw [dS2, h2]
  have h3 : refS (dS2 b) = (c.r3, (t4, false)) := by rw [k2, ht3]; exact takes_ref.back c.r3 t4 h.r3
  have k3 : dS3 b = (t4, false) := by rw [dS3, h3]
  have h4 : rowsS binS (dS3 b) = (c.bins, (t5, false)) := by rw [k3, ht4]; exact (takes_rows takes_bin).back c.bins t5 h.bins
  have k4 : dS4 b = (t5, false) := by rw [dS4, h4]
  have h5 : digS (dS4 b) = (c.st, (t6, false)) := by rw [k4, ht5]; exact takes_dig.back c.st t6 h.st
  have k5 : dS5 b = (t6, false) := by rw [dS5, h5]
  have h6 : rowsS evS (dS5 b) = (c.evs, (t, false)) := by rw [k5, ht6]; exact (takes_rows takes_ev).back c.evs t h.evs
  exact ⟨⟨by rw [h0], by rw [h1], by rw [h2], by rw [h3], by rw [h4], by rw [h5], by rw [h6]⟩, by rw [dS6, h6]⟩
theorem com_ext {c c' : Com} (h1 : c.ep = c'.ep) (h2 : c.r1 = c'.r1) (h3 : c.r2 = c'.r2) (h4 : c.r3 = c'.r3) (h5 : c.bins = c'.bins) (h6 : c.st = c'.st) (h7 : c.evs = c'.evs) : c = c' := by
  cases c
  cases c'
  cases h1
  cases h2
  cases h3
  cases h4
  cases h5
  cases h6
  cases h7
  rfl
theorem dec_one {b : List UInt8} {c c' : Com} (h : IsDec b c) (h' : IsDec b c') : c = c' :=
  com_ext (h.ep.symm.trans h'.ep) (h.r1.symm.trans h'.r1) (h.r2.symm.trans h'.r2) (h.r3.symm.trans h'.r3) (h.bins.symm.trans h'.bins) (h.st.symm.trans h'.st) (h.evs.symm.trans h'.evs)
/-- Two commits' bytes, one a beginning of the other one's. -/
theorem enc_prefix {c c' : Com} (h : OkC c) (h' : OkC c') {t : List UInt8} (e : encC c = encC c' ++ t) : c = c' ∧ t = [] := by
  have e1 := dec_back h []
  have e2 := dec_back h' t
  rw [List.append_nil, e] at e1
  refine ⟨dec_one e1.1 e2.1, ?_⟩
  have e3 := e1.2
  rw [e2.2] at e3
  exact (Prod.mk.inj e3).1
theorem enc_inj {c c' : Com} (h : OkC c) (h' : OkC c') (e : encC c = encC c') : c = c' := (enc_prefix h h' (t := []) (by rw [e]; simp)).1

end Go.Proofs.Ytkepfigoeaheaaa

/-
  The digest of a commit, and the document's own Of.
-/
import Derived.Test.YtlfddijmanlneaaComBin
import Derived.Test.YtlfddijmanlneaaTakesMath
import Derived.Test.YtlfddijmanlneaaBytes
import Derived.Test.YtlfddijmanlneaaInBytes
import Derived.Deep.RegionHeld3
import Derived.Maps.AppendAt
import Derived.Test.YtlfddijmanlneaaComPut
import Derived.Test.YtlfddijmanlneaaRTagged
namespace Go.Proofs.Ytlfddijmanlneaa
open Go.RowKit
set_option linter.unusedVariables false
set_option linter.unusedSimpArgs false

structure RefF where
  d : List UInt8
  a : Int
  n : Int
structure BinF where
  x : Int
  a : Int
  n : Int
  d : List UInt8
structure Com where
  ep : Nat
  r1 : RefF
  r2 : RefF
  r3 : RefF
  bins : List BinF
  st : List UInt8
  evs : List (List UInt8)
def zR : RefF := ⟨List.replicate 32 0, 0, 0⟩
def zB : BinF := ⟨0, 0, 0, List.replicate 32 0⟩
def zC : Com := ⟨0, zR, zR, zR, [], List.replicate 32 0, []⟩
def OkR (r : RefF) : Prop := 0 ≤ r.a ∧ r.a ≤ 65535 ∧ 0 ≤ r.n ∧ r.n ≤ 65536
def OkB (b : BinF) : Prop := 0 ≤ b.x ∧ b.x ≤ 2147483647 ∧ 0 ≤ b.a ∧ b.a ≤ 65535 ∧ 0 ≤ b.n ∧ b.n ≤ 65536
def RiseB (l : List BinF) : Prop := ∀ i, i + 1 < l.length → (l.getD i zB).x < (l.getD (i + 1) zB).x
def MayC (c : Com) : Prop := 0 < c.ep ∧ OkR c.r1 ∧ OkR c.r2 ∧ OkR c.r3 ∧ (∀ b ∈ c.bins, OkB b) ∧ RiseB c.bins

def encR (r : RefF) : List UInt8 := refB [] r.d r.a r.n
def encN (b : BinF) : List UInt8 := binB b.x b.a b.n b.d
def encE (e : List UInt8) : List UInt8 := Lib.uvarint e.length ++ e
def encH (c : Com) : List UInt8 := Lib.uvarint c.ep ++ (encR c.r1 ++ (encR c.r2 ++ encR c.r3))
def encC (c : Com) : List UInt8 := encH c ++ ((Lib.uvarint c.bins.length ++ c.bins.flatMap encN) ++ (c.st ++ (Lib.uvarint c.evs.length ++ c.evs.flatMap encE)))

abbrev St := List UInt8 × Bool
def numS (most : Nat) (s : St) : Nat × St := ((numF most s.1).1, ((numF most s.1).2.1, s.2 || (numF most s.1).2.2))
def digS (s : St) : List UInt8 × St := (digF s.1, ((cutF 32 s.1).2.1, s.2 || (cutF 32 s.1).2.2))
def bytS (most : Int) (s : St) : List UInt8 × St := ((bytesF most s.1).1, ((bytesF most s.1).2.1, s.2 || (bytesF most s.1).2.2))
def refS (s : St) : RefF × St :=
  (if (numS 65536 (numS 65535 (digS s).2).2).2.2 = true then zR else ⟨(digS s).1, ((numS 65535 (digS s).2).1 : Nat), ((numS 65536 (numS 65535 (digS s).2).2).1 : Nat)⟩, (numS 65536 (numS 65535 (digS s).2).2).2)
def binS (s : St) : BinF × St :=
  (if (digS (numS 65536 (numS 65535 (numS 2147483647 s).2).2).2).2.2 = true then zB else ⟨((numS 2147483647 s).1 : Nat), ((numS 65535 (numS 2147483647 s).2).1 : Nat), ((numS 65536 (numS 65535 (numS 2147483647 s).2).2).1 : Nat), (digS (numS 65536 (numS 65535 (numS 2147483647 s).2).2).2).1⟩,
   (digS (numS 65536 (numS 65535 (numS 2147483647 s).2).2).2).2)
def evS (s : St) : List UInt8 × St := bytS 65536 s
def runS {α : Type} (take : St → α × St) : Nat → List α × St → List α × St
  | 0, x => x
  | n + 1, x => if (take x.2).2.2 = true then ([], (take x.2).2) else runS take n (x.1 ++ [(take x.2).1], (take x.2).2)
def rowsS {α : Type} (take : St → α × St) (s : St) : List α × St := runS take (numS 65536 s).1 ([], (numS 65536 s).2)

/-- How a part is taken: what it is, if all went right; what was put comes back. -/
structure Takes {α : Type} (take : St → α × St) (enc : α → List UInt8) (ok : α → Prop) : Prop where
  sound : ∀ s, (take s).2.2 = false → s.2 = false ∧ s.1 = enc (take s).1 ++ (take s).2.1 ∧ ok (take s).1
  back : ∀ x t, ok x → take (enc x ++ t, false) = (x, (t, false))

theorem or_no {a b : Bool} (h : (a || b) = false) : a = false ∧ b = false := Bool.or_eq_false_iff.1 h
theorem numF_sound {most : Nat} {l : List UInt8} (h : (numF most l).2.2 = false) : l = Lib.uvarint (numF most l).1 ++ (numF most l).2.1 ∧ (numF most l).1 ≤ most ∧ (numF most l).1 < 18446744073709551616 := by
  unfold numF at h ⊢
  by_cases hc : (lead l).2 = 0 ∨ most < (lead l).1
  · rw [if_pos hc] at h; cases h
  · rw [if_neg hc] at h ⊢
    obtain ⟨v, g, hL⟩ : ∃ v g, lead l = (v, g) := ⟨_, _, rfl⟩
    have hv := (lead_le l).2
    rw [hL] at hc hv ⊢
    simp only [not_or] at hc
    obtain ⟨u, r, h1, h2, h3, _⟩ := leadFrom_sound l 0 0 v g hL hc.1
    have hvu : v = u := by simpa using h3
    subst hvu
    have hg : g = (Lib.uvarint v).length := by omega
    refine ⟨?_, by simp only; omega, hv⟩
    simp only
    rw [h1, hg]
    simp
theorem takes_num (most : Nat) (hm : most < 18446744073709551616) : Takes (numS most) Lib.uvarint (fun v => v ≤ most ∧ v < 18446744073709551616) where
  sound := fun s h => by
    obtain ⟨h1, h2⟩ := or_no h
    obtain ⟨e1, e2, e3⟩ := numF_sound h2
    exact ⟨h1, e1, e2, e3⟩
  back := fun v t h => by
    unfold numS
    rw [numF_back most v t h.1 h.2]
    rfl
theorem takes_dig : Takes digS id (fun d => d.length = 32) where
  sound := fun s h => by
    obtain ⟨h1, h2⟩ := or_no h
    unfold digS
    unfold cutF at h2 ⊢
    unfold digF
    by_cases hl : s.1.length < 32
    · rw [if_pos hl] at h2; cases h2
    · rw [if_neg hl, if_neg hl]
      refine ⟨h1, ?_, by rw [List.length_take]; omega⟩
      simp
  back := fun d t h => by
    unfold digS digF cutF
    have hl : ¬ (d ++ t).length < 32 := by rw [List.length_append]; omega
    dsimp only [id]
    rw [if_neg hl, if_neg hl, ← h, List.take_left, List.drop_left]
    rfl
theorem takes_ev : Takes evS encE (fun e => e.length ≤ 65536) where
  sound := fun s h => by
    obtain ⟨h1, h2⟩ := or_no h
    unfold evS bytS encE
    unfold bytesF at h2 ⊢
    rw [if_neg (by omega)] at h2 ⊢
    simp only [Int.reduceToNat] at h2 ⊢
    obtain ⟨h3, h4⟩ := or_no h2
    obtain ⟨e1, e2, e3⟩ := numF_sound h3
    unfold cutF at h4 ⊢
    by_cases hl : (numF 65536 s.1).2.1.length < (numF 65536 s.1).1
    · rw [if_pos hl] at h4; cases h4
    · rw [if_neg hl]
      have hlen : (List.take (numF 65536 s.1).1 (numF 65536 s.1).2.1).length = (numF 65536 s.1).1 := by rw [List.length_take]; omega
      dsimp only
      refine ⟨h1, ?_, by rw [hlen]; exact e2⟩
      rw [hlen, List.append_assoc, List.take_append_drop]
      exact e1
  back := fun e t h => by
    unfold evS bytS encE bytesF
    rw [if_neg (by omega)]
    simp only [Int.reduceToNat, List.append_assoc]
    rw [numF_back 65536 e.length (e ++ t) h (by omega)]
    unfold cutF
    have hl : ¬ (e ++ t).length < e.length := by rw [List.length_append]; omega
    dsimp only
    rw [if_neg hl]
    simp
theorem takes_ref : Takes refS encR (fun r => OkR r ∧ r.d.length = 32) where
  sound := fun s h => by
    have h' : (numS 65536 (numS 65535 (digS s).2).2).2.2 = false := h
    obtain ⟨a1, a2, a3, a4⟩ := (takes_num 65536 (by omega)).sound _ h'
    obtain ⟨b1, b2, b3, b4⟩ := (takes_num 65535 (by omega)).sound _ a1
    obtain ⟨c1, c2, c3⟩ := takes_dig.sound _ b1
    unfold refS
    rw [if_neg (by rw [h']; simp)]
    refine ⟨c1, ?_, ⟨by simp only; omega, by simp only; omega, by simp only; omega, by simp only; omega⟩, c3⟩
    unfold encR refB
    simp only [List.nil_append]
    rw [uF_nat b4, uF_nat a4, List.append_assoc, List.append_assoc, ← a2, ← b2]
    exact c2
  back := fun r t h => by
    obtain ⟨⟨g1, g2, g3, g4⟩, g5⟩ := h
    obtain ⟨d, a, n⟩ := r
    simp only at g1 g2 g3 g4 g5
    obtain ⟨a, rfl⟩ := Int.eq_ofNat_of_zero_le g1
    obtain ⟨n, rfl⟩ := Int.eq_ofNat_of_zero_le g3
    have e : encR ⟨d, (a : Int), (n : Int)⟩ ++ t = id d ++ (Lib.uvarint a ++ (Lib.uvarint n ++ t)) := by
      unfold encR refB
      simp only [List.nil_append]
      rw [uF_nat (by omega), uF_nat (by omega)]
      simp
    rw [e]
    unfold refS
    rw [takes_dig.back d _ g5, (takes_num 65535 (by omega)).back a _ ⟨by omega, by omega⟩, (takes_num 65536 (by omega)).back n _ ⟨by omega, by omega⟩]
    simp
theorem takes_bin : Takes binS encN (fun b => OkB b ∧ b.d.length = 32) where
  sound := fun s h => by
    have h' : (digS (numS 65536 (numS 65535 (numS 2147483647 s).2).2).2).2.2 = false := h
    obtain ⟨a1, a2, a3⟩ := takes_dig.sound _ h'
    obtain ⟨b1, b2, b3, b4⟩ := (takes_num 65536 (by omega)).sound _ a1
    obtain ⟨c1, c2, c3, c4⟩ := (takes_num 65535 (by omega)).sound _ b1
    obtain ⟨d1, d2, d3, d4⟩ := (takes_num 2147483647 (by omega)).sound _ c1
    unfold binS
    rw [if_neg (by rw [h']; simp)]
    refine ⟨d1, ?_, ⟨by simp only; omega, by simp only; omega, by simp only; omega, by simp only; omega, by simp only; omega, by simp only; omega⟩, a3⟩
    unfold encN binB
    simp only
    rw [uN_nat d4, uN_nat c4, uN_nat b4, List.append_assoc, List.append_assoc, List.append_assoc]
    have a2' : (numS 65536 (numS 65535 (numS 2147483647 s).2).2).2.1 = (digS (numS 65536 (numS 65535 (numS 2147483647 s).2).2).2).1 ++ (digS (numS 65536 (numS 65535 (numS 2147483647 s).2).2).2).2.1 := a2
    rw [← a2', ← b2, ← c2]
    exact d2
  back := fun r t h => by
    obtain ⟨⟨g0, g00, g1, g2, g3, g4⟩, g5⟩ := h
    obtain ⟨x, a, n, d⟩ := r
    simp only at g0 g00 g1 g2 g3 g4 g5
    obtain ⟨x, rfl⟩ := Int.eq_ofNat_of_zero_le g0
    obtain ⟨a, rfl⟩ := Int.eq_ofNat_of_zero_le g1
    obtain ⟨n, rfl⟩ := Int.eq_ofNat_of_zero_le g3
    have e : encN ⟨(x : Int), (a : Int), (n : Int), d⟩ ++ t = Lib.uvarint x ++ (Lib.uvarint a ++ (Lib.uvarint n ++ (id d ++ t))) := by
      unfold encN binB
      simp only
      rw [uN_nat (by omega), uN_nat (by omega), uN_nat (by omega)]
      simp
    rw [e]
    unfold binS
    rw [(takes_num 2147483647 (by omega)).back x _ ⟨by omega, by omega⟩, (takes_num 65535 (by omega)).back a _ ⟨by omega, by omega⟩, (takes_num 65536 (by omega)).back n _ ⟨by omega, by omega⟩, takes_dig.back d _ g5]
    simp

theorem run_sound {α : Type} {take : St → α × St} {enc : α → List UInt8} {ok : α → Prop} (T : Takes take enc ok) : ∀ (n : Nat) (acc : List α) (s : St), (runS take n (acc, s)).2.2 = false → s.2 = false ∧ ∃ rows, (runS take n (acc, s)).1 = acc ++ rows ∧ rows.length = n ∧ s.1 = rows.flatMap enc ++ (runS take n (acc, s)).2.1 ∧ ∀ r ∈ rows, ok r
  | 0, acc, s, h => ⟨h, [], by simp [runS], rfl, by simp [runS], fun _ h => by cases h⟩
  | n + 1, acc, s, h => by
    unfold runS at h ⊢
    by_cases hw : (take s).2.2 = true
    · rw [if_pos hw] at h
      rw [hw] at h
      cases h
    · rw [if_neg hw] at h ⊢
      have hw' : (take s).2.2 = false := by simpa using hw
      obtain ⟨h1, h2, h3⟩ := T.sound s hw'
      obtain ⟨_, rows, g1, g2, g3, g4⟩ := run_sound T n _ _ h
      refine ⟨h1, (take s).1 :: rows, ?_, by rw [List.length_cons, g2], ?_, fun r hr => ?_⟩
      · rw [g1]; simp
      · rw [List.flatMap_cons, List.append_assoc, ← g3]
        exact h2
      · rcases List.mem_cons.1 hr with rfl | hr
        · exact h3
        · exact g4 r hr
theorem run_back {α : Type} {take : St → α × St} {enc : α → List UInt8} {ok : α → Prop} (T : Takes take enc ok) (t : List UInt8) : ∀ (rows acc : List α), (∀ r ∈ rows, ok r) → runS take rows.length (acc, (rows.flatMap enc ++ t, false)) = (acc ++ rows, (t, false))
  | [], acc, _ => by simp [runS]
  | r :: rs, acc, h => by
    rw [List.length_cons]
    unfold runS
    rw [List.flatMap_cons, List.append_assoc, T.back r _ (h r List.mem_cons_self)]
    dsimp only
    rw [if_neg (by simp), run_back T t rs _ fun x hx => h x (List.mem_cons_of_mem _ hx)]
    simp
theorem takes_rows {α : Type} {take : St → α × St} {enc : α → List UInt8} {ok : α → Prop} (T : Takes take enc ok) : Takes (rowsS take) (fun l => Lib.uvarint l.length ++ l.flatMap enc) (fun l => l.length ≤ 65536 ∧ ∀ r ∈ l, ok r) where
  sound := fun s h => by
    obtain ⟨h1, rows, g1, g2, g3, g4⟩ := run_sound T _ _ _ h
    obtain ⟨n1, n2, n3, n4⟩ := (takes_num 65536 (by omega)).sound _ h1
    have e : (rowsS take s).1 = rows := by show (runS take _ _).1 = _; rw [g1]; rfl
    refine ⟨n1, ?_, by rw [e, g2]; exact n3, by rw [e]; exact g4⟩
    rw [e, g2, List.append_assoc]
    show s.1 = _ ++ (_ ++ (runS take _ _).2.1)
    rw [← g3]
    exact n2
  back := fun l t h => by
    unfold rowsS
    rw [List.append_assoc, (takes_num 65536 (by omega)).back l.length _ ⟨h.1, by omega⟩]
    rw [run_back T t l [] h.2]
    rfl

/-- What Decode takes of bytes, step by step. -/
def dS0 (b : List UInt8) : St := (numS 18446744073709551615 (b, false)).2
def dS1 (b : List UInt8) : St := (refS (dS0 b)).2
def dS2 (b : List UInt8) : St := (refS (dS1 b)).2
def dS3 (b : List UInt8) : St := (refS (dS2 b)).2
def dS4 (b : List UInt8) : St := (rowsS binS (dS3 b)).2
def dS5 (b : List UInt8) : St := (digS (dS4 b)).2
def dS6 (b : List UInt8) : St := (rowsS evS (dS5 b)).2
/-- The commit that is taken. -/
structure IsDec (b : List UInt8) (c : Com) : Prop where
  ep : (numS 18446744073709551615 (b, false)).1 = c.ep
  r1 : (refS (dS0 b)).1 = c.r1
  r2 : (refS (dS1 b)).1 = c.r2
  r3 : (refS (dS2 b)).1 = c.r3
  bins : (rowsS binS (dS3 b)).1 = c.bins
  st : (digS (dS4 b)).1 = c.st
  evs : (rowsS evS (dS5 b)).1 = c.evs
theorem isDec (b : List UInt8) : ∃ c, IsDec b c := ⟨⟨_, _, _, _, _, _, _⟩, ⟨rfl, rfl, rfl, rfl, rfl, rfl, rfl⟩⟩
/-- What a commit of bytes is, but for its epoch, and for its bins' order. -/
structure OkC (c : Com) : Prop where
  ep : c.ep < 18446744073709551616
  r1 : OkR c.r1 ∧ c.r1.d.length = 32
  r2 : OkR c.r2 ∧ c.r2.d.length = 32
  r3 : OkR c.r3 ∧ c.r3.d.length = 32
  bins : c.bins.length ≤ 65536 ∧ ∀ b ∈ c.bins, OkB b ∧ b.d.length = 32
  st : c.st.length = 32
  evs : c.evs.length ≤ 65536 ∧ ∀ e ∈ c.evs, e.length ≤ 65536
theorem num0_sound {b : List UInt8} (h : (dS0 b).2 = false) : b = Lib.uvarint (numS 18446744073709551615 (b, false)).1 ++ (dS0 b).1 ∧ (numS 18446744073709551615 (b, false)).1 < 18446744073709551616 := by
  have h' : (numF 18446744073709551615 b).2.2 = false := by
    unfold dS0 numS at h
    simpa using h
  have := numF_sound h'
  exact ⟨this.1, this.2.2⟩
theorem dec_sound {b : List UInt8} {c : Com} (hc : IsDec b c) (h : (dS6 b).2 = false) : b = encC c ++ (dS6 b).1 ∧ OkC c := by
  rw [dS6] at h
  obtain ⟨a1, a2, a3⟩ := (takes_rows takes_ev).sound (dS5 b) h
  rw [← dS6] at a2
  rw [dS5] at a1
  obtain ⟨b1, b2, b3⟩ := takes_dig.sound (dS4 b) a1
  rw [← dS5] at b2
  rw [dS4] at b1
  obtain ⟨c1, c2, c3⟩ := (takes_rows takes_bin).sound (dS3 b) b1
  rw [← dS4] at c2
  rw [dS3] at c1
  obtain ⟨d1, d2, d3⟩ := takes_ref.sound (dS2 b) c1
  rw [← dS3] at d2
  rw [dS2] at d1
  obtain ⟨e1, e2, e3⟩ := takes_ref.sound (dS1 b) d1
  rw [← dS2] at e2
  rw [dS1] at e1
  obtain ⟨f1, f2, f3⟩ := takes_ref.sound (dS0 b) e1
  rw [← dS1] at f2
  have gg := num0_sound f1
  rw [hc.ep] at gg
  rw [hc.r1] at f2 f3
  rw [hc.r2] at e2 e3
  rw [hc.r3] at d2 d3
  rw [hc.bins] at c2 c3
  rw [hc.st] at b2 b3
  rw [hc.evs] at a2 a3
  refine ⟨?_, ⟨gg.2, f3, e3, d3, c3, b3, a3⟩⟩
  have b2' : (dS4 b).1 = c.st ++ (dS5 b).1 := b2
  unfold encC encH
  simp only [List.append_assoc] at a2 c2 ⊢
  rw [← a2, ← b2', ← c2, ← d2, ← e2, ← f2]
  exact gg.1
theorem dec_back {c : Com} (h : OkC c) (t : List UInt8) : IsDec (encC c ++ t) c ∧ dS6 (encC c ++ t) = (t, false) := by
  have e : encC c ++ t = Lib.uvarint c.ep ++ (encR c.r1 ++ (encR c.r2 ++ (encR c.r3 ++ ((Lib.uvarint c.bins.length ++ c.bins.flatMap encN) ++ (id c.st ++ ((Lib.uvarint c.evs.length ++ c.evs.flatMap encE) ++ t)))))) := by
    unfold encC encH
    simp
  generalize encC c ++ t = b at e
  obtain ⟨t6, ht6⟩ : ∃ z, z = (Lib.uvarint c.evs.length ++ c.evs.flatMap encE) ++ t := ⟨_, rfl⟩
  rw [← ht6] at e
  obtain ⟨t5, ht5⟩ : ∃ z, z = id c.st ++ t6 := ⟨_, rfl⟩
  rw [← ht5] at e
  obtain ⟨t4, ht4⟩ : ∃ z, z = (Lib.uvarint c.bins.length ++ c.bins.flatMap encN) ++ t5 := ⟨_, rfl⟩
  rw [← ht4] at e
  obtain ⟨t3, ht3⟩ : ∃ z, z = encR c.r3 ++ t4 := ⟨_, rfl⟩
  rw [← ht3] at e
  obtain ⟨t2, ht2⟩ : ∃ z, z = encR c.r2 ++ t3 := ⟨_, rfl⟩
  rw [← ht2] at e
  obtain ⟨t1, ht1⟩ : ∃ z, z = encR c.r1 ++ t2 := ⟨_, rfl⟩
  rw [← ht1] at e
  have h0 : numS 18446744073709551615 (b, false) = (c.ep, (t1, false)) := by rw [e]; exact (takes_num 18446744073709551615 (by omega)).back c.ep _ ⟨by have := h.ep; omega, h.ep⟩
  have k0 : dS0 b = (t1, false) := by rw [dS0, h0]
  have h1 : refS (dS0 b) = (c.r1, (t2, false)) := by rw [k0, ht1]; exact takes_ref.back c.r1 t2 h.r1
  have k1 : dS1 b = (t2, false) := by rw [dS1, h1]
  have h2 : refS (dS1 b) = (c.r2, (t3, false)) := by rw [k1, ht2]; exact takes_ref.back c.r2 t3 h.r2
  have k2 : dS2 b = (t3, false) := by rw [dS2, h2]
  have h3 : refS (dS2 b) = (c.r3, (t4, false)) := by rw [k2, ht3]; exact takes_ref.back c.r3 t4 h.r3
  have k3 : dS3 b = (t4, false) := by rw [dS3, h3]
  have h4 : rowsS binS (dS3 b) = (c.bins, (t5, false)) := by rw [k3, ht4]; exact (takes_rows takes_bin).back c.bins t5 h.bins
  have k4 : dS4 b = (t5, false) := by rw [dS4, h4]
  have h5 : digS (dS4 b) = (c.st, (t6, false)) := by rw [k4, ht5]; exact takes_dig.back c.st t6 h.st
  have k5 : dS5 b = (t6, false) := by rw [dS5, h5]
  have h6 : rowsS evS (dS5 b) = (c.evs, (t, false)) := by rw [k5, ht6]; exact (takes_rows takes_ev).back c.evs t h.evs
  exact ⟨⟨by rw [h0], by rw [h1], by rw [h2], by rw [h3], by rw [h4], by rw [h5], by rw [h6]⟩, by rw [dS6, h6]⟩
theorem com_ext {c c' : Com} (h1 : c.ep = c'.ep) (h2 : c.r1 = c'.r1) (h3 : c.r2 = c'.r2) (h4 : c.r3 = c'.r3) (h5 : c.bins = c'.bins) (h6 : c.st = c'.st) (h7 : c.evs = c'.evs) : c = c' := by
  cases c
  cases c'
  cases h1
  cases h2
  cases h3
  cases h4
  cases h5
  cases h6
  cases h7
  rfl
theorem dec_one {b : List UInt8} {c c' : Com} (h : IsDec b c) (h' : IsDec b c') : c = c' :=
  com_ext (h.ep.symm.trans h'.ep) (h.r1.symm.trans h'.r1) (h.r2.symm.trans h'.r2) (h.r3.symm.trans h'.r3) (h.bins.symm.trans h'.bins) (h.st.symm.trans h'.st) (h.evs.symm.trans h'.evs)
/-- Two commits' bytes, one a beginning of the other one's. -/
theorem enc_prefix {c c' : Com} (h : OkC c) (h' : OkC c') {t : List UInt8} (e : encC c = encC c' ++ t) : c = c' ∧ t = [] := by
  have e1 := dec_back h []
  have e2 := dec_back h' t
  rw [List.append_nil, e] at e1
  refine ⟨dec_one e1.1 e2.1, ?_⟩
  have e3 := e1.2
  rw [e2.2] at e3
  exact (Prod.mk.inj e3).1
theorem enc_inj {c c' : Com} (h : OkC c) (h' : OkC c') (e : encC c = encC c') : c = c' := (enc_prefix h h' (t := []) (by rw [e]; simp)).1

end Go.Proofs.Ytlfddijmanlneaa

namespace Go.Proofs.Ytlfddijmanlneaa
open Go.RowKit
set_option linter.unusedVariables false
set_option linter.unusedSimpArgs false


def I64 (a : Int) : Prop := -9223372036854775808 ≤ a ∧ a ≤ 9223372036854775807
def rC (r : RefF) : List Value := refC r.d r.a r.n
def bC (b : BinF) : List Value := binC b.x b.a b.n b.d
structure RefW (r : RefF) : Prop where
  d : r.d.length = 32
  a : I64 r.a
  n : I64 r.n
structure BinW (b : BinF) : Prop where
  x : I64 b.x
  a : I64 b.a
  n : I64 b.n
  d : b.d.length = 32
theorem rC_length {r : RefF} (h : RefW r) : (rC r).length = 34 := refC_length h.d _ _
theorem bC_length {b : BinF} (h : BinW b) : (bC b).length = 35 := binC_length _ _ _ h.d
theorem rC_one (r : RefF) : ∀ v ∈ rC r, v.oneCell' = true := refC_cell _ _ _
theorem bC_one (b : BinF) : ∀ v ∈ bC b, v.oneCell' = true := binC_cell _ _ _ _
theorem all_oneC {l : List Value} (h : ∀ v ∈ l, v.oneCell' = true) : l.toArray.all (·.oneCell') = true := by
  rw [List.all_toArray, List.all_eq_true]
  exact h
/-- Things of so many cells each, one behind the other, in blocks below B. -/
def RowOf {α : Type} (f : α → List Value) (sz : Nat) (w : World) (B : Nat) (A : Option Addr) (xs : List α) : Prop :=
  0 < xs.length → ∃ b off, A = some ⟨b, off, none⟩ ∧ b < B ∧ ∀ i x, xs[i]? = some x → w.rangeAt b (off + i * sz) (f x)
theorem RowOf.below {α : Type} {f : α → List Value} {sz : Nat} {w w' : World} {B B' : Nat} {A : Option Addr} {xs : List α} (h : RowOf f sz w B A xs) (hb : Below B' w w') (hB : B ≤ B') : RowOf f sz w' B A xs := fun hp => by
  obtain ⟨b, off, e, hlt, hr⟩ := h hp
  exact ⟨b, off, e, hlt, fun i x hi j v hj => (hb.cell (p := ⟨b, _, none⟩) (show b < B' by omega)).trans (hr i x hi j v hj)⟩
theorem RowOf.more {α : Type} {f : α → List Value} {sz : Nat} {w : World} {B B' : Nat} {A : Option Addr} {xs : List α} (h : RowOf f sz w B A xs) (hB : B ≤ B') : RowOf f sz w B' A xs := fun hp => by
  obtain ⟨b, off, e, hlt, hr⟩ := h hp
  exact ⟨b, off, e, by omega, hr⟩
theorem wpList_allocZC {P : Program} {ops : Array Oper} {rest : List Oper} {o : Oper} {a : Act} {w : World} {Q : Exit → Act → World → Prop} (hg : o.guard = none) (t : TypeId) (ho : o.op = .alloc t) (Z : Array Value) (hz : (zeroValue t).run P w = .ok (.agg Z) w)
    (h : wpList P ops Q rest (a.put o.dst (.pointer (some ⟨w.heap.size, 0, none⟩))) (w.alloc (.cells Z t))) : wpList P ops Q (o :: rest) a w := by
  refine wpList_plain hg fun K hK => ?_
  unfold Oper.wp execOp
  simp only [ho, Instr.alloc, Sem.run_bind, hz, Result.andThen_ok]
  exact hK _ _ h
theorem refZero (w : World) : (zeroValue 26).run Try.prog w = .ok (.agg refZ.toArray) w := by kernel_rfl
theorem binZero (w : World) : (zeroValue 63).run Try.prog w = .ok (.agg binZ.toArray) w := by kernel_rfl

/-! ### taking, whatever went wrong ahead -/
variable {lo : Nat}
theorem number_fl (p most : Nat) (s : St) (w : World) (h : PInL lo w p s.1 s.2) (hm : most < 18446744073709551616) :
    Calls Try.prog 37 #[.pointer (some ⟨p, 0, none⟩), .int .u64 most] w fun e w' => e = .returned (.int .u64 (numS most s).1) ∧ PInL lo w' p (numS most s).2.1 (numS most s).2.2 ∧ Turn p w w' := number_in p most s.1 s.2 w h hm
theorem digest_fl (p : Nat) (s : St) (w : World) (h : PInL lo w p s.1 s.2) :
    Calls Try.prog 41 #[.pointer (some ⟨p, 0, none⟩)] w fun e w' => e = .returned (.agg (Lib.byteCells (digS s).1).toArray) ∧ PInL lo w' p (digS s).2.1 (digS s).2.2 ∧ Turn p w w' := digest_in p s.1 s.2 w h
theorem numS_le (most : Nat) (s : St) : (numS most s).1 ≤ most := numF_le' most s.1
theorem digS_length (s : St) : (digS s).1.length = 32 := digF_length s.1
theorem btake_fl (s : St) (p : Nat) (w : World) (h : PInL lo w p s.1 s.2) (TL : List Value) (hTL : TL = rC (refS s).1) :
    Calls Try.prog 38 #[.pointer (some ⟨p, 0, none⟩)] w fun e w' => e = .returned (.agg TL.toArray) ∧ PInL lo w' p (refS s).2.1 (refS s).2.2 ∧ Turn p w w' := by
  have hT : TL = tkC (digS s).1 (numS 65535 (digS s).2).1 (numS 65536 (numS 65535 (digS s).2).2).1 (refS s).2.2 := by
    rw [hTL]
    unfold tkC refS rC
    cases (numS 65536 (numS 65535 (digS s).2).2).2.2 <;> rfl
  refine btake_gen p (fun w => PInL lo w p s.1 s.2) (fun w => PInL lo w p (digS s).2.1 (digS s).2.2) (fun w => PInL lo w p (numS 65535 (digS s).2).2.1 (numS 65535 (digS s).2).2.2) (fun w => PInL lo w p (refS s).2.1 (refS s).2.2) (digS s).1 (digF_length _) (Lib.byteCells (digS s).1) rfl _ _ (numF_le' _ _) (numF_le' _ _) _ TL hT
    (fun _ _ h k => h.low k) (fun _ _ h k => h.low k) (fun _ _ h k => h.low k) (fun _ _ h k => h.low k) (fun w h => ?_) (fun w h => ?_) (fun w h => ?_) (fun w h => ?_) w h h.lt
  · refine (digest_in p s.1 s.2 w h).mono ?_
    rintro e w' ⟨he, hp, ht⟩
    exact ⟨he, hp, ht⟩
  · refine (show Calls Try.prog 37 #[.pointer (some ⟨p, 0, none⟩), .int .u64 65535] w _ from number_in p 65535 _ _ w h (by omega)).mono ?_
    rintro e w' ⟨he, hp, ht⟩
    exact ⟨he, hp, ht⟩
  · refine (show Calls Try.prog 37 #[.pointer (some ⟨p, 0, none⟩), .int .u64 65536] w _ from number_in p 65536 _ _ w h (by omega)).mono ?_
    rintro e w' ⟨he, hp, ht⟩
    exact ⟨he, hp, ht⟩
  · refine (wrong_in p _ _ w h).mono ?_
    rintro e w' ⟨he, hw⟩
    exact ⟨he, hw.symm⟩
theorem ntake_fl (s : St) (p : Nat) (w : World) (h : PInL lo w p s.1 s.2) (TL : List Value) (hTL : TL = bC (binS s).1) :
    Calls Try.prog 40 #[.pointer (some ⟨p, 0, none⟩)] w fun e w' => e = .returned (.agg TL.toArray) ∧ PInL lo w' p (binS s).2.1 (binS s).2.2 ∧ Turn p w w' := by
  have hT : TL = tkN (numS 2147483647 s).1 (numS 65535 (numS 2147483647 s).2).1 (numS 65536 (numS 65535 (numS 2147483647 s).2).2).1 (digS (numS 65536 (numS 65535 (numS 2147483647 s).2).2).2).1 (binS s).2.2 := by
    rw [hTL]
    unfold tkN binS bC
    cases (digS (numS 65536 (numS 65535 (numS 2147483647 s).2).2).2).2.2 <;> rfl
  refine ntake_gen p (fun w => PInL lo w p s.1 s.2) (fun w => PInL lo w p (numS 2147483647 s).2.1 (numS 2147483647 s).2.2) (fun w => PInL lo w p (numS 65535 (numS 2147483647 s).2).2.1 (numS 65535 (numS 2147483647 s).2).2.2) (fun w => PInL lo w p (numS 65536 (numS 65535 (numS 2147483647 s).2).2).2.1 (numS 65536 (numS 65535 (numS 2147483647 s).2).2).2.2) (fun w => PInL lo w p (binS s).2.1 (binS s).2.2) (digS (numS 65536 (numS 65535 (numS 2147483647 s).2).2).2).1 (digS_length _) (Lib.byteCells (digS (numS 65536 (numS 65535 (numS 2147483647 s).2).2).2).1) rfl _ _ _ (numS_le _ _) (numS_le _ _) (numS_le _ _) _ TL hT
    (fun _ _ h k => h.lowN k) (fun _ _ h k => h.lowN k) (fun _ _ h k => h.lowN k) (fun _ _ h k => h.lowN k) (fun _ _ h k => h.lowN k) (fun w h => ?_) (fun w h => ?_) (fun w h => ?_) (fun w h => ?_) (fun w h => ?_) w h h.lt
  · exact number_fl p 2147483647 s w h (by omega)
  · exact number_fl p 65535 _ w h (by omega)
  · exact number_fl p 65536 _ w h (by omega)
  · exact digest_fl p _ w h
  · refine (wrong_in p _ _ w h).mono ?_
    rintro e w' ⟨he, hw⟩
    exact ⟨he, hw.symm⟩

/-! ### what can't be taken as it was put -/
theorem num_over {most v : Nat} (r : List UInt8) (h : most < v) (hv : v < 18446744073709551616) : numF most (Lib.uvarint v ++ r) = (0, [], true) := by
  unfold numF
  rw [lead_uv v r hv, if_pos (.inr h)]
theorem num_wrong (most : Nat) (s : St) (h : s.2 = true) : (numS most s).2.2 = true := by unfold numS; rw [h]; rfl
theorem dig_wrong (s : St) (h : s.2 = true) : (digS s).2.2 = true := by unfold digS; rw [h]; rfl
theorem num_put (most v : Nat) (r : List UInt8) (hv : v < 18446744073709551616) : numS most (Lib.uvarint v ++ r, false) = if v ≤ most then (v, (r, false)) else (0, ([], true)) := by
  unfold numS
  by_cases h : v ≤ most
  · rw [if_pos h, numF_back most v r h hv]; rfl
  · rw [if_neg h, num_over r (by omega) hv]; rfl
theorem uF_i64 {a : Int} (h : I64 a) (m : Nat) (hm : m ≤ 9223372036854775807) : uF a ≤ m ↔ 0 ≤ a ∧ a ≤ m := by
  obtain ⟨h1, h2⟩ := h
  have e : ((uF a : Nat) : Int) = a % 18446744073709551616 := by rw [← (uF_wrap a).1, IntKind.wrap_u64]
  omega
theorem uN_i64 {a : Int} (h : I64 a) (m : Nat) (hm : m ≤ 9223372036854775807) : uN a ≤ m ↔ 0 ≤ a ∧ a ≤ m := by
  obtain ⟨h1, h2⟩ := h
  have e : ((uN a : Nat) : Int) = a % 18446744073709551616 := by rw [← (uN_wrap a).1, IntKind.wrap_u64]
  omega
theorem zR_ok : OkR zR := by unfold OkR zR; simp
theorem zB_ok : OkB zB := by unfold OkB zB; simp
theorem ref_round {r : RefF} (h : RefW r) : (OkR r → (refS (encR r, false)).1 = r) ∧ (¬ OkR r → (refS (encR r, false)).1 = zR) := by
  refine ⟨fun ho => ?_, fun ho => ?_⟩
  · have := takes_ref.back r [] ⟨ho, h.d⟩
    rw [List.append_nil] at this
    rw [this]
  · have e : encR r = id r.d ++ (Lib.uvarint (uF r.a) ++ (Lib.uvarint (uF r.n) ++ [])) := by unfold encR refB; simp
    have hw : (numS 65536 (numS 65535 (digS (encR r, false)).2).2).2.2 = true := by
      rw [e, takes_dig.back r.d _ h.d]
      dsimp only
      rw [num_put _ _ _ (uF_wrap r.a).2]
      by_cases ha : uF r.a ≤ 65535
      · rw [if_pos ha]
        dsimp only
        rw [num_put _ _ _ (uF_wrap r.n).2]
        by_cases hn : uF r.n ≤ 65536
        · exact absurd (show OkR r from ⟨((uF_i64 h.a _ (by omega)).1 ha).1, by have := ((uF_i64 h.a _ (by omega)).1 ha).2; omega, ((uF_i64 h.n _ (by omega)).1 hn).1, by have := ((uF_i64 h.n _ (by omega)).1 hn).2; omega⟩) ho
        · rw [if_neg hn]
      · rw [if_neg ha]
        first | done | exact num_wrong _ _ rfl
    unfold refS
    rw [if_pos hw]
theorem bin_round {b : BinF} (h : BinW b) : (OkB b → (binS (encN b, false)).1 = b) ∧ (¬ OkB b → (binS (encN b, false)).1 = zB) := by
  refine ⟨fun ho => ?_, fun ho => ?_⟩
  · have := takes_bin.back b [] ⟨ho, h.d⟩
    rw [List.append_nil] at this
    rw [this]
  · have e : encN b = Lib.uvarint (uN b.x) ++ (Lib.uvarint (uN b.a) ++ (Lib.uvarint (uN b.n) ++ b.d)) := by unfold encN binB; simp
    have hw : (digS (numS 65536 (numS 65535 (numS 2147483647 (encN b, false)).2).2).2).2.2 = true := by
      rw [e, num_put _ _ _ (uN_wrap b.x).2]
      by_cases hx : uN b.x ≤ 2147483647
      · rw [if_pos hx]
        dsimp only
        rw [num_put _ _ _ (uN_wrap b.a).2]
        by_cases ha : uN b.a ≤ 65535
        · rw [if_pos ha]
          dsimp only
          rw [num_put _ _ _ (uN_wrap b.n).2]
          by_cases hn : uN b.n ≤ 65536
          · have h1 := (uN_i64 h.x _ (by omega)).1 hx
            have h2 := (uN_i64 h.a _ (by omega)).1 ha
            have h3 := (uN_i64 h.n _ (by omega)).1 hn
            exact absurd (show OkB b from ⟨by omega, by omega, by omega, by omega, by omega, by omega⟩) ho
          · rw [if_neg hn]
            first | done | exact dig_wrong _ rfl
        · rw [if_neg ha]
          first | done | exact dig_wrong _ (num_wrong _ _ rfl)
      · rw [if_neg hx]
        first | done | exact dig_wrong _ (num_wrong _ _ (num_wrong _ _ rfl))
    unfold binS
    rw [if_pos hw]

/-! ### bins compared -/
theorem eqFieldsN_no {P : Program} {d : Nat} {xs ys : Array Value} {f : Field} {fs : List Field} {w : World} {a b : Value} (hn : f.name ≠ "_") (ha : (part f.type xs f.offset).run P w = .ok a w) (hb : (part f.type ys f.offset).run P w = .ok b w) (he : (Op.equalIn d f.type a b).run P w = .ok false w) :
    (Op.eqFields d xs ys (f :: fs)).run P w = .ok false w := by
  rw [Op.eqFields, if_pos hn]
  simp only [Sem.run_bind, ha, hb, he, Result.andThen_ok, Bool.not_false, if_true, Sem.run_pure]
theorem int_eqv_same {d : Nat} {a b : Int} {w : World} : (Op.equalIn (d + 1) 3 (.int .i64 a) (.int .i64 b)).run Try.prog w = .ok (decide (a = b)) w := by
  rw [run_equalIn_int w d 3 .i64 .i64 a b Try.underlying3]
  rfl
theorem bin_eqv (a b : BinF) (ha : a.d.length = 32) (hb : b.d.length = 32) (XL YL : List Value) (hX : XL = bC a) (hY : YL = bC b) (w : World) :
    ∃ r, (Op.equalIn 10000 63 (.agg XL.toArray) (.agg YL.toArray)).run Try.prog w = .ok r w ∧ (r = true ↔ a = b) := by
  subst hX hY
  obtain ⟨x, a1, a2, a3⟩ := a
  obtain ⟨y, b1, b2, b3⟩ := b
  simp only at ha hb
  obtain ⟨f, g, h, k, hl, ⟨f1, f2, f3⟩, ⟨g1, g2, g3⟩, ⟨h1, h2, h3⟩, ⟨k1, k2, k3⟩⟩ := bin_list
  have e0 : ∀ (X Y : Value), Op.equalIn 10000 63 X Y = Op.equalIn (9997 + 1 + 1 + 1) 63 X Y := fun _ _ => rfl
  rw [e0, run_equalIn_struct w (9997 + 1 + 1) 63 _ _ bin_under bin_held, hl]
  have p1 := bin_int_part a3 x a1 a2 w
  have p2 := bin_int_part b3 y b1 b2 w
  have p3 := bin_dig_part ha x a1 a2 w
  have p4 := bin_dig_part hb y b1 b2 w
  have q1 := int_eqv_same (d := 9997 + 1) (a := x) (b := y) (w := w)
  have q2 := int_eqv_same (d := 9997 + 1) (a := a1) (b := b1) (w := w)
  have q3 := int_eqv_same (d := 9997 + 1) (a := a2) (b := b2) (w := w)
  have q4 := dig_eqv_at 9997 a3 b3 ha hb w
  by_cases c1 : x = y
  · rw [decide_eq_true c1] at q1
    rw [eqFieldsN_yes f1 (by rw [f2, f3]; exact p1.1) (by rw [f2, f3]; exact p2.1) (by rw [f2]; exact q1)]
    by_cases c2 : a1 = b1
    · rw [decide_eq_true c2] at q2
      rw [eqFieldsN_yes g1 (by rw [g2, g3]; exact p1.2.1) (by rw [g2, g3]; exact p2.2.1) (by rw [g2]; exact q2)]
      by_cases c3 : a2 = b2
      · rw [decide_eq_true c3] at q3
        rw [eqFieldsN_yes h1 (by rw [h2, h3]; exact p1.2.2) (by rw [h2, h3]; exact p2.2.2) (by rw [h2]; exact q3)]
        by_cases c4 : a3 = b3
        · rw [decide_eq_true c4] at q4
          rw [eqFieldsN_yes k1 (by rw [k2, k3]; exact p3) (by rw [k2, k3]; exact p4) (by rw [k2]; exact q4), eqFieldsN_nil]
          exact ⟨true, rfl, by simp [c1, c2, c3, c4]⟩
        · rw [decide_eq_false c4] at q4
          rw [eqFieldsN_no k1 (by rw [k2, k3]; exact p3) (by rw [k2, k3]; exact p4) (by rw [k2]; exact q4)]
          exact ⟨false, rfl, by simp [c4]⟩
      · rw [decide_eq_false c3] at q3
        rw [eqFieldsN_no h1 (by rw [h2, h3]; exact p1.2.2) (by rw [h2, h3]; exact p2.2.2) (by rw [h2]; exact q3)]
        exact ⟨false, rfl, by simp [c3]⟩
    · rw [decide_eq_false c2] at q2
      rw [eqFieldsN_no g1 (by rw [g2, g3]; exact p1.2.1) (by rw [g2, g3]; exact p2.2.1) (by rw [g2]; exact q2)]
      exact ⟨false, rfl, by simp [c2]⟩
  · rw [decide_eq_false c1] at q1
    rw [eqFieldsN_no f1 (by rw [f2, f3]; exact p1.1) (by rw [f2, f3]; exact p2.1) (by rw [f2]; exact q1)]
    exact ⟨false, rfl, by simp [c1]⟩
theorem refs_eqv (a b : RefF) (ha : a.d.length = 32) (hb : b.d.length = 32) (XL YL : List Value) (hX : XL = rC a) (hY : YL = rC b) (w : World) :
    ∃ r, (Op.equalIn 10000 26 (.agg XL.toArray) (.agg YL.toArray)).run Try.prog w = .ok r w ∧ (r = true ↔ a = b) := by
  refine ⟨_, ref_eqv a.d b.d ha hb a.a a.n b.a b.n XL YL hX hY w, ?_⟩
  simp only [Bool.and_eq_true, decide_eq_true_eq, beq_iff_eq]
  obtain ⟨x, y, z⟩ := a
  obtain ⟨x', y', z'⟩ := b
  simp [and_assoc]

end Go.Proofs.Ytlfddijmanlneaa

namespace Go.Proofs.Ytlfddijmanlneaa
open Go.RowKit
set_option linter.unusedVariables false
set_option linter.unusedSimpArgs false


theorem encR_lim (r : RefF) : (encR r).length ≤ r.d.length + 40 := by
  have e1 := Lib.uvarint_length64 (uF_wrap r.a).2
  have e2 := Lib.uvarint_length64 (uF_wrap r.n).2
  unfold encR refB
  simp only [List.length_append, List.nil_append]
  omega
theorem encN_lim (b : BinF) : (encN b).length ≤ b.d.length + 40 := by
  have e1 := Lib.uvarint_length64 (uN_wrap b.x).2
  have e2 := Lib.uvarint_length64 (uN_wrap b.a).2
  have e3 := Lib.uvarint_length64 (uN_wrap b.n).2
  unfold encN binB
  simp only [List.length_append]
  omega

set_option maxHeartbeats 4000000 in
set_option maxRecDepth 100000 in
theorem rback_any (A : Option Addr) (n c : Nat) (rs : List RefF) (hn : rs.length = n) (hc : n ≤ c) (hm : c ≤ maxLen) (hn2 : n ≤ 1000000) (w : World) (h : RowOf rC 34 w w.heap.size A rs) (hd : ∀ r ∈ rs, RefW r) (b : Bool) (hb : b = true ↔ ∀ r ∈ rs, OkR r) :
    Calls Try.prog 60 #[.func (.func 25) #[] #[], .func (.func 38) #[] #[], .slice A n c] w fun e w' => e = .returned (.bool b) ∧ Below w.heap.size w w' := by
  have hm' : c ≤ 9223372036854775807 := by unfold maxLen at hm; omega
  obtain ⟨ZL, hZL⟩ : ∃ z, z = refZ := ⟨_, rfl⟩
  have HZ := Lib.hid (fun w : World => show (zeroValue 26).run Try.prog w = .ok (.agg ZL.toArray) w by rw [hZL]; exact refZero w)
  have HZl := Lib.hid (show ZL.length = 34 by rw [hZL]; rfl)
  have Hn := Lib.hid hn
  have Hh := Lib.hid h
  have Hd := Lib.hid hd
  have Hb := Lib.hid hb
  clear hn h hd hb hZL
  go_enter Try.func60, Try.ntmps60
  go_wp2_with fail
  go_loopw [11] (fun i wr => ∃ k : Nat, k ≤ n ∧ i = .int .i64 k ∧ Below w.heap.size w wr ∧ Hid (∀ j r, j < k → rs[j]? = some r → OkR r)) (fun i _ => n - (Go.RowKit.intOf i).toNat)
  case atStart => exact ⟨0, Nat.zero_le _, rfl, Below.refl _ _, fun j r hj => by omega⟩
  case round =>
    obtain ⟨k, hk, rfl, hbr, Hk⟩ := hrel
    by_cases hlt : k < n
    · have hd1 : decide ((k : Int) < (n : Int)) = true := by simp; omega
      obtain ⟨x, hx⟩ : ∃ x, rs[k]? = some x := ⟨rs[k]'(by rw [Hn.out]; exact hlt), List.getElem?_eq_getElem _⟩
      obtain ⟨bb, off, rfl, hblk, hrow⟩ := Hh.out (by rw [Hn.out]; omega)
      have hxw := Hd.out x (List.mem_of_getElem? hx)
      obtain ⟨XL, hXL⟩ : ∃ z, z = rC x := ⟨_, rfl⟩
      have hXl : XL.length = 34 := by rw [hXL, rC_length hxw]
      have hrg : wr.rangeAt bb (off + k * 34) XL := fun j v hj => by
        rw [hXL] at hj
        rw [← hrow k x hx j v hj]
        exact World.cell?_of_block (hbr.block bb hblk)
      have HXi := Lib.hid (show (Try.prog.info? 26).map (·.size) = some XL.length by rw [hXl]; exact refSize)
      have HXj := Lib.hid (show (Try.prog.info? 26).map (·.size) = some XL.toArray.size by rw [List.size_toArray, hXl]; exact refSize)
      have HX1 := Lib.hid (show XL.toArray.all (·.oneCell') = true by rw [hXL]; exact all_oneC (rC_one x))
      have HXz := Lib.hid (show ZL.toArray.size = XL.toArray.size by rw [List.size_toArray, List.size_toArray, HZl.out, hXl])
      obtain ⟨wa, hwa⟩ : ∃ W, W = (wr.alloc (.cells ZL.toArray 26)).setRow wr.heap.size XL.toArray := ⟨_, rfl⟩
      obtain ⟨hXa, hbra⟩ := alloc_row wr 26 ZL.toArray XL
      rw [← hwa] at hXa hbra
      have hba : Below w.heap.size w wa := hbr.trans (hbra.mono hbr.size)
      obtain ⟨g, hg⟩ : ∃ z, z = wr.heap.size := ⟨_, rfl⟩
      have Hwa := Lib.hid hwa
      have Hxw := Lib.hid hxw
      have Hx := Lib.hid hx
      have HXL := Lib.hid hXL
      have hltg := hXa.lt
      clear hwa hx hrow hXl hbra hxw hXL
      go_upto_region 4 with (first
        | (refine wpList_load_mid rfl _ _ rfl bb (off + k * 34) rfl XL _ hrg Try.underlying26 rfl HXi.out ?_)
        | (refine wpList_allocZC rfl 26 rfl ZL.toArray (HZ.out _) ?_)
        | (refine wpList_store_row rfl _ _ _ rfl wr.heap.size XL.toArray rfl rfl 26 ZL.toArray (heap_alloc_new wr _) HXj.out HXz.out HX1.out ?_; rw [← Hwa.out]))
      rw [← hg] at hXa hltg ⊢
      have hhg : Hid (w.heap.size ≤ g) := Lib.hid (by rw [hg]; exact hbr.size)
      clear hrg hbr hg
      refine wp_region_held_drew (S := fun w' => Arr w' g 26 XL) (by kernel_rfl) hXa (fun hHeld => ?_)
      have hB0 : Below wa.heap.size wa wa.drew := Below.dN (Below.refl _ _) 1
      obtain ⟨wd, hwd⟩ : ∃ x, x = wa.drew := ⟨_, rfl⟩
      rw [← hwd] at hB0 ⊢
      try rw [← hwd] at hHeld
      clear hwd
      refine anyH_take (i := 0) (v := .func (.func 38) #[] #[]) (some 15) rfl rfl (by kernel_rfl) (by kernel_rfl) (by kernel_rfl) (fun _ _ _ h => h) (Or.inl ⟨by rfl, fun w' hw => by rfl⟩) (by assumption) ?_
      simp only [Act.put, List.setIfInBounds_toArray, List.set_cons_zero, List.set_cons_succ]
      refine anyH_take (i := 1) (v := .func (.func 25) #[] #[]) (some 16) rfl rfl (by kernel_rfl) (by kernel_rfl) (by kernel_rfl) (fun _ _ _ h => h) (Or.inl ⟨by rfl, fun w' hw => by rfl⟩) (by assumption) ?_
      simp only [Act.put, List.setIfInBounds_toArray, List.set_cons_zero, List.set_cons_succ]
      refine anyH_take (i := 2) (some 17) rfl rfl (by kernel_rfl) (by kernel_rfl) (by kernel_rfl) (fun _ _ _ h => h) (yieldsIf_load_mid (by rfl) 26 (.tmp 8) rfl g 0 rfl XL _ (fun w' h => Arr.range h) Try.underlying26 rfl HXi.out) (by assumption) ?_
      simp only [Act.put, List.setIfInBounds_toArray, List.set_cons_zero, List.set_cons_succ]
      refine anyH_take (i := 6) (some 21) rfl rfl (by kernel_rfl) (by kernel_rfl) (by kernel_rfl) (fun _ _ _ h => h) (yieldsIf_load_mid (by rfl) 26 (.tmp 8) rfl g 0 rfl XL _ (fun w' h => Arr.range h) Try.underlying26 rfl HXi.out) (by assumption) ?_
      simp only [Act.put, List.setIfInBounds_toArray, List.set_cons_zero, List.set_cons_succ]
      refine wpAnyH_ready (rs := [3]) (by kernel_rfl) (by simp) ?_
      refine AllReadyH.cons rfl (fun K hK => ?_) AllReadyH.nil
      go_simp
      go_at_call 25
      refine Calls.mono (bput_any [] x.d Hxw.out.d x.a x.n XL HXL.out none 0 0 wd rfl (by omega) (Nat.le_refl _) (by unfold maxLen; omega) (Bs.nil _ _ _)) ?_
      rintro e w4 ⟨v4, rfl, hO4, hb4⟩
      have hB4 := hB0.trans (hb4.mono hB0.size)
      obtain ⟨A4, c4, rfl, h4c, h4m, hBs4⟩ := hO4.slice
      obtain ⟨l4, hl4⟩ : ∃ z, encR x = z := ⟨_, rfl⟩
      rw [show refB [] x.d x.a x.n = l4 from hl4] at hBs4 h4c ⊢
      have Hl4 := Lib.hid hl4
      clear hl4 hO4 hb4
      go_wp2_with fail
      refine hK.out _ _ (hXa.up hB4) (fun hHeldx => ?_)
      clear hK K
      try simp only [Act.put, List.setIfInBounds_toArray, List.set_cons_zero, List.set_cons_succ]
      refine wpAnyH_ready (rs := [4]) (by kernel_rfl) (by simp) ?_
      refine AllReadyH.cons rfl (fun K hK => ?_) AllReadyH.nil
      go_simp
      go_at_call 36
      refine Calls.mono (from_any w4.heap.size A4 c4 l4 w4 hBs4 (by rw [← Hl4.out]; have := Hxw.out.d; have := encR_lim x; omega)) ?_
      rintro e w5 ⟨p5, rfl, hp5, hP5, hb5⟩
      have hB5 := hB4.trans (hb5.mono hB4.size)
      have h5w := hB5.size
      have hPl := hP5.lt
      have HP5 := Lib.hid hP5
      clear hBs4 hP5 hb5 h4c h4m
      go_wp2_with fail
      refine hK.out _ _ (hXa.up hB5) (fun hHeldx => ?_)
      clear hK K
      try simp only [Act.put, List.setIfInBounds_toArray, List.set_cons_zero, List.set_cons_succ]
      obtain ⟨TL, hTL⟩ : ∃ z, z = rC (refS (l4, false)).1 := ⟨_, rfl⟩
      obtain ⟨r0, hr0, hr1⟩ : ∃ r0 : Bool, (∀ w, (Op.equalIn 10000 26 (.agg TL.toArray) (.agg XL.toArray)).run Try.prog w = .ok r0 w) ∧ (r0 = true ↔ OkR x) := by
        rw [← Hl4.out] at hTL
        by_cases ho : OkR x
        · have e := (ref_round Hxw.out).1 ho
          rw [e] at hTL
          obtain ⟨r, h1, h2⟩ := refs_eqv x x Hxw.out.d Hxw.out.d TL XL hTL HXL.out wa
          exact ⟨true, fun w => by
            obtain ⟨r', h1', h2'⟩ := refs_eqv x x Hxw.out.d Hxw.out.d TL XL hTL HXL.out w
            rw [h1', h2'.2 rfl], ⟨fun _ => ho, fun _ => rfl⟩⟩
        · have e := (ref_round Hxw.out).2 ho
          rw [e] at hTL
          exact ⟨false, fun w => by
            obtain ⟨r', h1', h2'⟩ := refs_eqv zR x rfl Hxw.out.d TL XL hTL HXL.out w
            rw [h1']
            cases r' with
            | false => rfl
            | true => exact absurd (h2'.1 rfl ▸ zR_ok) ho, ⟨fun h => (by cases h), fun h => absurd h ho⟩⟩
      have Hr0 := Lib.hid hr0
      have Hr1 := Lib.hid hr1
      have HTL := Lib.hid hTL
      clear hr0 hr1 hTL
      refine wpAnyH_ready (rs := [5]) (by kernel_rfl) (by simp) ?_
      refine AllReadyH.cons rfl (fun K hK => ?_) AllReadyH.nil
      go_simp
      go_at_call 38
      refine Calls.mono (btake_fl (l4, false) p5 w5 HP5.out TL HTL.out) ?_
      rintro e w6 ⟨rfl, _, ht6⟩
      have hB6 : Below wa.heap.size wa w6 := hB5.trans ((Turn.only ht6).below (by have := hB4.size; omega) (by rintro j rfl; have := hB4.size; omega))
      clear ht6
      go_wp2_with fail
      refine hK.out _ _ (hXa.up hB6) (fun hHeldx => ?_)
      clear hK K
      try simp only [Act.put, List.setIfInBounds_toArray, List.set_cons_zero, List.set_cons_succ]
      refine anyH_take (i := 7) (v := .bool (!r0)) (some 22) rfl rfl (by kernel_rfl) (by kernel_rfl) (by kernel_rfl) (fun _ _ _ h => h) (Or.inl ⟨by rfl, fun w' hw => by (have hc := Hr0.out; have hg := gtR; go_simp)⟩) (by assumption) ?_
      simp only [Act.put, List.setIfInBounds_toArray, List.set_cons_zero, List.set_cons_succ]
      refine wpAnyH_done (by kernel_rfl) ?_ _
      have hb6w : Below w.heap.size w w6 := hba.trans (hB6.mono hba.size)
      clear hHeld hB6 hB5 hB4 hB0 hXa
      cases r0 with
      | false =>
        have Hno : Hid (b = false) := Lib.hid (by
          cases b with
          | false => rfl
          | true =>
            have := Hr1.out.2 (Hb.out.1 rfl x (List.mem_of_getElem? Hx.out))
            cases this)
        go_wp2_with fail
        go_ret
        exact ⟨by rw [Hno.out]; rfl, hb6w⟩
      | true =>
        have Hk2 : Hid (∀ j r, j < k + 1 → rs[j]? = some r → OkR r) := fun j r hj hr => by
          by_cases e : j = k
          · subst e
            rw [Hx.out] at hr
            injection hr with hr
            rw [← hr]
            exact Hr1.out.1 rfl
          · exact Hk.out j r (by omega) hr
        go_wp2_with fail
        go_roundw
        case rel => exact ⟨k + 1, by omega, by go_num, hb6w, Hk2⟩
        case measure => simp [Go.RowKit.intOf]; omega
    · obtain rfl : k = n := by omega
      have hd1 : decide (k < k) = false := by simp
      have Hyes : Hid (b = true) := Lib.hid (Hb.out.2 fun r hr => by
        obtain ⟨j, hj, rfl⟩ := List.getElem_of_mem hr
        exact Hk.out j _ (by rw [← Hn.out]; exact hj) (List.getElem?_eq_getElem hj))
      go_wp2_with fail
      go_ret
      exact ⟨by rw [Hyes.out]; rfl, hbr⟩

set_option maxHeartbeats 4000000 in
set_option maxRecDepth 100000 in
theorem nback_any (A : Option Addr) (n c : Nat) (rs : List BinF) (hn : rs.length = n) (hc : n ≤ c) (hm : c ≤ maxLen) (hn2 : n ≤ 1000000) (w : World) (h : RowOf bC 35 w w.heap.size A rs) (hd : ∀ r ∈ rs, BinW r) (b : Bool) (hb : b = true ↔ ∀ r ∈ rs, OkB r) :
    Calls Try.prog 61 #[.func (.func 27) #[] #[], .func (.func 40) #[] #[], .slice A n c] w fun e w' => e = .returned (.bool b) ∧ Below w.heap.size w w' := by
  have hm' : c ≤ 9223372036854775807 := by unfold maxLen at hm; omega
  obtain ⟨ZL, hZL⟩ : ∃ z, z = binZ := ⟨_, rfl⟩
  have HZ := Lib.hid (fun w : World => show (zeroValue 63).run Try.prog w = .ok (.agg ZL.toArray) w by rw [hZL]; exact binZero w)
  have HZl := Lib.hid (show ZL.length = 35 by rw [hZL]; rfl)
  have Hn := Lib.hid hn
  have Hh := Lib.hid h
  have Hd := Lib.hid hd
  have Hb := Lib.hid hb
  clear hn h hd hb hZL
  go_enter Try.func61, Try.ntmps61
  go_wp2_with fail
  go_loopw [11] (fun i wr => ∃ k : Nat, k ≤ n ∧ i = .int .i64 k ∧ Below w.heap.size w wr ∧ Hid (∀ j r, j < k → rs[j]? = some r → OkB r)) (fun i _ => n - (Go.RowKit.intOf i).toNat)
  case atStart => exact ⟨0, Nat.zero_le _, rfl, Below.refl _ _, fun j r hj => by omega⟩
  case round =>
    obtain ⟨k, hk, rfl, hbr, Hk⟩ := hrel
    by_cases hlt : k < n
    · have hd1 : decide ((k : Int) < (n : Int)) = true := by simp; omega
      obtain ⟨x, hx⟩ : ∃ x, rs[k]? = some x := ⟨rs[k]'(by rw [Hn.out]; exact hlt), List.getElem?_eq_getElem _⟩
      obtain ⟨bb, off, rfl, hblk, hrow⟩ := Hh.out (by rw [Hn.out]; omega)
      have hxw := Hd.out x (List.mem_of_getElem? hx)
      obtain ⟨XL, hXL⟩ : ∃ z, z = bC x := ⟨_, rfl⟩
      have hXl : XL.length = 35 := by rw [hXL, bC_length hxw]
      have hrg : wr.rangeAt bb (off + k * 35) XL := fun j v hj => by
        rw [hXL] at hj
        rw [← hrow k x hx j v hj]
        exact World.cell?_of_block (hbr.block bb hblk)
      have HXi := Lib.hid (show (Try.prog.info? 63).map (·.size) = some XL.length by rw [hXl]; exact binSize)
      have HXj := Lib.hid (show (Try.prog.info? 63).map (·.size) = some XL.toArray.size by rw [List.size_toArray, hXl]; exact binSize)
      have HX1 := Lib.hid (show XL.toArray.all (·.oneCell') = true by rw [hXL]; exact all_oneC (bC_one x))
      have HXz := Lib.hid (show ZL.toArray.size = XL.toArray.size by rw [List.size_toArray, List.size_toArray, HZl.out, hXl])
      obtain ⟨wa, hwa⟩ : ∃ W, W = (wr.alloc (.cells ZL.toArray 63)).setRow wr.heap.size XL.toArray := ⟨_, rfl⟩
      obtain ⟨hXa, hbra⟩ := alloc_row wr 63 ZL.toArray XL
      rw [← hwa] at hXa hbra
      have hba : Below w.heap.size w wa := hbr.trans (hbra.mono hbr.size)
      obtain ⟨g, hg⟩ : ∃ z, z = wr.heap.size := ⟨_, rfl⟩
      have Hwa := Lib.hid hwa
      have Hxw := Lib.hid hxw
      have Hx := Lib.hid hx
      have HXL := Lib.hid hXL
      have hltg := hXa.lt
      clear hwa hx hrow hXl hbra hxw hXL
      go_upto_region 4 with (first
        | (refine wpList_load_mid rfl _ _ rfl bb (off + k * 35) rfl XL _ hrg Try.underlying63 rfl HXi.out ?_)
        | (refine wpList_allocZC rfl 63 rfl ZL.toArray (HZ.out _) ?_)
        | (refine wpList_store_row rfl _ _ _ rfl wr.heap.size XL.toArray rfl rfl 63 ZL.toArray (heap_alloc_new wr _) HXj.out HXz.out HX1.out ?_; rw [← Hwa.out]))
      rw [← hg] at hXa hltg ⊢
      have hhg : Hid (w.heap.size ≤ g) := Lib.hid (by rw [hg]; exact hbr.size)
      clear hrg hbr hg
      refine wp_region_held_drew (S := fun w' => Arr w' g 63 XL) (by kernel_rfl) hXa (fun hHeld => ?_)
      have hB0 : Below wa.heap.size wa wa.drew := Below.dN (Below.refl _ _) 1
      obtain ⟨wd, hwd⟩ : ∃ x, x = wa.drew := ⟨_, rfl⟩
      rw [← hwd] at hB0 ⊢
      try rw [← hwd] at hHeld
      clear hwd
      refine anyH_take (i := 0) (v := .func (.func 40) #[] #[]) (some 15) rfl rfl (by kernel_rfl) (by kernel_rfl) (by kernel_rfl) (fun _ _ _ h => h) (Or.inl ⟨by rfl, fun w' hw => by rfl⟩) (by assumption) ?_
      simp only [Act.put, List.setIfInBounds_toArray, List.set_cons_zero, List.set_cons_succ]
      refine anyH_take (i := 1) (v := .func (.func 27) #[] #[]) (some 16) rfl rfl (by kernel_rfl) (by kernel_rfl) (by kernel_rfl) (fun _ _ _ h => h) (Or.inl ⟨by rfl, fun w' hw => by rfl⟩) (by assumption) ?_
      simp only [Act.put, List.setIfInBounds_toArray, List.set_cons_zero, List.set_cons_succ]
      refine anyH_take (i := 2) (some 17) rfl rfl (by kernel_rfl) (by kernel_rfl) (by kernel_rfl) (fun _ _ _ h => h) (yieldsIf_load_mid (by rfl) 63 (.tmp 8) rfl g 0 rfl XL _ (fun w' h => Arr.range h) Try.underlying63 rfl HXi.out) (by assumption) ?_
      simp only [Act.put, List.setIfInBounds_toArray, List.set_cons_zero, List.set_cons_succ]
      refine anyH_take (i := 6) (some 21) rfl rfl (by kernel_rfl) (by kernel_rfl) (by kernel_rfl) (fun _ _ _ h => h) (yieldsIf_load_mid (by rfl) 63 (.tmp 8) rfl g 0 rfl XL _ (fun w' h => Arr.range h) Try.underlying63 rfl HXi.out) (by assumption) ?_
      simp only [Act.put, List.setIfInBounds_toArray, List.set_cons_zero, List.set_cons_succ]
      refine wpAnyH_ready (rs := [3]) (by kernel_rfl) (by simp) ?_
      refine AllReadyH.cons rfl (fun K hK => ?_) AllReadyH.nil
      go_simp
      go_at_call 27
      refine Calls.mono (nput_any x.x x.a x.n x.d Hxw.out.d XL HXL.out wd) ?_
      rintro e w4 ⟨v4, rfl, hO4, hb4⟩
      have hB4 := hB0.trans (hb4.mono hB0.size)
      obtain ⟨A4, c4, rfl, h4c, h4m, hBs4⟩ := hO4.slice
      obtain ⟨l4, hl4⟩ : ∃ z, encN x = z := ⟨_, rfl⟩
      rw [show binB x.x x.a x.n x.d = l4 from hl4] at hBs4 h4c ⊢
      have Hl4 := Lib.hid hl4
      clear hl4 hO4 hb4
      go_wp2_with fail
      refine hK.out _ _ (hXa.up hB4) (fun hHeldx => ?_)
      clear hK K
      try simp only [Act.put, List.setIfInBounds_toArray, List.set_cons_zero, List.set_cons_succ]
      refine wpAnyH_ready (rs := [4]) (by kernel_rfl) (by simp) ?_
      refine AllReadyH.cons rfl (fun K hK => ?_) AllReadyH.nil
      go_simp
      go_at_call 36
      refine Calls.mono (from_any w4.heap.size A4 c4 l4 w4 hBs4 (by rw [← Hl4.out]; have := Hxw.out.d; have := encN_lim x; omega)) ?_
      rintro e w5 ⟨p5, rfl, hp5, hP5, hb5⟩
      have hB5 := hB4.trans (hb5.mono hB4.size)
      have h5w := hB5.size
      have hPl := hP5.lt
      have HP5 := Lib.hid hP5
      clear hBs4 hP5 hb5 h4c h4m
      go_wp2_with fail
      refine hK.out _ _ (hXa.up hB5) (fun hHeldx => ?_)
      clear hK K
      try simp only [Act.put, List.setIfInBounds_toArray, List.set_cons_zero, List.set_cons_succ]
      obtain ⟨TL, hTL⟩ : ∃ z, z = bC (binS (l4, false)).1 := ⟨_, rfl⟩
      obtain ⟨r0, hr0, hr1⟩ : ∃ r0 : Bool, (∀ w, (Op.equalIn 10000 63 (.agg TL.toArray) (.agg XL.toArray)).run Try.prog w = .ok r0 w) ∧ (r0 = true ↔ OkB x) := by
        rw [← Hl4.out] at hTL
        by_cases ho : OkB x
        · have e := (bin_round Hxw.out).1 ho
          rw [e] at hTL
          obtain ⟨r, h1, h2⟩ := bin_eqv x x Hxw.out.d Hxw.out.d TL XL hTL HXL.out wa
          exact ⟨true, fun w => by
            obtain ⟨r', h1', h2'⟩ := bin_eqv x x Hxw.out.d Hxw.out.d TL XL hTL HXL.out w
            rw [h1', h2'.2 rfl], ⟨fun _ => ho, fun _ => rfl⟩⟩
        · have e := (bin_round Hxw.out).2 ho
          rw [e] at hTL
          exact ⟨false, fun w => by
            obtain ⟨r', h1', h2'⟩ := bin_eqv zB x rfl Hxw.out.d TL XL hTL HXL.out w
            rw [h1']
            cases r' with
            | false => rfl
            | true => exact absurd (h2'.1 rfl ▸ zB_ok) ho, ⟨fun h => (by cases h), fun h => absurd h ho⟩⟩
      have Hr0 := Lib.hid hr0
      have Hr1 := Lib.hid hr1
      have HTL := Lib.hid hTL
      clear hr0 hr1 hTL
      refine wpAnyH_ready (rs := [5]) (by kernel_rfl) (by simp) ?_
      refine AllReadyH.cons rfl (fun K hK => ?_) AllReadyH.nil
      go_simp
      go_at_call 40
      refine Calls.mono (ntake_fl (l4, false) p5 w5 HP5.out TL HTL.out) ?_
      rintro e w6 ⟨rfl, _, ht6⟩
      have hB6 : Below wa.heap.size wa w6 := hB5.trans ((Turn.only ht6).below (by have := hB4.size; omega) (by rintro j rfl; have := hB4.size; omega))
      clear ht6
      go_wp2_with fail
      refine hK.out _ _ (hXa.up hB6) (fun hHeldx => ?_)
      clear hK K
      try simp only [Act.put, List.setIfInBounds_toArray, List.set_cons_zero, List.set_cons_succ]
      refine anyH_take (i := 7) (v := .bool (!r0)) (some 22) rfl rfl (by kernel_rfl) (by kernel_rfl) (by kernel_rfl) (fun _ _ _ h => h) (Or.inl ⟨by rfl, fun w' hw => by (have hc := Hr0.out; have hg := gtNN; go_simp)⟩) (by assumption) ?_
      simp only [Act.put, List.setIfInBounds_toArray, List.set_cons_zero, List.set_cons_succ]
      refine wpAnyH_done (by kernel_rfl) ?_ _
      have hb6w : Below w.heap.size w w6 := hba.trans (hB6.mono hba.size)
      clear hHeld hB6 hB5 hB4 hB0 hXa
      cases r0 with
      | false =>
        have Hno : Hid (b = false) := Lib.hid (by
          cases b with
          | false => rfl
          | true =>
            have := Hr1.out.2 (Hb.out.1 rfl x (List.mem_of_getElem? Hx.out))
            cases this)
        go_wp2_with fail
        go_ret
        exact ⟨by rw [Hno.out]; rfl, hb6w⟩
      | true =>
        have Hk2 : Hid (∀ j r, j < k + 1 → rs[j]? = some r → OkB r) := fun j r hj hr => by
          by_cases e : j = k
          · subst e
            rw [Hx.out] at hr
            injection hr with hr
            rw [← hr]
            exact Hr1.out.1 rfl
          · exact Hk.out j r (by omega) hr
        go_wp2_with fail
        go_roundw
        case rel => exact ⟨k + 1, by omega, by go_num, hb6w, Hk2⟩
        case measure => simp [Go.RowKit.intOf]; omega
    · obtain rfl : k = n := by omega
      have hd1 : decide (k < k) = false := by simp
      have Hyes : Hid (b = true) := Lib.hid (Hb.out.2 fun r hr => by
        obtain ⟨j, hj, rfl⟩ := List.getElem_of_mem hr
        exact Hk.out j _ (by rw [← Hn.out]; exact hj) (List.getElem?_eq_getElem hj))
      go_wp2_with fail
      go_ret
      exact ⟨by rw [Hyes.out]; rfl, hbr⟩

end Go.Proofs.Ytlfddijmanlneaa

namespace Go.Proofs.Ytlfddijmanlneaa
open Go.RowKit
set_option linter.unusedVariables false
set_option linter.unusedSimpArgs false

/-- A commit, and where its bins and its events lie. -/
structure Cx where
  c : Com
  Ab : Option Addr
  cb : Nat
  Ae : Option Addr
  ce : Nat
def comV (ep : Nat) (R1 R2 R3 : List Value) (bv : Value) (SL : List Value) (ev : Value) : List Value := .int .u64 (ep : Nat) :: (R1 ++ (R2 ++ (R3 ++ (bv :: (SL ++ [ev])))))
def comC (x : Cx) : List Value := comV x.c.ep (rC x.c.r1) (rC x.c.r2) (rC x.c.r3) (.slice x.Ab x.c.bins.length x.cb) (Lib.byteCells x.c.st) (.slice x.Ae x.c.evs.length x.ce)
structure CxOk (w : World) (B : Nat) (x : Cx) : Prop where
  ep : x.c.ep < 18446744073709551616
  r1 : RefW x.c.r1
  r2 : RefW x.c.r2
  r3 : RefW x.c.r3
  bw : ∀ b ∈ x.c.bins, BinW b
  st : x.c.st.length = 32
  lb : x.c.bins.length ≤ x.cb
  mb : x.cb ≤ maxLen
  le : x.c.evs.length ≤ x.ce
  me : x.ce ≤ maxLen
  bins : RowOf bC 35 w B x.Ab x.c.bins
  evs : RowsAt w B x.Ae x.c.evs
theorem CxOk.below {w w' : World} {B B' : Nat} {x : Cx} (h : CxOk w B x) (hb : Below B' w w') (hB : B ≤ B') : CxOk w' B x := { h with bins := h.bins.below hb hB, evs := h.evs.below hb hB }
theorem CxOk.more {w : World} {B B' : Nat} {x : Cx} (h : CxOk w B x) (hB : B ≤ B') : CxOk w B' x := { h with bins := h.bins.more hB, evs := h.evs.more hB }
theorem comV_length {ep : Nat} {R1 R2 R3 SL : List Value} {bv ev : Value} (h1 : R1.length = 34) (h2 : R2.length = 34) (h3 : R3.length = 34) (hs : SL.length = 32) : (comV ep R1 R2 R3 bv SL ev).length = 137 := by
  unfold comV
  simp only [List.length_cons, List.length_append, List.length_nil, h1, h2, h3, hs]
theorem comC_length {w : World} {B : Nat} {x : Cx} (h : CxOk w B x) : (comC x).length = 137 := comV_length (rC_length h.r1) (rC_length h.r2) (rC_length h.r3) (by rw [Lib.byteCells_length, h.st])
theorem comC_one (x : Cx) : ∀ v ∈ comC x, v.oneCell' = true := by
  intro v hv
  simp only [comC, comV, List.mem_cons, List.mem_append, List.not_mem_nil, or_false] at hv
  rcases hv with rfl | hv | hv | hv | rfl | hv | rfl
  · rfl
  · exact rC_one _ v hv
  · exact rC_one _ v hv
  · exact rC_one _ v hv
  · rfl
  · exact byteCells_one _ v hv
  · rfl
theorem comSize : (Try.prog.info? 30).map (·.size) = some 137 := by kernel_rfl
theorem mid_at {pre l post : List Value} {k : Nat} (hk : pre.length = k) (j : Nat) (v : Value) (hj : l[j]? = some v) : (pre ++ (l ++ post))[k + j]? = some v := by
  rw [List.getElem?_append_right (by omega), hk, Nat.add_sub_cancel_left, List.getElem?_append_left (List.getElem?_eq_some_iff.1 hj).1]
  exact hj
/-- What lies at a commit's places. -/
theorem comV_parts {ep : Nat} {R1 R2 R3 SL : List Value} {bv ev : Value} (h1 : R1.length = 34) (h2 : R2.length = 34) (h3 : R3.length = 34) (hs : SL.length = 32) :
    (comV ep R1 R2 R3 bv SL ev)[0]? = some (.int .u64 (ep : Nat)) ∧ (∀ j v, R1[j]? = some v → (comV ep R1 R2 R3 bv SL ev)[1 + j]? = some v) ∧ (∀ j v, R2[j]? = some v → (comV ep R1 R2 R3 bv SL ev)[35 + j]? = some v) ∧ (∀ j v, R3[j]? = some v → (comV ep R1 R2 R3 bv SL ev)[69 + j]? = some v) ∧
    (comV ep R1 R2 R3 bv SL ev)[103]? = some bv ∧ (∀ j v, SL[j]? = some v → (comV ep R1 R2 R3 bv SL ev)[104 + j]? = some v) ∧ (comV ep R1 R2 R3 bv SL ev)[136]? = some ev := by
  refine ⟨rfl, fun j v hj => ?_, fun j v hj => ?_, fun j v hj => ?_, ?_, fun j v hj => ?_, ?_⟩
  · exact mid_at (pre := [.int .u64 (ep : Nat)]) (l := R1) (post := R2 ++ (R3 ++ (bv :: (SL ++ [ev])))) rfl j v hj
  · have := mid_at (pre := .int .u64 (ep : Nat) :: R1) (l := R2) (post := R3 ++ (bv :: (SL ++ [ev]))) (k := 35) (by simp [h1]) j v hj
    simpa [comV] using this
  · have := mid_at (pre := .int .u64 (ep : Nat) :: (R1 ++ R2)) (l := R3) (post := bv :: (SL ++ [ev])) (k := 69) (by simp [h1, h2]) j v hj
    simpa [comV] using this
  · have := mid_at (pre := .int .u64 (ep : Nat) :: (R1 ++ (R2 ++ R3))) (l := [bv]) (post := SL ++ [ev]) (k := 103) (by simp [h1, h2, h3]) 0 bv rfl
    simpa [comV] using this
  · have := mid_at (pre := .int .u64 (ep : Nat) :: (R1 ++ (R2 ++ (R3 ++ [bv])))) (l := SL) (post := [ev]) (k := 104) (by simp [h1, h2, h3]) j v hj
    simpa [comV] using this
  · have := mid_at (pre := .int .u64 (ep : Nat) :: (R1 ++ (R2 ++ (R3 ++ (bv :: SL))))) (l := [ev]) (post := []) (k := 136) (by simp [h1, h2, h3, hs]) 0 ev rfl
    simpa [comV] using this
/-- What a commit's block holds, by its places. -/
structure ComAt (w : World) (g : Nat) (ep : Nat) (R1 R2 R3 : List Value) (bv : Value) (SL : List Value) (ev : Value) : Prop where
  ep : w.cell? ⟨g, 0, none⟩ = some (.int .u64 (ep : Nat))
  r1 : w.rangeAt g 1 R1
  r2 : w.rangeAt g 35 R2
  r3 : w.rangeAt g 69 R3
  bins : w.cell? ⟨g, 103, none⟩ = some bv
  st : w.rangeAt g 104 SL
  evs : w.cell? ⟨g, 136, none⟩ = some ev
theorem Arr.com {w : World} {g : Nat} {T : TypeId} {ep : Nat} {R1 R2 R3 SL : List Value} {bv ev : Value} (h : Arr w g T (comV ep R1 R2 R3 bv SL ev)) (h1 : R1.length = 34) (h2 : R2.length = 34) (h3 : R3.length = 34) (hs : SL.length = 32) : ComAt w g ep R1 R2 R3 bv SL ev := by
  obtain ⟨p0, p1, p2, p3, p4, p5, p6⟩ := comV_parts (ep := ep) (bv := bv) (ev := ev) h1 h2 h3 hs
  exact ⟨by rw [h.cell]; exact p0, fun j v hj => by rw [h.cell]; exact p1 j v hj, fun j v hj => by rw [h.cell]; exact p2 j v hj, fun j v hj => by rw [h.cell]; exact p3 j v hj, by rw [h.cell]; exact p4, fun j v hj => by rw [h.cell]; exact p5 j v hj, by rw [h.cell]; exact p6⟩

end Go.Proofs.Ytlfddijmanlneaa

namespace Go.Proofs.Ytlfddijmanlneaa
open Go.RowKit
set_option linter.unusedVariables false
set_option linter.unusedSimpArgs false


theorem fill_ref3 (X Y Z : List Value) (hX : X.length = 34) (hY : Y.length = 34) (hZ : Z.length = 34) (cells : Array Value) (hc : cells.size = 102) : Instr.fill (fun i => some (i * 34, 34)) cells [(0, .agg X.toArray), (1, .agg Y.toArray), (2, .agg Z.toArray)] = some (X ++ (Y ++ Z)).toArray := by
  have hcl : cells.toList.length = 102 := by simp [hc]
  have h1 := fill_mid (fun i => some (i * 34, 34)) cells 0 0 X (by rw [hX]) (by rw [hX, hc]; omega)
  rw [fill_cons _ _ _ _ _ h1]
  have e1 : cells.toList.take 0 ++ (X ++ cells.toList.drop (0 + X.length)) = X ++ cells.toList.drop 34 := by rw [List.take_zero, List.nil_append, hX]
  rw [e1]
  have h2 := fill_mid (fun i => some (i * 34, 34)) (X ++ cells.toList.drop 34).toArray 1 34 Y (by rw [hY]) (by rw [hY, List.size_toArray, List.length_append, List.length_drop, hX, hcl]; omega)
  rw [fill_cons _ _ _ _ _ h2]
  have e2 : (X ++ cells.toList.drop 34).toArray.toList.take 34 ++ (Y ++ (X ++ cells.toList.drop 34).toArray.toList.drop (34 + Y.length)) = X ++ (Y ++ cells.toList.drop 68) := by
    simp only
    rw [List.take_append_of_le_length (by omega), List.take_of_length_le (by omega), hY, List.drop_append, List.drop_of_length_le (by omega), List.nil_append, hX, List.drop_drop]
  rw [e2]
  have h3 := fill_mid (fun i => some (i * 34, 34)) (X ++ (Y ++ cells.toList.drop 68)).toArray 2 68 Z (by rw [hZ]) (by rw [hZ, List.size_toArray, List.length_append, List.length_append, List.length_drop, hX, hY, hcl]; omega)
  have e3 : List.take 68 (X ++ (Y ++ cells.toList.drop 68)) = X ++ Y := by
    rw [← List.append_assoc, List.take_append_of_le_length (by rw [List.length_append]; omega), List.take_of_length_le (by rw [List.length_append]; omega)]
  have e4 : List.drop (68 + Z.length) (X ++ (Y ++ cells.toList.drop 68)) = [] := List.drop_of_length_le (by rw [List.length_append, List.length_append, List.length_drop, hX, hY, hZ, hcl]; omega)
  rw [h3]
  simp only
  rw [e3, e4, List.append_nil, List.append_assoc]
theorem refInfoS : (Try.prog.info? 26).map (fun i => (i.zero, i.size, i.bytes)) = some (some (.agg refZ.toArray), 34, 48) := by kernel_rfl
/-- '[]api.Ref{x, y, z}', where it is wanted. -/
theorem wpList_build_refs {ops : Array Oper} {rest : List Oper} {o : Oper} {a : Act} {w : World} {Q : Exit → Act → World → Prop} (hw : Region.wanted o (yielded ops a.tmps) = true) (x y z : Operand) (ho : o.op = .buildSlice 112 3 #[(0, x), (1, y), (2, z)]) (X Y Z : List Value) (hX : X.length = 34) (hY : Y.length = 34) (hZ : Z.length = 34) (hx : a.eval x = .agg X.toArray) (hy : a.eval y = .agg Y.toArray) (hz : a.eval z = .agg Z.toArray)
    (h : wpList Try.prog ops Q rest (a.put o.dst (.slice (some ⟨w.heap.size, 0, none⟩) 3 3)) (w.alloc (.cells (X ++ (Y ++ Z)).toArray 26))) : wpList Try.prog ops Q (o :: rest) a w := by
  refine wpList_step fun K hK => ?_
  rw [if_pos hw]
  obtain ⟨i0, hi, hz0, hz1, hz2⟩ := info_parts refInfoS
  refine wp_buildSlice 112 26 3 #[(0, x), (1, y), (2, z)] ho (X ++ (Y ++ Z)).toArray i0 _ Try.underlying112 hi hz0 (by rw [hz1]; decide) (by rw [hz1]; decide) ?_ (hK _ _ h)
  rw [hz1]
  simp only [List.map_toArray, List.map_cons, List.map_nil, hx, hy, hz]
  exact fill_ref3 X Y Z hX hY hZ _ (by simp)
theorem wpList_load_mid_ifC {P : Program} {ops : Array Oper} {rest : List Oper} {o : Oper} {a : Act} {w : World} {Q : Exit → Act → World → Prop} (hw : Region.wanted o (yielded ops a.tmps) = true) (ty : TypeId) (x : Operand) (ho : o.op = .load ty x)
    (b off : Nat) (hx : a.eval x = .pointer (some ⟨b, off, none⟩)) (cs : List Value) (d : TypeDesc) (hc : w.rangeAt b off cs)
    (hu : P.underlying ty = some d) (hd : d.isRow = true) (hi : (P.info? ty).map (·.size) = some cs.length)
    (h : wpList P ops Q rest (a.put o.dst (.agg cs.toArray)) w) : wpList P ops Q (o :: rest) a w :=
  wpList_step fun K hK => by
    rw [if_pos hw]
    exact wp_load_mid ty x ho b off hx cs d hc hu hd hi (hK _ _ h)

set_option maxHeartbeats 4000000 in
set_option maxRecDepth 100000 in
theorem rise_any (A : Option Addr) (n c : Nat) (bs : List BinF) (hn : bs.length = n) (hc : n ≤ c) (hm : c ≤ maxLen) (w : World) (h : RowOf bC 35 w w.heap.size A bs) (b : Bool) (hb : b = true ↔ RiseB bs) :
    Calls Try.prog 46 #[.slice A n c] w fun e w' => e = .returned (.bool b) ∧ Below w.heap.size w w' := by
  have hm' : c ≤ 9223372036854775807 := by unfold maxLen at hm; omega
  have Hn := Lib.hid hn
  have Hh := Lib.hid h
  have Hb := Lib.hid hb
  clear hn h hb
  go_enter Try.func46, Try.ntmps46
  go_wp2_with fail
  go_loopw [6] (fun i wr => ∃ k : Nat, k ≤ n ∧ i = .int .i64 k ∧ Below w.heap.size w wr ∧ Hid (∀ j, j + 1 < k → (bs.getD j zB).x < (bs.getD (j + 1) zB).x)) (fun i _ => n - (Go.RowKit.intOf i).toNat)
  case atStart => exact ⟨0, Nat.zero_le _, rfl, Below.refl _ _, fun j hj => by omega⟩
  case round =>
    obtain ⟨k, hk, rfl, hbr, Hk⟩ := hrel
    by_cases hlt : k < n
    · have hd1 : decide ((k : Int) < (n : Int)) = true := by simp; omega
      obtain ⟨bb, off, rfl, hblk, hrow⟩ := Hh.out (by rw [Hn.out]; omega)
      have hcell : ∀ i, i < n → wr.cell? ⟨bb, off + i * 35, none⟩ = some (.int .i64 (bs.getD i zB).x) := fun i hi => by
        have e : bs[i]? = some (bs.getD i zB) := by
          rw [List.getElem?_eq_getElem (by rw [Hn.out]; exact hi)]
          simp [List.getD, Hn.out, hi]
        have := hrow i _ e 0 (.int .i64 (bs.getD i zB).x) rfl
        rw [Nat.add_zero] at this
        exact (World.cell?_of_block (hbr.block bb hblk)).trans this
      have Hcell := Lib.hid hcell
      clear hrow hcell
      go_upto_region 4 with fail
      cases k with
      | zero =>
        refine wp_region_held_drew (S := fun _ => True) (by kernel_rfl) trivial (fun hHeld => ?_)
        refine anyH_take (i := 0) (v := .int .i64 (0 : Nat)) (some 9) rfl rfl (by kernel_rfl) (by kernel_rfl) (by kernel_rfl) (fun _ _ _ h => h) (Or.inl ⟨by rfl, fun w' hw => by rfl⟩) (by assumption) ?_
        simp only [Act.put, List.setIfInBounds_toArray, List.set_cons_zero, List.set_cons_succ]
        refine anyH_take (i := 1) (v := .bool false) (some 10) rfl rfl (by kernel_rfl) (by kernel_rfl) (by kernel_rfl) (fun _ _ _ h => h) (Or.inl ⟨by rfl, fun w' hw => by (go_simp)⟩) (by assumption) ?_
        simp only [Act.put, List.setIfInBounds_toArray, List.set_cons_zero, List.set_cons_succ]
        refine anyH_take (i := 2) (v := .bool false) (some 11) rfl rfl (by kernel_rfl) (by kernel_rfl) (by kernel_rfl) (fun _ _ _ h => h) (Or.inl ⟨by rfl, fun w' hw => by (go_simp)⟩) (by assumption) ?_
        simp only [Act.put, List.setIfInBounds_toArray, List.set_cons_zero, List.set_cons_succ]
        refine anyH_take (i := 3) (v := undef) (some 12) rfl rfl (by kernel_rfl) (by kernel_rfl) (by kernel_rfl) (fun _ _ _ h => h) (Or.inr ⟨by rfl, rfl⟩) (by assumption) ?_
        simp only [Act.put, List.setIfInBounds_toArray, List.set_cons_zero, List.set_cons_succ]
        refine anyH_take (i := 4) (v := undef) (some 13) rfl rfl (by kernel_rfl) (by kernel_rfl) (by kernel_rfl) (fun _ _ _ h => h) (Or.inr ⟨by rfl, rfl⟩) (by assumption) ?_
        simp only [Act.put, List.setIfInBounds_toArray, List.set_cons_zero, List.set_cons_succ]
        refine anyH_take (i := 5) (v := undef) (some 14) rfl rfl (by kernel_rfl) (by kernel_rfl) (by kernel_rfl) (fun _ _ _ h => h) (Or.inr ⟨by rfl, rfl⟩) (by assumption) ?_
        simp only [Act.put, List.setIfInBounds_toArray, List.set_cons_zero, List.set_cons_succ]
        refine anyH_take (i := 6) (v := undef) (some 15) rfl rfl (by kernel_rfl) (by kernel_rfl) (by kernel_rfl) (fun _ _ _ h => h) (Or.inr ⟨by rfl, rfl⟩) (by assumption) ?_
        simp only [Act.put, List.setIfInBounds_toArray, List.set_cons_zero, List.set_cons_succ]
        refine anyH_take (i := 7) (v := undef) (some 16) rfl rfl (by kernel_rfl) (by kernel_rfl) (by kernel_rfl) (fun _ _ _ h => h) (Or.inr ⟨by rfl, rfl⟩) (by assumption) ?_
        simp only [Act.put, List.setIfInBounds_toArray, List.set_cons_zero, List.set_cons_succ]
        refine anyH_take (i := 8) (v := undef) (some 17) rfl rfl (by kernel_rfl) (by kernel_rfl) (by kernel_rfl) (fun _ _ _ h => h) (Or.inr ⟨by rfl, rfl⟩) (by assumption) ?_
        simp only [Act.put, List.setIfInBounds_toArray, List.set_cons_zero, List.set_cons_succ]
        refine anyH_take (i := 9) (v := undef) (some 18) rfl rfl (by kernel_rfl) (by kernel_rfl) (by kernel_rfl) (fun _ _ _ h => h) (Or.inr ⟨by rfl, rfl⟩) (by assumption) ?_
        simp only [Act.put, List.setIfInBounds_toArray, List.set_cons_zero, List.set_cons_succ]
        refine anyH_take (i := 10) (v := undef) (some 19) rfl rfl (by kernel_rfl) (by kernel_rfl) (by kernel_rfl) (fun _ _ _ h => h) (Or.inr ⟨by rfl, rfl⟩) (by assumption) ?_
        simp only [Act.put, List.setIfInBounds_toArray, List.set_cons_zero, List.set_cons_succ]
        refine anyH_take (i := 11) (v := undef) (some 20) rfl rfl (by kernel_rfl) (by kernel_rfl) (by kernel_rfl) (fun _ _ _ h => h) (Or.inr ⟨by rfl, rfl⟩) (by assumption) ?_
        simp only [Act.put, List.setIfInBounds_toArray, List.set_cons_zero, List.set_cons_succ]
        refine anyH_take (i := 12) (v := undef) (some 21) rfl rfl (by kernel_rfl) (by kernel_rfl) (by kernel_rfl) (fun _ _ _ h => h) (Or.inr ⟨by rfl, rfl⟩) (by assumption) ?_
        simp only [Act.put, List.setIfInBounds_toArray, List.set_cons_zero, List.set_cons_succ]
        refine anyH_take (i := 13) (v := undef) (some 22) rfl rfl (by kernel_rfl) (by kernel_rfl) (by kernel_rfl) (fun _ _ _ h => h) (Or.inr ⟨by rfl, rfl⟩) (by assumption) ?_
        simp only [Act.put, List.setIfInBounds_toArray, List.set_cons_zero, List.set_cons_succ]
        refine anyH_take (i := 14) (v := undef) (some 23) rfl rfl (by kernel_rfl) (by kernel_rfl) (by kernel_rfl) (fun _ _ _ h => h) (Or.inr ⟨by rfl, rfl⟩) (by assumption) ?_
        simp only [Act.put, List.setIfInBounds_toArray, List.set_cons_zero, List.set_cons_succ]
        refine anyH_take (i := 15) (v := .bool false) (some 24) rfl rfl (by kernel_rfl) (by kernel_rfl) (by kernel_rfl) (fun _ _ _ h => h) (Or.inl ⟨by rfl, fun w' hw => by (go_simp)⟩) (by assumption) ?_
        simp only [Act.put, List.setIfInBounds_toArray, List.set_cons_zero, List.set_cons_succ]
        refine wpAnyH_done (by kernel_rfl) ?_ _
        have Hk2 : Hid (∀ j, j + 1 < 0 + 1 → (bs.getD j zB).x < (bs.getD (j + 1) zB).x) := fun j hj => by omega
        go_wp2_with fail
        go_roundw
        case rel => exact ⟨0 + 1, by omega, by go_num, Below.dN hbr 1, Hk2⟩
        case measure => simp [Go.RowKit.intOf]; omega
      | succ k =>
        obtain ⟨x1, hx1⟩ : ∃ z, (bs.getD k zB).x = z := ⟨_, rfl⟩
        obtain ⟨x2, hx2⟩ : ∃ z, (bs.getD (k + 1) zB).x = z := ⟨_, rfl⟩
        have hc1 := Hcell.out k (by omega)
        have hc2 := Hcell.out (k + 1) (by omega)
        rw [hx1] at hc1
        rw [hx2] at hc2
        obtain ⟨b0, hb0⟩ : ∃ z, decide (x2 ≤ x1) = z := ⟨_, rfl⟩
        have hb1 : decide (x1 ≥ x2) = b0 := hb0
        have Hq := Lib.hid (show decide (x2 ≤ x1) = b0 ∧ decide (x1 ≥ x2) = b0 from ⟨hb0, hb1⟩)
        have Hwrap := Lib.hid (show IntKind.i64.wrap (((k + 1 : Nat) : Int) - 1) = ((k : Nat) : Int) by rw [show ((k + 1 : Nat) : Int) - 1 = ((k : Nat) : Int) by omega]; exact IntWalk.i64_in _ (by omega))
        have Hwrap2 := Lib.hid (show IntKind.i64.wrap ((k : Nat) : Int) = ((k : Nat) : Int) from IntWalk.i64_in _ (by omega))
        have Hp1 := Lib.hid (show decide (((k + 1 : Nat) : Int) > 0) = true by rw [decide_eq_true_eq]; omega)
        have Hp2 := Lib.hid (show decide ((0 : Int) < ((k + 1 : Nat) : Int)) = true by rw [decide_eq_true_eq]; omega)
        clear hb0 hb1
        refine wp_region_held_drew (S := fun w' => w'.cell? ⟨bb, off + k * 35, none⟩ = some (.int .i64 x1) ∧ w'.cell? ⟨bb, off + (k + 1) * 35, none⟩ = some (.int .i64 x2)) (by kernel_rfl) ⟨hc1, hc2⟩ (fun hHeld => ?_)
        refine anyH_take (i := 0) (v := .int .i64 ((k + 1 : Nat) : Int)) (some 9) rfl rfl (by kernel_rfl) (by kernel_rfl) (by kernel_rfl) (fun _ _ _ h => h) (Or.inl ⟨by rfl, fun w' hw => by rfl⟩) (by assumption) ?_
        simp only [Act.put, List.setIfInBounds_toArray, List.set_cons_zero, List.set_cons_succ]
        refine anyH_take (i := 1) (v := .bool true) (some 10) rfl rfl (by kernel_rfl) (by kernel_rfl) (by kernel_rfl) (fun _ _ _ h => h) (Or.inl ⟨by rfl, fun w' hw => by (have hq1 := Hp1.out; have hq2 := Hp2.out; go_simp)⟩) (by assumption) ?_
        simp only [Act.put, List.setIfInBounds_toArray, List.set_cons_zero, List.set_cons_succ]
        refine anyH_take (i := 2) (v := .bool true) (some 11) rfl rfl (by kernel_rfl) (by kernel_rfl) (by kernel_rfl) (fun _ _ _ h => h) (Or.inl ⟨by rfl, fun w' hw => by (go_simp)⟩) (by assumption) ?_
        simp only [Act.put, List.setIfInBounds_toArray, List.set_cons_zero, List.set_cons_succ]
        refine anyH_take (i := 3) (v := .slice (some ⟨bb, off, none⟩) n c) (some 12) rfl rfl (by kernel_rfl) (by kernel_rfl) (by kernel_rfl) (fun _ _ _ h => h) (Or.inl ⟨by rfl, fun w' hw => by (go_simp)⟩) (by assumption) ?_
        simp only [Act.put, List.setIfInBounds_toArray, List.set_cons_zero, List.set_cons_succ]
        refine anyH_take (i := 4) (v := .int .i64 ((k + 1 : Nat) : Int)) (some 13) rfl rfl (by kernel_rfl) (by kernel_rfl) (by kernel_rfl) (fun _ _ _ h => h) (Or.inl ⟨by rfl, fun w' hw => by (go_simp)⟩) (by assumption) ?_
        simp only [Act.put, List.setIfInBounds_toArray, List.set_cons_zero, List.set_cons_succ]
        refine anyH_take (i := 5) (v := .int .i64 (k : Nat)) (some 14) rfl rfl (by kernel_rfl) (by kernel_rfl) (by kernel_rfl) (fun _ _ _ h => h) (Or.inl ⟨by rfl, fun w' hw => by (have hwp := Hwrap.out; have hwp2 := Hwrap2.out; go_simp)⟩) (by assumption) ?_
        simp only [Act.put, List.setIfInBounds_toArray, List.set_cons_zero, List.set_cons_succ]
        refine anyH_take (i := 6) (v := .pointer (some ⟨bb, off + k * 35, none⟩)) (some 15) rfl rfl (by kernel_rfl) (by kernel_rfl) (by kernel_rfl) (fun _ _ _ h => h) (Or.inl ⟨by rfl, fun w' hw => by (go_simp; try (intro h; omega))⟩) (by assumption) ?_
        simp only [Act.put, List.setIfInBounds_toArray, List.set_cons_zero, List.set_cons_succ]
        refine anyH_take (i := 7) (v := .pointer (some ⟨bb, off + k * 35, none⟩)) (some 16) rfl rfl (by kernel_rfl) (by kernel_rfl) (by kernel_rfl) (fun _ _ _ h => h) (Or.inl ⟨by rfl, fun w' hw => by (go_simp)⟩) (by assumption) ?_
        simp only [Act.put, List.setIfInBounds_toArray, List.set_cons_zero, List.set_cons_succ]
        refine anyH_take (i := 8) (v := .int .i64 x1) (some 17) rfl rfl (by kernel_rfl) (by kernel_rfl) (by kernel_rfl) (fun _ _ _ h => h) (Or.inl ⟨by rfl, fun w' hw => by (have hcc := hw.1; go_simp)⟩) (by assumption) ?_
        simp only [Act.put, List.setIfInBounds_toArray, List.set_cons_zero, List.set_cons_succ]
        refine anyH_take (i := 9) (v := .slice (some ⟨bb, off, none⟩) n c) (some 18) rfl rfl (by kernel_rfl) (by kernel_rfl) (by kernel_rfl) (fun _ _ _ h => h) (Or.inl ⟨by rfl, fun w' hw => by (go_simp)⟩) (by assumption) ?_
        simp only [Act.put, List.setIfInBounds_toArray, List.set_cons_zero, List.set_cons_succ]
        refine anyH_take (i := 10) (v := .int .i64 ((k + 1 : Nat) : Int)) (some 19) rfl rfl (by kernel_rfl) (by kernel_rfl) (by kernel_rfl) (fun _ _ _ h => h) (Or.inl ⟨by rfl, fun w' hw => by (go_simp)⟩) (by assumption) ?_
        simp only [Act.put, List.setIfInBounds_toArray, List.set_cons_zero, List.set_cons_succ]
        refine anyH_take (i := 11) (v := .pointer (some ⟨bb, off + (k + 1) * 35, none⟩)) (some 20) rfl rfl (by kernel_rfl) (by kernel_rfl) (by kernel_rfl) (fun _ _ _ h => h) (Or.inl ⟨by rfl, fun w' hw => by (go_simp; try (intro h; omega))⟩) (by assumption) ?_
        simp only [Act.put, List.setIfInBounds_toArray, List.set_cons_zero, List.set_cons_succ]
        refine anyH_take (i := 12) (v := .pointer (some ⟨bb, off + (k + 1) * 35, none⟩)) (some 21) rfl rfl (by kernel_rfl) (by kernel_rfl) (by kernel_rfl) (fun _ _ _ h => h) (Or.inl ⟨by rfl, fun w' hw => by (go_simp)⟩) (by assumption) ?_
        simp only [Act.put, List.setIfInBounds_toArray, List.set_cons_zero, List.set_cons_succ]
        refine anyH_take (i := 13) (v := .int .i64 x2) (some 22) rfl rfl (by kernel_rfl) (by kernel_rfl) (by kernel_rfl) (fun _ _ _ h => h) (Or.inl ⟨by rfl, fun w' hw => by (have hcc := hw.2; go_simp)⟩) (by assumption) ?_
        simp only [Act.put, List.setIfInBounds_toArray, List.set_cons_zero, List.set_cons_succ]
        refine anyH_take (i := 14) (v := .bool b0) (some 23) rfl rfl (by kernel_rfl) (by kernel_rfl) (by kernel_rfl) (fun _ _ _ h => h) (Or.inl ⟨by rfl, fun w' hw => by (have hq1 := Hq.out.1; have hq2 := Hq.out.2; go_simp)⟩) (by assumption) ?_
        simp only [Act.put, List.setIfInBounds_toArray, List.set_cons_zero, List.set_cons_succ]
        refine anyH_take (i := 15) (v := .bool b0) (some 24) rfl rfl (by kernel_rfl) (by kernel_rfl) (by kernel_rfl) (fun _ _ _ h => h) (Or.inl ⟨by rfl, fun w' hw => by (go_simp)⟩) (by assumption) ?_
        simp only [Act.put, List.setIfInBounds_toArray, List.set_cons_zero, List.set_cons_succ]
        refine wpAnyH_done (by kernel_rfl) ?_ _
        cases b0 with
        | true =>
          have Hno : Hid (b = false) := Lib.hid (by
            cases b with
            | false => rfl
            | true =>
              have h1 := Hb.out.1 rfl k (by rw [Hn.out]; omega)
              have h2 := of_decide_eq_true Hq.out.1
              rw [hx1, hx2] at h1
              omega)
          clear hx1 hx2 hc1 hc2
          go_wp2_with fail
          go_ret
          exact ⟨by rw [Hno.out]; rfl, Below.dN hbr 1⟩
        | false =>
          have Hk2 : Hid (∀ j, j + 1 < k + 1 + 1 → (bs.getD j zB).x < (bs.getD (j + 1) zB).x) := fun j hj => by
            by_cases e : j = k
            · subst e
              have h2 := of_decide_eq_false Hq.out.1
              rw [hx1, hx2]
              omega
            · exact Hk.out j (by omega)
          clear hx1 hx2 hc1 hc2
          go_wp2_with fail
          go_roundw
          case rel => exact ⟨k + 1 + 1, by omega, by go_num, Below.dN hbr 1, Hk2⟩
          case measure => simp [Go.RowKit.intOf]; omega
    · obtain rfl : k = n := by omega
      have hd1 : decide (k < k) = false := by simp
      have Hyes : Hid (b = true) := Lib.hid (Hb.out.2 fun i hi => Hk.out i (by rw [← Hn.out]; exact hi))
      go_wp2_with fail
      go_ret
      exact ⟨by rw [Hyes.out]; rfl, hbr⟩


theorem row_three {w : World} {g : Nat} {T : TypeId} {r1 r2 r3 : RefF} (h1 : RefW r1) (h2 : RefW r2) (h3 : RefW r3) (h : Arr w g T (rC r1 ++ (rC r2 ++ rC r3))) : RowOf rC 34 w w.heap.size (some ⟨g, 0, none⟩) [r1, r2, r3] := fun _ => by
  refine ⟨g, 0, rfl, h.lt, fun i x hi j v hj => ?_⟩
  rw [h.cell, Nat.zero_add]
  match i, hi with
  | 0, hi =>
    simp only [List.getElem?_cons_zero, Option.some.injEq] at hi
    subst hi
    rw [Nat.zero_mul, Nat.zero_add, List.getElem?_append_left (List.getElem?_eq_some_iff.1 hj).1]
    exact hj
  | 1, hi =>
    simp only [List.getElem?_cons_succ, List.getElem?_cons_zero, Option.some.injEq] at hi
    subst hi
    exact mid_at (by rw [rC_length h1]) j v hj
  | 2, hi =>
    simp only [List.getElem?_cons_succ, List.getElem?_cons_zero, Option.some.injEq] at hi
    subst hi
    have := mid_at (pre := rC r1 ++ rC r2) (l := rC r3) (post := []) (k := 68) (by rw [List.length_append, rC_length h1, rC_length h2]) j v hj
    simpa using this
  | i + 3, hi => simp at hi

set_option maxHeartbeats 4000000 in
set_option maxRecDepth 100000 in
theorem may_any (x : Cx) (VL : List Value) (hVL : VL = comC x) (w : World) (h : CxOk w w.heap.size x) (hlim : x.c.bins.length ≤ 1000000) (b : Bool) (hb : b = true ↔ MayC x.c) :
    Calls Try.prog 23 #[.agg VL.toArray] w fun e w' => e = .returned (.bool b) ∧ Below w.heap.size w w' := by
  obtain ⟨W1, hW1⟩ : ∃ z, z = w.alloc (.cells VL.toArray 30) := ⟨_, rfl⟩
  have hR1 : Arr W1 w.heap.size 30 VL := by rw [hW1]; exact Arr.new w _ _
  have hb0 : Below w.heap.size w W1 := by rw [hW1]; exact (Below.refl _ w).alloc (Nat.le_refl _) _
  have hsz : W1.heap.size = w.heap.size + 1 := by rw [hW1]; simp
  rw [hVL] at hR1
  obtain ⟨p0, p1, p2, p3, p4, p5, p6⟩ := Arr.com hR1 (rC_length h.r1) (rC_length h.r2) (rC_length h.r3) (by rw [Lib.byteCells_length, h.st])
  have HW1 := Lib.hid hW1
  have hok1 := h.below hb0 (Nat.le_refl _)
  obtain ⟨b1, hb1⟩ : ∃ b1 : Bool, b1 = true ↔ ∀ r ∈ [x.c.r1, x.c.r2, x.c.r3], OkR r := by classical exact ⟨decide _, decide_eq_true_iff⟩
  obtain ⟨b2, hb2⟩ : ∃ b2 : Bool, b2 = true ↔ ∀ r ∈ x.c.bins, OkB r := by classical exact ⟨decide _, decide_eq_true_iff⟩
  obtain ⟨b3, hb3⟩ : ∃ b3 : Bool, b3 = true ↔ RiseB x.c.bins := by classical exact ⟨decide _, decide_eq_true_iff⟩
  have Hb : Hid (b = (decide (0 < x.c.ep) && b1 && b2 && b3)) := Lib.hid (by
    rw [Bool.eq_iff_iff, hb]
    unfold MayC
    simp only [Bool.and_eq_true, decide_eq_true_eq, hb1, hb2, hb3, List.mem_cons, List.not_mem_nil, or_false, forall_eq_or_imp, forall_eq]
    constructor
    · rintro ⟨q1, q2, q3, q4, q5, q6⟩
      exact ⟨⟨⟨q1, q2, q3, q4⟩, q5⟩, q6⟩
    · rintro ⟨⟨⟨q1, q2, q3, q4⟩, q5⟩, q6⟩
      exact ⟨q1, q2, q3, q4, q5, q6⟩)
  have Hb1 := Lib.hid hb1
  have Hb2 := Lib.hid hb2
  have Hb3 := Lib.hid hb3
  obtain ⟨ep, hep⟩ : ∃ z, x.c.ep = z := ⟨_, rfl⟩
  obtain ⟨nb, hnb⟩ : ∃ z, x.c.bins.length = z := ⟨_, rfl⟩
  obtain ⟨Ab, hAb⟩ : ∃ z, x.Ab = z := ⟨_, rfl⟩
  obtain ⟨cb, hcb⟩ : ∃ z, x.cb = z := ⟨_, rfl⟩
  rw [hep] at p0 Hb
  rw [hAb, hnb, hcb] at p4
  have hepl : ep < 18446744073709551616 := by rw [← hep]; exact h.ep
  have Hlb := Lib.hid (show nb ≤ cb ∧ cb ≤ maxLen ∧ nb ≤ 1000000 by rw [← hnb, ← hcb]; exact ⟨h.lb, h.mb, hlim⟩)
  have Hbins := Lib.hid (show RowOf bC 35 w w.heap.size Ab x.c.bins by rw [← hAb]; exact h.bins)
  have Hbw := Lib.hid h.bw
  have Hnb := Lib.hid hnb
  obtain ⟨R1, hr1⟩ : ∃ z, z = rC x.c.r1 := ⟨_, rfl⟩
  obtain ⟨R2, hr2⟩ : ∃ z, z = rC x.c.r2 := ⟨_, rfl⟩
  obtain ⟨R3, hr3⟩ : ∃ z, z = rC x.c.r3 := ⟨_, rfl⟩
  rw [← hr1] at p1
  rw [← hr2] at p2
  rw [← hr3] at p3
  have l1 : R1.length = 34 := by rw [hr1]; exact rC_length h.r1
  have l2 : R2.length = 34 := by rw [hr2]; exact rC_length h.r2
  have l3 : R3.length = 34 := by rw [hr3]; exact rC_length h.r3
  have HI1 := Lib.hid (show (Try.prog.info? 26).map (·.size) = some R1.length by rw [l1]; exact refSize)
  have HI2 := Lib.hid (show (Try.prog.info? 26).map (·.size) = some R2.length by rw [l2]; exact refSize)
  have HI3 := Lib.hid (show (Try.prog.info? 26).map (·.size) = some R3.length by rw [l3]; exact refSize)
  obtain ⟨W2, hW2⟩ : ∃ z, z = W1.alloc (.cells (R1 ++ (R2 ++ R3)).toArray 26) := ⟨_, rfl⟩
  have hb2w : Below w.heap.size w W2 := by rw [hW2]; exact hb0.alloc hb0.size _
  have Hrow := Lib.hid (show RowOf rC 34 W2 W2.heap.size (some ⟨W1.heap.size, 0, none⟩) [x.c.r1, x.c.r2, x.c.r3] from row_three (T := 26) h.r1 h.r2 h.r3 (by rw [hW2, hr1, hr2, hr3]; exact Arr.new W1 _ _))
  have Hrw := Lib.hid (show ∀ r ∈ [x.c.r1, x.c.r2, x.c.r3], RefW r by
    intro r hr
    simp only [List.mem_cons, List.not_mem_nil, or_false] at hr
    rcases hr with rfl | rfl | rfl
    · exact h.r1
    · exact h.r2
    · exact h.r3)
  have HL := Lib.hid (show R1.length = 34 ∧ R2.length = 34 ∧ R3.length = 34 from ⟨l1, l2, l3⟩)
  have q4 : W2.cell? ⟨w.heap.size, 103, none⟩ = some (.slice Ab nb cb) := by rw [hW2, World.cell?_alloc_lt W1 _ ⟨w.heap.size, 103, none⟩ (show w.heap.size < W1.heap.size by omega)]; exact p4
  have HW2 := Lib.hid hW2
  have hsz2 : w.heap.size + 1 ≤ W2.heap.size := by rw [hW2]; simp; omega
  have hlt1 : w.heap.size < W1.heap.size := by omega
  clear hVL hW1 hR1 hok1 hb hb1 hb2 hb3 hep hnb hAb hcb h hlim hr1 hr2 hr3 l1 l2 l3 hW2 p5 p6 hsz
  go_enter Try.func23, Try.ntmps23
  go_upto_region 1 with fail
  change Code.wp _ _ _ _ (w.alloc (.cells VL.toArray 30))
  rw [← HW1.out]
  clear HW1
  by_cases h0 : ep = 0
  · subst h0
    have Hno : Hid (b = false) := Lib.hid (by rw [Hb.out]; simp)
    clear Hb
    go_wp2_with fail
    go_ret
    exact ⟨by rw [Hno.out]; rfl, hb0⟩
  have e0 : decide ((ep : Int) > 0) = true := by simp; omega
  have e1 : decide ((0 : Int) < (ep : Int)) = true := by simp; omega
  have e2 : decide (0 < ep) = true := by simp; omega
  rw [e2, Bool.true_and] at Hb
  have e3 : 0 < ep := by omega
  clear h0
  go_wp2_with (first
    | (refine wpList_load_mid_ifC (by rfl) _ _ rfl w.heap.size 1 rfl R1 _ p1 Try.underlying26 rfl HI1.out ?_)
    | (refine wpList_load_mid_ifC (by rfl) _ _ rfl w.heap.size 35 rfl R2 _ p2 Try.underlying26 rfl HI2.out ?_)
    | (refine wpList_load_mid_ifC (by rfl) _ _ rfl w.heap.size 69 rfl R3 _ p3 Try.underlying26 rfl HI3.out ?_)
    | (refine wpList_build_refs (by rfl) _ _ _ rfl R1 R2 R3 HL.out.1 HL.out.2.1 HL.out.2.2 rfl rfl rfl ?_; rw [← HW2.out]))
  clear p0 p1 p2 p3 p4 HW2
  refine Calls.mono (rback_any _ 3 3 _ rfl (Nat.le_refl _) (by unfold maxLen; omega) (by omega) W2 Hrow.out Hrw.out b1 Hb1.out) ?_
  rintro e w3 ⟨rfl, hb3⟩
  have q5 : w3.cell? ⟨w.heap.size, 103, none⟩ = some (.slice Ab nb cb) := (hb3.cell (p := ⟨w.heap.size, 103, none⟩) (show w.heap.size < W2.heap.size by omega)).trans q4
  have hb3w : Below w.heap.size w w3 := hb2w.trans (hb3.mono hb2w.size)
  have hsz3 := hb3.size
  clear q4 hb2w hb3
  cases b1 with
  | false =>
    have Hno : Hid (b = false) := Lib.hid (by rw [Hb.out]; simp)
    clear Hb
    go_wp2_with fail
    go_ret
    exact ⟨by rw [Hno.out]; rfl, hb3w⟩
  | true =>
    rw [Bool.true_and] at Hb
    go_wp2_with fail
    refine Calls.mono (nback_any Ab nb cb x.c.bins Hnb.out Hlb.out.1 Hlb.out.2.1 Hlb.out.2.2 w3 ((Hbins.out.below hb3w (Nat.le_refl _)).more hb3w.size) Hbw.out b2 Hb2.out) ?_
    rintro e w4 ⟨rfl, hb4⟩
    have q6 : w4.cell? ⟨w.heap.size, 103, none⟩ = some (.slice Ab nb cb) := (hb4.cell (p := ⟨w.heap.size, 103, none⟩) (show w.heap.size < w3.heap.size by omega)).trans q5
    have hb4w : Below w.heap.size w w4 := hb3w.trans (hb4.mono hb3w.size)
    clear q5 hb3w hb4
    cases b2 with
    | false =>
      have Hno : Hid (b = false) := Lib.hid (by rw [Hb.out]; simp)
      clear Hb
      go_wp2_with fail
      go_ret
      exact ⟨by rw [Hno.out]; rfl, hb4w⟩
    | true =>
      rw [Bool.true_and] at Hb
      go_wp2_with fail
      refine Calls.mono (rise_any Ab nb cb x.c.bins Hnb.out Hlb.out.1 Hlb.out.2.1 w4 ((Hbins.out.below hb4w (Nat.le_refl _)).more hb4w.size) b3 Hb3.out) ?_
      rintro e w5 ⟨rfl, hb5⟩
      have hb5w : Below w.heap.size w w5 := hb4w.trans (hb5.mono hb4w.size)
      clear q6 hb4w hb5
      go_wp2_with fail
      go_ret
      exact ⟨by rw [Hb.out]; rfl, hb5w⟩

end Go.Proofs.Ytlfddijmanlneaa

namespace Go.Proofs.Ytlfddijmanlneaa
open Go.RowKit
set_option linter.unusedVariables false
set_option linter.unusedSimpArgs false


def rowsP {α : Type} (enc : α → List UInt8) : List α → List UInt8 → List UInt8
  | [], out => out
  | r :: rs, out => if 65536 < out.length then out else rowsP enc rs (out ++ enc r)
theorem rowsP_big {α : Type} (enc : α → List UInt8) (rs : List α) {out : List UInt8} (h : 65536 < out.length) : rowsP enc rs out = out := by
  cases rs with
  | nil => rfl
  | cons r rs => unfold rowsP; rw [if_pos h]
theorem rowsP_le {α : Type} (enc : α → List UInt8) : ∀ (rs : List α) (out : List UInt8), out.length ≤ (rowsP enc rs out).length
  | [], out => Nat.le_refl _
  | r :: rs, out => by
    unfold rowsP
    split
    · exact Nat.le_refl _
    · have := rowsP_le enc rs (out ++ enc r)
      rw [List.length_append] at this
      omega
theorem rowsP_lim {α : Type} (enc : α → List UInt8) (M : Nat) : ∀ (rs : List α) (out : List UInt8), (∀ r ∈ rs, (enc r).length ≤ M) → (rowsP enc rs out).length ≤ max out.length (65536 + M)
  | [], out, _ => by simp only [rowsP]; omega
  | r :: rs, out, h => by
    unfold rowsP
    split
    · omega
    · have h1 := h r List.mem_cons_self
      have h2 := rowsP_lim enc M rs (out ++ enc r) fun x hx => h x (List.mem_cons_of_mem _ hx)
      rw [List.length_append] at h2
      omega
/-- All rows, or there is no room. -/
theorem rowsP_full {α : Type} (enc enc' : α → List UInt8) (he : ∀ r, enc r = enc' r ∨ (65536 < (enc r).length ∧ 65536 < (enc' r).length)) : ∀ (rs : List α) (out : List UInt8),
    rowsP enc rs out = out ++ rs.flatMap enc' ∨ (65536 < (rowsP enc rs out).length ∧ 65536 < (out ++ rs.flatMap enc').length)
  | [], out => .inl (by simp [rowsP])
  | r :: rs, out => by
    unfold rowsP
    by_cases h : 65536 < out.length
    · rw [if_pos h]
      exact .inr ⟨h, by rw [List.length_append]; omega⟩
    · rw [if_neg h, List.flatMap_cons]
      rcases he r with e | ⟨e1, e2⟩
      · rw [e, ← List.append_assoc]
        exact rowsP_full enc enc' he rs (out ++ enc' r)
      · have := rowsP_le enc rs (out ++ enc r)
        rw [List.length_append] at this
        refine .inr ⟨by omega, ?_⟩
        rw [List.length_append, List.length_append]
        omega
def encT (e : List UInt8) : List UInt8 := Lib.uvarint (min e.length 65536) ++ e.take 65536
theorem encT_is (e : List UInt8) : encT e = encE e ∨ (65536 < (encT e).length ∧ 65536 < (encE e).length) := by
  unfold encT encE
  by_cases h : e.length ≤ 65536
  · rw [Nat.min_eq_left h, List.take_of_length_le h]; exact .inl rfl
  · have h1 := Lib.uvarint_pos (min e.length 65536)
    have h2 := Lib.uvarint_pos e.length
    refine .inr ⟨?_, ?_⟩
    · rw [List.length_append, List.length_take]; omega
    · rw [List.length_append]; omega
theorem encT_lim (e : List UInt8) : (encT e).length ≤ 65546 := by
  unfold encT
  have := Lib.uvarint_length64 (x := min e.length 65536) (by omega)
  rw [List.length_append, List.length_take]
  omega
/-- What Encode makes of a commit that may be. -/
def outC (c : Com) : List UInt8 := rowsP encT c.evs ((rowsP encN c.bins (encH c ++ Lib.uvarint c.bins.length) ++ c.st) ++ Lib.uvarint c.evs.length)
theorem outC_is (c : Com) : outC c = encC c ∨ (65536 < (outC c).length ∧ 65536 < (encC c).length) := by
  unfold outC encC
  rcases rowsP_full encN encN (fun _ => .inl rfl) c.bins (encH c ++ Lib.uvarint c.bins.length) with e | ⟨e1, e2⟩
  · rw [e]
    have h := rowsP_full encT encE encT_is c.evs (((encH c ++ Lib.uvarint c.bins.length) ++ c.bins.flatMap encN ++ c.st) ++ Lib.uvarint c.evs.length)
    simp only [List.append_assoc] at h ⊢
    exact h
  · have := rowsP_le encT c.evs ((rowsP encN c.bins (encH c ++ Lib.uvarint c.bins.length) ++ c.st) ++ Lib.uvarint c.evs.length)
    simp only [List.length_append] at this e2 ⊢
    exact .inr ⟨by omega, by omega⟩

theorem number_own (B x : Nat) (hx : x < 18446744073709551616) (sv : Value) (bs : List UInt8) (w : World) (hown : Owns w B 5 sv bs) (hBw : B ≤ w.heap.size) (hlim : bs.length ≤ 1000000) :
    Calls Try.prog 24 #[sv, .int .u64 x] w fun e w' => ∃ v', e = .returned v' ∧ Owns w' B 5 v' (bs ++ Lib.uvarint x) ∧ Below B w w' := by
  refine (number_any B x hx sv bs w hown hBw (by omega)).mono ?_
  rintro e w' ⟨v', rfl, h1, h2⟩
  exact ⟨v', rfl, h1, h2.below hBw fun k hk => (hown.lt k hk).1⟩

set_option maxHeartbeats 4000000 in
set_option maxRecDepth 100000 in
theorem evput_any (e : List UInt8) (A : Option Addr) (n c : Nat) (w : World) (hn : e.length = n) (hc : n ≤ c) (hm : c ≤ maxLen) (hn2 : n ≤ 1000000) (hb : Bs w w.heap.size A e) :
    Calls Try.prog 29 #[.slice none 0 0, .slice A n c] w fun r w' => ∃ v, r = .returned v ∧ Owns w' w.heap.size 5 v (encT e) ∧ Below w.heap.size w w' := by
  have hm' : c ≤ 9223372036854775807 := by unfold maxLen at hm; omega
  obtain ⟨m, hme⟩ : ∃ m, min n 65536 = m := ⟨_, rfl⟩
  have hmc : m ≤ c := by omega
  have hlen : (e.take 65536).length = m := by rw [List.length_take, hn]; omega
  have hbt : Bs w w.heap.size A (e.take 65536) := fun hp => by
    obtain ⟨b, off, e1, hlt, hr⟩ := hb (by rw [List.length_take] at hp; omega)
    refine ⟨b, off, e1, hlt, fun j hj => ?_⟩
    rw [List.length_take] at hj
    have e2 : (e.take 65536).getD j 0 = e.getD j 0 := by simp [List.getD, List.getElem?_take, show j < 65536 by omega]
    rw [e2]
    exact hr j (by omega)
  have Hout := Lib.hid (show encT e = [] ++ (Lib.uvarint m ++ e.take 65536) by unfold encT; rw [hn, hme]; rfl)
  have hcall := bytes_any w.heap.size (.slice none 0 0) [] (e.take 65536) A c w (Owns.nil _ _ _) (Nat.le_refl _) hbt (by rw [hlen]; exact hmc) (by rw [hlen]; simp; omega)
  rw [hlen] at hcall
  have Hcall := Lib.hid hcall
  have hmin : min (n : Int) 65536 = (m : Int) := by omega
  have hmin2 : (if (n : Int) ≤ 65536 then (n : Int) else 65536) = (m : Int) := by split <;> omega
  have hmI : (m : Int) ≤ (c : Int) := by omega
  clear hcall hbt hlen hb hn
  go_enter Try.func29, Try.ntmps29
  go_wp2_with fail
  refine Calls.mono Hcall.out ?_
  rintro r w1 ⟨v1, rfl, hO1, hg1⟩
  have hb1 := hg1.below (Nat.le_refl _) (fun k hk => by cases hk)
  have HO1 := Lib.hid hO1
  clear hO1 hg1
  go_wp2_with fail
  go_ret
  exact ⟨v1, rfl, by rw [Hout.out]; exact HO1.out, hb1⟩


set_option maxHeartbeats 4000000 in
set_option maxRecDepth 100000 in
theorem nrow_any (B : Nat) (sv : Value) (out : List UInt8) (A : Option Addr) (n c : Nat) (rs : List BinF) (hn : rs.length = n) (hc : n ≤ c) (hm : c ≤ maxLen) (hn2 : n ≤ 1000000) (w : World) (hown : Owns w B 5 sv out) (hBw : B ≤ w.heap.size) (hlim : out.length ≤ 300000) (h : RowOf bC 35 w B A rs) (hd : ∀ r ∈ rs, BinW r) :
    Calls Try.prog 26 #[sv, .slice A n c, .func (.func 27) #[] #[]] w fun e w' => ∃ v, e = .returned v ∧ Owns w' B 5 v (rowsP encN rs (out ++ Lib.uvarint n)) ∧ Below B w w' := by
  obtain ⟨i0, hi, hz0, hz1, hz2⟩ := info_parts byteInfo
  have hm' : c ≤ 9223372036854775807 := by unfold maxLen at hm; omega
  have Hi := Lib.hid (show (Try.prog.info? 5) = some i0 ∧ i0.zero = some (.int .u8 0) ∧ i0.size = 1 ∧ i0.bytes = 1 from ⟨hi, hz0, hz1, hz2⟩)
  have Hn := Lib.hid hn
  obtain ⟨ZL, hZL⟩ : ∃ z, z = binZ := ⟨_, rfl⟩
  have HZ := Lib.hid (fun w : World => show (zeroValue 63).run Try.prog w = .ok (.agg ZL.toArray) w by rw [hZL]; exact binZero w)
  have HZl := Lib.hid (show ZL.length = 35 by rw [hZL]; rfl)
  have Hh := Lib.hid h
  have Hd := Lib.hid hd
  have hul := Lib.uvarint_length64 (x := n) (by omega)
  have hwn : IntKind.u64.wrap (n : Int) = (n : Int) := IntWalk.u64_in _ (by omega)
  obtain ⟨R, hR⟩ : ∃ z, rowsP encN rs (out ++ Lib.uvarint n) = z := ⟨_, rfl⟩
  have HR := Lib.hid hR
  rw [hR]
  have Hown := Lib.hid hown
  have Hkp := Lib.hid (fun (wr : World) (hbr : Below B w wr) (b o : Nat) (hb : b < B) => show wr.cell? ⟨b, o, none⟩ = w.cell? ⟨b, o, none⟩ from World.cell?_of_block (hbr.block b hb))
  clear hn hi hz0 hz1 hz2 hR hown h hd hZL
  go_enter Try.func26, Try.ntmps26
  go_wp2_with fail
  refine Calls.mono (number_own B n (by omega) sv out w Hown.out hBw (by omega)) ?_
  rintro e w1 ⟨v1, rfl, hO1, hb1⟩
  have hlen1 : Hid ((out ++ Lib.uvarint n).length ≤ 400000) := Lib.hid (by rw [List.length_append]; omega)
  have h1B : B ≤ w1.heap.size := by have := hb1.size; omega
  go_wp2_with fail
  go_loopw [0, 16] (fun v i wr => ∃ (k : Nat) (o : List UInt8), k ≤ n ∧ i = .int .i64 k ∧ Owns wr B 5 v o ∧ Hid (rowsP encN (rs.drop k) o = R) ∧ Hid (o.length ≤ 400000) ∧ Below B w wr) (fun _ i _ => n - (Go.RowKit.intOf i).toNat)
  case atStart => exact ⟨0, _, Nat.zero_le _, rfl, hO1, Lib.hid HR.out, hlen1, hb1⟩
  case round =>
    clear hO1 hb1 hlen1 h1B
    obtain ⟨k, o, hk, rfl, hO, Ho, Hl, hbr⟩ := hrel
    have hrB : B ≤ wr.heap.size := by have := hbr.size; omega
    by_cases hlt : k < n
    · have hd1 : decide ((k : Int) < (n : Int)) = true := by simp; omega
      obtain ⟨x, hx⟩ : ∃ x, rs[k]? = some x := ⟨rs[k]'(by rw [Hn.out]; exact hlt), List.getElem?_eq_getElem _⟩
      have hdrop : rs.drop k = x :: rs.drop (k + 1) := by
        rw [List.drop_eq_getElem_cons (by rw [Hn.out]; exact hlt)]
        congr 1
        rw [List.getElem?_eq_getElem (by rw [Hn.out]; exact hlt)] at hx
        injection hx
      have hstep := Ho.out
      rw [hdrop] at hstep
      unfold rowsP at hstep
      have Hstep := Lib.hid hstep
      obtain ⟨Ao, co, rfl, hoc, hom, hobs⟩ := hO.slice
      obtain ⟨lo, hlo⟩ : ∃ z, o.length = z := ⟨_, rfl⟩
      rw [hlo] at hoc hO Hl Hstep ⊢
      have hl4 := Hl.out
      have hom' : co ≤ 9223372036854775807 := by unfold maxLen at hom; omega
      have Hlo := Lib.hid hlo
      have HO := Lib.hid hO
      clear hdrop hstep hobs hlo hO
      obtain ⟨bb, off, rfl, hblk, hrow⟩ := Hh.out (by rw [Hn.out]; omega)
      have hxw := Hd.out x (List.mem_of_getElem? hx)
      obtain ⟨XL, hXL⟩ : ∃ z, z = bC x := ⟨_, rfl⟩
      have hXl : XL.length = 35 := by rw [hXL, bC_length hxw]
      have hrg : wr.rangeAt bb (off + k * 35) XL := fun j v hj => by
        rw [hXL] at hj
        exact (Hkp.out wr hbr bb _ hblk).trans (hrow k x hx j v hj)
      have HXi := Lib.hid (show (Try.prog.info? 63).map (·.size) = some XL.length by rw [hXl]; exact binSize)
      have HXj := Lib.hid (show (Try.prog.info? 63).map (·.size) = some XL.toArray.size by rw [List.size_toArray, hXl]; exact binSize)
      have HX1 := Lib.hid (show XL.toArray.all (·.oneCell') = true by rw [hXL]; exact all_oneC (bC_one x))
      have HXz := Lib.hid (show ZL.toArray.size = XL.toArray.size by rw [List.size_toArray, List.size_toArray, HZl.out, hXl])
      obtain ⟨wa, hwa⟩ : ∃ W, W = (wr.alloc (.cells ZL.toArray 63)).setRow wr.heap.size XL.toArray := ⟨_, rfl⟩
      obtain ⟨hXa, hbra⟩ := alloc_row wr 63 ZL.toArray XL
      rw [← hwa] at hXa hbra
      have hba : Below B w wa := hbr.trans (hbra.mono hrB)
      have HOa := Lib.hid (HO.out.below hbra fun g hg => (HO.out.lt g hg).2)
      have haB : B ≤ wa.heap.size := by have := hba.size; omega
      have Hwa := Lib.hid hwa
      have Hxw := Lib.hid hxw
      have HXL := Lib.hid hXL
      clear hwa hx hrow hXl hbra hxw hXL hblk
      go_upto_region 5 with (first
        | (refine wpList_load_mid rfl _ _ rfl bb (off + k * 35) rfl XL _ hrg Try.underlying63 rfl HXi.out ?_)
        | (refine wpList_allocZC rfl 63 rfl ZL.toArray (HZ.out _) ?_)
        | (refine wpList_store_row rfl _ _ _ rfl wr.heap.size XL.toArray rfl rfl 63 ZL.toArray (heap_alloc_new wr _) HXj.out HXz.out HX1.out ?_; rw [← Hwa.out]))
      clear hrg
      by_cases hbig : 65536 < lo
      · have hq1 : decide ((65536 : Int) < (lo : Int)) = true := by simp; omega
        have hst := Hstep.out
        rw [if_pos hbig] at hst
        have Hst := Lib.hid hst
        clear hst
        go_wp2_with fail
        go_ret
        exact ⟨_, rfl, by rw [← Hst.out]; exact HOa.out, hba⟩
      · have hq1 : decide ((65536 : Int) < (lo : Int)) = false := by simp; omega
        have hst := Hstep.out
        rw [if_neg hbig] at hst
        have Hst := Lib.hid hst
        have hlo5 : lo ≤ 65536 := by omega
        clear hst hbig
        go_wp2_with (refine wpList_load_row rfl _ _ rfl wr.heap.size rfl 63 XL.toArray (0, 0) _ hXa Try.underlying63 rfl HXj.out ?_)
        refine Calls.mono (nput_any x.x x.a x.n x.d Hxw.out.d XL HXL.out wa) ?_
        rintro e w6 ⟨v6, rfl, hO6, hb6⟩
        have Hl6x := Lib.hid (show (encN x).length ≤ 72 by have := encN_lim x; have := Hxw.out.d; omega)
        have hO6 : Owns w6 wa.heap.size 5 v6 (encN x) := hO6
        have h6a := hb6.size
        have h6B : B ≤ w6.heap.size := by omega
        have HOz := Lib.hid (HOa.out.below hb6 fun g hg => (HOa.out.lt g hg).2)
        obtain ⟨A6, c6, rfl, h6c, h6m, hBs6⟩ := hO6.slice
        obtain ⟨m6, hm6⟩ : ∃ z, (encN x).length = z := ⟨_, rfl⟩
        have hb6B : Below B w w6 := hba.trans (hb6.mono haB)
        have hlx6 := Hl6x.out
        rw [hm6] at h6c hlx6 ⊢
        have Hm6 := Lib.hid hm6
        have HBs6 := Lib.hid hBs6
        have h6m' : c6 ≤ 9223372036854775807 := by unfold maxLen at h6m; omega
        clear hb6 hO6 hm6 hBs6
        go_wp2_with (refine wpList_append_bs rfl _ _ 33 rfl B 5 i0 (.int .u8 0) Try.underlying33 Hi.out.1 Hi.out.2.1 Hi.out.2.2.1 Hi.out.2.2.2 rfl _ o rfl HOz.out w6.heap.size A6 m6 c6 (encN x) rfl Hm6.out HBs6.out (by rw [Hlo.out]; omega) h6B ?_; intro v7 w7 hO7 hg7)
        have hb7 : Below B w w7 := hb6B.trans (hg7.below h6B fun g hg => (HOz.out.lt g hg).1)
        have Hl7 : Hid ((o ++ encN x).length ≤ 400000) := Lib.hid (by rw [List.length_append, Hlo.out, Hm6.out]; omega)
        clear hg7
        go_roundw
        case rel => exact ⟨k + 1, _, by omega, by go_num, hO7, Hst, Hl7, hb7⟩
        case measure => simp [Go.RowKit.intOf]; omega
    · obtain rfl : k = n := by omega
      have hd1 : decide (k < k) = false := by simp
      have hfin := Ho.out
      rw [List.drop_of_length_le (by rw [Hn.out]; exact Nat.le_refl _)] at hfin
      have Hfin := Lib.hid (show o = R from hfin)
      have HO := Lib.hid hO
      clear hfin hO
      go_wp2_with fail
      go_ret
      exact ⟨_, rfl, by rw [← Hfin.out]; exact HO.out, hbr⟩


set_option maxHeartbeats 4000000 in
set_option maxRecDepth 100000 in
theorem erow_any (B : Nat) (sv : Value) (out : List UInt8) (A : Option Addr) (n c : Nat) (rs : List (List UInt8)) (hn : rs.length = n) (hc : n ≤ c) (hm : c ≤ maxLen) (hn2 : n ≤ 1000000) (w : World) (hown : Owns w B 5 sv out) (hBw : B ≤ w.heap.size) (hlim : out.length ≤ 300000) (h : RowsAt w B A rs) (hd : ∀ r ∈ rs, r.length ≤ 1000000) :
    Calls Try.prog 28 #[sv, .slice A n c, .func (.func 29) #[] #[]] w fun e w' => ∃ v, e = .returned v ∧ Owns w' B 5 v (rowsP encT rs (out ++ Lib.uvarint n)) ∧ Below B w w' := by
  obtain ⟨i0, hi, hz0, hz1, hz2⟩ := info_parts byteInfo
  have hm' : c ≤ 9223372036854775807 := by unfold maxLen at hm; omega
  have Hi := Lib.hid (show (Try.prog.info? 5) = some i0 ∧ i0.zero = some (.int .u8 0) ∧ i0.size = 1 ∧ i0.bytes = 1 from ⟨hi, hz0, hz1, hz2⟩)
  have Hn := Lib.hid hn
  have Hh := Lib.hid h
  have Hd := Lib.hid hd
  have hul := Lib.uvarint_length64 (x := n) (by omega)
  have hwn : IntKind.u64.wrap (n : Int) = (n : Int) := IntWalk.u64_in _ (by omega)
  obtain ⟨R, hR⟩ : ∃ z, rowsP encT rs (out ++ Lib.uvarint n) = z := ⟨_, rfl⟩
  have HR := Lib.hid hR
  rw [hR]
  have Hown := Lib.hid hown
  have Hkp := Lib.hid (fun (wr : World) (hbr : Below B w wr) (b o : Nat) (hb : b < B) => show wr.cell? ⟨b, o, none⟩ = w.cell? ⟨b, o, none⟩ from World.cell?_of_block (hbr.block b hb))
  clear hn hi hz0 hz1 hz2 hR hown h hd
  go_enter Try.func28, Try.ntmps28
  go_wp2_with fail
  refine Calls.mono (number_own B n (by omega) sv out w Hown.out hBw (by omega)) ?_
  rintro e w1 ⟨v1, rfl, hO1, hb1⟩
  have hlen1 : Hid ((out ++ Lib.uvarint n).length ≤ 400000) := Lib.hid (by rw [List.length_append]; omega)
  have h1B : B ≤ w1.heap.size := by have := hb1.size; omega
  go_wp2_with fail
  go_loopw [0, 16] (fun v i wr => ∃ (k : Nat) (o : List UInt8), k ≤ n ∧ i = .int .i64 k ∧ Owns wr B 5 v o ∧ Hid (rowsP encT (rs.drop k) o = R) ∧ Hid (o.length ≤ 400000) ∧ Below B w wr) (fun _ i _ => n - (Go.RowKit.intOf i).toNat)
  case atStart => exact ⟨0, _, Nat.zero_le _, rfl, hO1, Lib.hid HR.out, hlen1, hb1⟩
  case round =>
    clear hO1 hb1 hlen1 h1B
    obtain ⟨k, o, hk, rfl, hO, Ho, Hl, hbr⟩ := hrel
    have hrB : B ≤ wr.heap.size := by have := hbr.size; omega
    by_cases hlt : k < n
    · have hd1 : decide ((k : Int) < (n : Int)) = true := by simp; omega
      obtain ⟨x, hx⟩ : ∃ x, rs[k]? = some x := ⟨rs[k]'(by rw [Hn.out]; exact hlt), List.getElem?_eq_getElem _⟩
      have hdrop : rs.drop k = x :: rs.drop (k + 1) := by
        rw [List.drop_eq_getElem_cons (by rw [Hn.out]; exact hlt)]
        congr 1
        rw [List.getElem?_eq_getElem (by rw [Hn.out]; exact hlt)] at hx
        injection hx
      have hstep := Ho.out
      rw [hdrop] at hstep
      unfold rowsP at hstep
      have Hstep := Lib.hid hstep
      obtain ⟨Ao, co, rfl, hoc, hom, hobs⟩ := hO.slice
      obtain ⟨lo, hlo⟩ : ∃ z, o.length = z := ⟨_, rfl⟩
      rw [hlo] at hoc hO Hl Hstep ⊢
      have hl4 := Hl.out
      have hom' : co ≤ 9223372036854775807 := by unfold maxLen at hom; omega
      have Hlo := Lib.hid hlo
      have HO := Lib.hid hO
      clear hdrop hstep hobs hlo hO
      obtain ⟨bb, off, rfl, hblk, hrow⟩ := Hh.out (by rw [Hn.out]; omega)
      obtain ⟨Ax, cx, hcx, hxc, hxm, hbx⟩ := hrow k (by rw [Hn.out]; exact hlt)
      have hxk : rs.getD k [] = x := by simp [List.getD, hx]
      rw [hxk] at hcx hxc hbx
      have hxl := Hd.out x (List.mem_of_getElem? hx)
      obtain ⟨lx, hlx⟩ : ∃ z, x.length = z := ⟨_, rfl⟩
      rw [hlx] at hcx hxc hxl
      have hcr : wr.cell? ⟨bb, off + k, none⟩ = some (.slice Ax lx cx) := (Hkp.out wr hbr bb _ hblk).trans hcx
      have Hbx := Lib.hid (show Bs wr wr.heap.size Ax x from (hbx.below hbr (Nat.le_refl _)).more hrB)
      have Hlx := Lib.hid hlx
      obtain ⟨wa, rfl⟩ : ∃ z, z = wr := ⟨_, rfl⟩
      have hba := hbr
      have HOa := HO
      have haB := hrB
      clear hx hrow hcx hbx hxk hlx hblk
      go_upto_region 5 with fail
      clear hcr
      by_cases hbig : 65536 < lo
      · have hq1 : decide ((65536 : Int) < (lo : Int)) = true := by simp; omega
        have hst := Hstep.out
        rw [if_pos hbig] at hst
        have Hst := Lib.hid hst
        clear hst
        go_wp2_with fail
        go_ret
        exact ⟨_, rfl, by rw [← Hst.out]; exact HOa.out, hba⟩
      · have hq1 : decide ((65536 : Int) < (lo : Int)) = false := by simp; omega
        have hst := Hstep.out
        rw [if_neg hbig] at hst
        have Hst := Lib.hid hst
        have hlo5 : lo ≤ 65536 := by omega
        clear hst hbig
        go_wp2_with fail
        refine Calls.mono (evput_any x Ax lx cx wa Hlx.out hxc hxm hxl Hbx.out) ?_
        rintro e w6 ⟨v6, rfl, hO6, hb6⟩
        have Hl6x := Lib.hid (show (encT x).length ≤ 65546 from encT_lim x)
        have h6a := hb6.size
        have h6B : B ≤ w6.heap.size := by omega
        have HOz := Lib.hid (HOa.out.below hb6 fun g hg => (HOa.out.lt g hg).2)
        obtain ⟨A6, c6, rfl, h6c, h6m, hBs6⟩ := hO6.slice
        obtain ⟨m6, hm6⟩ : ∃ z, (encT x).length = z := ⟨_, rfl⟩
        have hb6B : Below B w w6 := hba.trans (hb6.mono haB)
        have hlx6 := Hl6x.out
        rw [hm6] at h6c hlx6 ⊢
        have Hm6 := Lib.hid hm6
        have HBs6 := Lib.hid hBs6
        have h6m' : c6 ≤ 9223372036854775807 := by unfold maxLen at h6m; omega
        clear hb6 hO6 hm6 hBs6
        go_wp2_with (refine wpList_append_bs rfl _ _ 33 rfl B 5 i0 (.int .u8 0) Try.underlying33 Hi.out.1 Hi.out.2.1 Hi.out.2.2.1 Hi.out.2.2.2 rfl _ o rfl HOz.out w6.heap.size A6 m6 c6 (encT x) rfl Hm6.out HBs6.out (by rw [Hlo.out]; omega) h6B ?_; intro v7 w7 hO7 hg7)
        have hb7 : Below B w w7 := hb6B.trans (hg7.below h6B fun g hg => (HOz.out.lt g hg).1)
        have Hl7 : Hid ((o ++ encT x).length ≤ 400000) := Lib.hid (by rw [List.length_append, Hlo.out, Hm6.out]; omega)
        clear hg7
        go_roundw
        case rel => exact ⟨k + 1, _, by omega, by go_num, hO7, Hst, Hl7, hb7⟩
        case measure => simp [Go.RowKit.intOf]; omega
    · obtain rfl : k = n := by omega
      have hd1 : decide (k < k) = false := by simp
      have hfin := Ho.out
      rw [List.drop_of_length_le (by rw [Hn.out]; exact Nat.le_refl _)] at hfin
      have Hfin := Lib.hid (show o = R from hfin)
      have HO := Lib.hid hO
      clear hfin hO
      go_wp2_with fail
      go_ret
      exact ⟨_, rfl, by rw [← Hfin.out]; exact HO.out, hbr⟩

end Go.Proofs.Ytlfddijmanlneaa

namespace Go.Proofs.Ytlfddijmanlneaa
open Go.RowKit
set_option linter.unusedVariables false
set_option linter.unusedSimpArgs false


theorem binAll : (Try.prog.info? 63).map (fun i => (i.zero, i.size, i.bytes)) = some (some (.agg binZ.toArray), 35, 56) := by kernel_rfl
theorem fill_rowB {k : Nat} (l : List Value) (hl : l.length = k) (cells : Array Value) (hc : cells.size = k) : Instr.fill (fun i => some (i * k, k)) cells [(0, .agg l.toArray)] = some l.toArray := by
  have h := fill_mid (fun i => some (i * k, k)) cells 0 0 l (by rw [hl, Nat.zero_mul]) (by omega)
  rw [h]
  congr 2
  rw [List.take_zero, List.nil_append, hl, List.drop_of_length_le (by simp [hc]), List.append_nil]
def binsC (bs : List BinF) : List Value := bs.flatMap bC
theorem binsC_append (a b : List BinF) : binsC (a ++ b) = binsC a ++ binsC b := by unfold binsC; rw [List.flatMap_append]
theorem binsC_one (x : BinF) : binsC [x] = bC x := by simp [binsC]
/-- A row of bins of the call's own, from block B on. -/
def BRow (w : World) (B : Nat) (v : Value) (bs : List BinF) : Prop := (∀ b ∈ bs, BinW b) ∧ w.ownsRow B 63 35 v bs.length (binsC bs)
theorem BRow.nil (w : World) (B : Nat) : BRow w B (.slice none 0 0) [] := ⟨fun _ h => (by cases h), World.ownsRow_nil w B _ 35⟩
theorem BRow.lt {w : World} {B : Nat} {v : Value} {cs : List BinF} (h : BRow w B v cs) : ∀ k, v.ownBlock = some k → B ≤ k ∧ k < w.heap.size := World.ownsRow.lt h.2
theorem BRow.turn {w w' : World} {B p : Nat} {v : Value} {bs : List BinF} (h : BRow w B v bs) (ht : Turn p w w') (hp : p < B) : BRow w' B v bs := by
  refine ⟨h.1, World.ownsRow.kept h.2 ht (.inr fun e => ?_)⟩
  have := (h.lt p e).1
  omega
theorem BRow.up {w w' : World} {B : Nat} {v : Value} {cs : List BinF} (h : BRow w B v cs) (hb : Below w.heap.size w w') : BRow w' B v cs := by
  refine ⟨h.1, h.2.1, ?_⟩
  rcases h.2.2 with hn | ⟨g, cap, cur, rfl, h1, hg, rest⟩
  · exact .inl hn
  · exact .inr ⟨g, cap, cur, rfl, h1, (hb.block g (Array.getElem?_eq_some_iff.1 hg).1).trans hg, rest⟩

theorem flat_at {α : Type} {k : Nat} {f : α → List Value} {xs : List α} (h : ∀ x ∈ xs, (f x).length = k) {i : Nat} {x : α} (hi : xs[i]? = some x) (j : Nat) (v : Value) (hj : (f x)[j]? = some v) : (xs.flatMap f)[i * k + j]? = some v := by
  induction xs generalizing i with
  | nil => simp at hi
  | cons y xs ih =>
    have hl := h y List.mem_cons_self
    rw [List.flatMap_cons]
    cases i with
    | zero =>
      simp at hi
      subst hi
      rw [Nat.zero_mul, Nat.zero_add, List.getElem?_append_left (List.getElem?_eq_some_iff.1 hj).1]
      exact hj
    | succ i =>
      have := ih (fun x hx => h x (List.mem_cons_of_mem _ hx)) (i := i) (by simpa using hi)
      rw [List.getElem?_append_right (by rw [hl]; rw [Nat.succ_mul]; omega), hl, show (i + 1) * k + j - k = i * k + j by rw [Nat.succ_mul]; omega]
      exact this
/-- '[]Cell{x}'. -/
theorem wp_build_bn {o : Oper} {a : Act} {w : World} {K : Act → World → Prop} {Q : Exit → Act → World → Prop} (dd : Option Tmp) (hdd : o.dst = dd) (x : Operand) (ho : o.op = .buildSlice 27 1 #[(0, x)]) (VL : List Value) (hV : VL.length = 35) (hx : a.eval x = .agg VL.toArray)
    (h : K (a.put dd (.slice (some ⟨w.heap.size, 0, none⟩) 1 1)) (w.alloc (.cells VL.toArray 63))) : Oper.wp Try.prog o a w K Q := by
  subst hdd
  obtain ⟨i0, hi, hz0, hz1, hz2⟩ := info_parts binAll
  refine wp_buildSlice 27 63 1 #[(0, x)] ho VL.toArray i0 _ Try.underlying27 hi hz0 (by rw [hz1]; decide) (by rw [hz1]; decide) ?_ h
  rw [hz1]
  simp only [List.map_toArray, List.map_cons, List.map_nil, hx]
  exact fill_rowB VL hV _ (by simp)

theorem wpList_build_bn {ops : Array Oper} {rest : List Oper} {o : Oper} {a : Act} {w : World} {Q : Exit → Act → World → Prop} (hg : o.guard = none) (x : Operand) (ho : o.op = .buildSlice 27 1 #[(0, x)]) (VL : List Value) (hV : VL.length = 35) (hx : a.eval x = .agg VL.toArray)
    (h : wpList Try.prog ops Q rest (a.put o.dst (.slice (some ⟨w.heap.size, 0, none⟩) 1 1)) (w.alloc (.cells VL.toArray 63))) : wpList Try.prog ops Q (o :: rest) a w :=
  wpList_plain hg fun _ hK => wp_build_bn o.dst rfl x ho VL hV hx (hK _ _ h)

theorem run_append_bn {w : World} {B : Nat} {v : Value} {xs : List BinF} (h : BRow w B v xs) (hB : B ≤ w.heap.size) (ty : TypeId) (g c : Nat) (x : BinF) (hx : BinW x) (VL : List Value) (hV : VL = bC x) (hg : Arr w g 63 VL) (hm : xs.length ≤ 2000000) :
    ∃ v' w', (Builtin.append_ #[27, 27] ty #[v, .slice (some ⟨g, 0, none⟩) 1 c]).run Try.prog w = .ok v' w' ∧ BRow w' B v' (xs ++ [x]) ∧ w.grownBy w' v.ownBlock := by
  obtain ⟨i0, hi, hz0, hz1, hz2⟩ := info_parts binAll
  subst hV
  have hadd : ∀ k, (⟨g, 0, none⟩ : Addr).add k = ⟨g, k, none⟩ := fun k => by unfold Addr.add; split <;> simp_all
  obtain ⟨v', w', h1, h2, h3, _, _⟩ := run_append_own_at (P := Try.prog) w B 27 ty 63 i0 (.agg binZ.toArray) 35 56 Try.underlying27 hi hz0 hz1 hz2 rfl (by decide) v xs.length (binsC xs) h.2 ⟨g, 0, none⟩ 1 c (bC x) (by rw [bC_length hx]) (fun j u hj => by rw [hadd, hg.cell]; exact hj) (bC_one x) (by unfold maxLen; omega) (by omega) hB
  refine ⟨v', w', h1, ⟨fun y hy => ?_, ?_⟩, h3⟩
  · rcases List.mem_append.1 hy with hy | hy
    · exact h.1 y hy
    · rw [List.mem_singleton] at hy; rw [hy]; exact hx
  · rw [binsC_append, binsC_one, List.length_append]
    exact h2

theorem wpList_append_bn {ops : Array Oper} {rest : List Oper} {o : Oper} {a : Act} {w : World} {Q : Exit → Act → World → Prop} (hgd : o.guard = none) (s x : Operand) (ho : o.op = .call { callee := .builtin .append, args := #[s, x], argTypes := #[27, 27] })
    {B : Nat} {v : Value} {xs : List BinF} (h : BRow w B v xs) (hB : B ≤ w.heap.size) (hs : a.eval s = v) (g c : Nat) (hx : a.eval x = .slice (some ⟨g, 0, none⟩) 1 c) (y : BinF) (hy : BinW y) (VL : List Value) (hV : VL = bC y) (hg : Arr w g 63 VL) (hm : xs.length ≤ 2000000)
    (hK : ∀ v' w', BRow w' B v' (xs ++ [y]) → w.grownBy w' v.ownBlock → wpList Try.prog ops Q rest (a.put o.dst v') w') : wpList Try.prog ops Q (o :: rest) a w := by
  refine wpList_plain hgd fun K hK' => ?_
  obtain ⟨v', w', hr, h2, h3⟩ := run_append_bn h hB o.type g c y hy VL hV hg hm
  unfold Oper.wp execOp
  simp only [ho, resolve, invoke, builtin, Sem.run_bind, Sem.run_pure, Result.andThen_ok, List.map_toArray, List.map_cons, List.map_nil, hs, hx, hr]
  exact hK' _ _ (hK v' w' h2 h3)


theorem BRow.slice {w : World} {B : Nat} {v : Value} {cs : List BinF} (h : BRow w B v cs) : ∃ A c, v = .slice A cs.length c ∧ cs.length ≤ c ∧ c ≤ maxLen ∧ RowOf bC 35 w w.heap.size A cs := by
  rcases h.2.2 with ⟨rfl, hn⟩ | ⟨g, cap, cur, rfl, h1, hg, h2, h3, h4, h5⟩
  · exact ⟨none, 0, by rw [hn], by omega, by unfold maxLen; omega, fun hp => by omega⟩
  · refine ⟨_, cap, rfl, h2, h3, fun hp => ⟨g, 0, rfl, (Array.getElem?_eq_some_iff.1 hg).1, fun i x hx j v hj => ?_⟩⟩
    have hd := flat_at (k := 35) (f := bC) (fun x hx => bC_length (h.1 x hx)) hx j v hj
    have h5' : List.take (cs.length * 35) cur.toList = cs.flatMap bC := h5
    rw [← h5'] at hd
    have hlt : i * 35 + j < cs.length * 35 := by
      have := (List.getElem?_eq_some_iff.1 hd).1
      rw [List.length_take] at this
      omega
    rw [List.getElem?_take_of_lt hlt] at hd
    rw [cell_of_row w g _ cur 63 (0, 0) hg, Nat.zero_add]
    simpa using hd
theorem evAll : (Try.prog.info? 33).map (fun i => (i.zero, i.size, i.bytes)) = some (some (.slice none 0 0), 1, 24) := by kernel_rfl
/-- A row of rows of bytes of the call's own, from block B on; the bytes lie from block lo on, below p. -/
def ERow (lo : Nat) (w : World) (B p : Nat) (v : Value) (rs : List (List UInt8)) : Prop :=
  ∃ cs : List Value, w.ownsRow B 33 1 v rs.length cs ∧ ∀ (i : Nat) (r : List UInt8), rs[i]? = some r → ∃ (A : Option Addr) (c : Nat), cs[i]? = some (.slice A r.length c) ∧ r.length ≤ c ∧ c ≤ maxLen ∧ Bs w p A r ∧ (∀ a : Addr, A = some a → lo ≤ a.block)
variable {lo : Nat}
theorem ERow.nil (w : World) (B p : Nat) : ERow lo w B p (.slice none 0 0) [] := ⟨[], World.ownsRow_nil w B _ 1, fun i r h => by simp at h⟩
theorem ERow.lt {w : World} {B p : Nat} {v : Value} {rs : List (List UInt8)} (h : ERow lo w B p v rs) : ∀ k, v.ownBlock = some k → B ≤ k ∧ k < w.heap.size := by
  obtain ⟨cs, h1, _⟩ := h
  exact World.ownsRow.lt h1
theorem ERow.turn {w w' : World} {B p : Nat} {v : Value} {rs : List (List UInt8)} (h : ERow lo w B p v rs) (ht : Turn p w w') (hp : p < B) (hpw : p ≤ w.heap.size) : ERow lo w' B p v rs := by
  have hlt := h.lt
  obtain ⟨cs, h1, h2⟩ := h
  refine ⟨cs, World.ownsRow.kept h1 ht (.inr fun e => by have := (hlt p e).1; omega), fun i r hr => ?_⟩
  obtain ⟨A, c, k1, k2, k3, k4, k5⟩ := h2 i r hr
  exact ⟨A, c, k1, k2, k3, k4.keep fun b o hb => World.cell?_of_block (ht.block b (by omega) (fun e => by injection e; omega)), k5⟩
theorem ERow.up {w w' : World} {B p : Nat} {v : Value} {rs : List (List UInt8)} (h : ERow lo w B p v rs) (hb : Below w.heap.size w w') (hp : p ≤ w.heap.size) : ERow lo w' B p v rs := by
  obtain ⟨cs, h1, h2⟩ := h
  refine ⟨cs, ⟨h1.1, ?_⟩, fun i r hr => ?_⟩
  · rcases h1.2 with hn | ⟨g, cap, cur, rfl, e1, hg, rest⟩
    · exact .inl hn
    · exact .inr ⟨g, cap, cur, rfl, e1, (hb.block g (Array.getElem?_eq_some_iff.1 hg).1).trans hg, rest⟩
  · obtain ⟨A, c, k1, k2, k3, k4, k5⟩ := h2 i r hr
    exact ⟨A, c, k1, k2, k3, k4.below hb hp, k5⟩
theorem ERow.snoc {w w' : World} {B p : Nat} {v v' : Value} {rs : List (List UInt8)} {cs : List Value} {Y : List UInt8} {A : Option Addr} {n c : Nat} (h1 : w'.ownsRow B 33 1 v' (rs.length + 1) (cs ++ [.slice A n c])) (hl : cs.length = rs.length * 1)
    (h2 : ∀ (i : Nat) (r : List UInt8), rs[i]? = some r → ∃ (A : Option Addr) (c : Nat), cs[i]? = some (.slice A r.length c) ∧ r.length ≤ c ∧ c ≤ maxLen ∧ Bs w p A r ∧ (∀ a : Addr, A = some a → lo ≤ a.block))
    (hg : w.grownBy w' v.ownBlock) (hv : ∀ k, v.ownBlock = some k → B ≤ k) (hpB : p < B) (hpw : p ≤ w.heap.size) (hn : Y.length = n) (hc : n ≤ c) (hm : c ≤ maxLen) (hb : Bs w p A Y) (hlb : ∀ a : Addr, A = some a → lo ≤ a.block) : ERow lo w' B p v' (rs ++ [Y]) := by
  have keep : ∀ (A : Option Addr) (r : List UInt8), Bs w p A r → Bs w' p A r := fun A r h => h.keep fun b o hb => World.cell?_of_block (hg.block b (by omega) (fun e => by have := hv b e.symm; omega))
  subst hn
  refine ⟨cs ++ [.slice A Y.length c], by rw [List.length_append]; exact h1, fun i r hr => ?_⟩
  by_cases hi : i < rs.length
  · rw [List.getElem?_append_left hi] at hr
    obtain ⟨A', c', k1, k2, k3, k4, k5⟩ := h2 i r hr
    exact ⟨A', c', by rw [List.getElem?_append_left (List.getElem?_eq_some_iff.1 k1).1]; exact k1, k2, k3, keep A' r k4, k5⟩
  · have hlt := (List.getElem?_eq_some_iff.1 hr).1
    simp at hlt
    have hi2 : i = rs.length := by omega
    subst hi2
    rw [List.getElem?_append_right (Nat.le_refl _)] at hr
    simp at hr
    subst hr
    exact ⟨A, c, by rw [List.getElem?_append_right (by omega)]; simp [hl], hc, hm, keep A Y hb, hlb⟩
theorem ERow.rows {w : World} {B p : Nat} {v : Value} {rs : List (List UInt8)} (h : ERow lo w B p v rs) (hp : p ≤ w.heap.size) : ∃ A c, v = .slice A rs.length c ∧ rs.length ≤ c ∧ c ≤ maxLen ∧ RowsAt w w.heap.size A rs := by
  obtain ⟨cs, h1, h2⟩ := h
  rcases h1.2 with ⟨rfl, hn⟩ | ⟨g, cap, cur, rfl, e1, hg, e2, e3, e4, e5⟩
  · exact ⟨none, 0, by rw [hn], by omega, by unfold maxLen; omega, fun hp => by omega⟩
  · refine ⟨_, cap, rfl, e2, e3, fun hp' => ⟨g, 0, rfl, (Array.getElem?_eq_some_iff.1 hg).1, fun i hi => ?_⟩⟩
    obtain ⟨A, c, k1, k2, k3, k4, _⟩ := h2 i (rs[i]'hi) (List.getElem?_eq_getElem hi)
    have hgd : rs.getD i [] = rs[i] := by simp [List.getD, hi]
    rw [hgd]
    refine ⟨A, c, ?_, k2, k3, k4.more hp⟩
    rw [← e5] at k1
    have hlt := (List.getElem?_eq_some_iff.1 k1).1
    rw [List.length_take] at hlt
    rw [List.getElem?_take_of_lt (by omega)] at k1
    rw [cell_of_row w g _ cur 33 (0, 0) hg, Nat.zero_add]
    simpa using k1
/-- What turns lies neither in the row, nor among the bytes. -/
theorem ERow.apart {w w' : World} {B p g : Nat} {v : Value} {rs : List (List UInt8)} (h : ERow lo w B p v rs) (ho : Only (fun k => k = g) w w') (hg : g < lo) (hB : g < B) (hp : p ≤ w.heap.size) : ERow lo w' B p v rs := by
  have hlt := h.lt
  obtain ⟨cs, h1, h2⟩ := h
  refine ⟨cs, World.ownsRow.kept (row := some g) h1 ⟨ho.os, ho.tape, ho.output, ho.size, fun k hk hn => ho.block k hk (fun e => hn (by rw [e]))⟩ (.inr fun e => by have := (hlt g e).1; omega), fun i r hr => ?_⟩
  obtain ⟨A, c, k1, k2, k3, k4, k5⟩ := h2 i r hr
  refine ⟨A, c, k1, k2, k3, fun hp' => ?_, k5⟩
  obtain ⟨b, off, e, hb, hc⟩ := k4 hp'
  have hlb := k5 _ e
  simp only at hlb
  exact ⟨b, off, e, hb, fun j hj => (World.cell?_of_block (ho.block b (by omega) (by omega))).trans (hc j hj)⟩
theorem BRow.apart {w w' : World} {B g : Nat} {v : Value} {bs : List BinF} (h : BRow w B v bs) (ho : Only (fun k => k = g) w w') (hB : g < B) : BRow w' B v bs := by
  have hlt := h.lt
  exact ⟨h.1, World.ownsRow.kept (row := some g) h.2 ⟨ho.os, ho.tape, ho.output, ho.size, fun k hk hn => ho.block k hk (fun e => hn (by rw [e]))⟩ (.inr fun e => by have := (hlt g e).1; omega)⟩
theorem binS_w (s : St) : BinW (binS s).1 := by
  unfold binS
  split
  · exact ⟨by unfold I64 zB; simp, by unfold I64 zB; simp, by unfold I64 zB; simp, rfl⟩
  · have h1 := numS_le 2147483647 s
    have h2 := numS_le 65535 (numS 2147483647 s).2
    have h3 := numS_le 65536 (numS 65535 (numS 2147483647 s).2).2
    exact ⟨by unfold I64; simp only; omega, by unfold I64; simp only; omega, by unfold I64; simp only; omega, digS_length _⟩
theorem refS_w (s : St) : RefW (refS s).1 := by
  unfold refS
  split
  · exact ⟨rfl, by unfold I64 zR; simp, by unfold I64 zR; simp⟩
  · have h2 := numS_le 65535 (digS s).2
    have h3 := numS_le 65536 (numS 65535 (digS s).2).2
    exact ⟨digS_length _, by unfold I64; simp only; omega, by unfold I64; simp only; omega⟩
theorem evtake_any (s : St) (p : Nat) (w : World) (h : PInL lo w p s.1 s.2) :
    Calls Try.prog 43 #[.pointer (some ⟨p, 0, none⟩)] w fun e w' => ∃ A c, e = .returned (.slice A (evS s).1.length c) ∧ (evS s).1.length ≤ c ∧ c ≤ maxLen ∧ Bs w' p A (evS s).1 ∧ (∀ a : Addr, A = some a → lo ≤ a.block) ∧ PInL lo w' p (evS s).2.1 (evS s).2.2 ∧ Turn p w w' := by
  have Hc := Lib.hid (bytes_inL p 65536 s.1 s.2 w h (by omega) (by omega))
  obtain ⟨s', hs'⟩ : ∃ z, evS s = z := ⟨_, rfl⟩
  have Hs := Lib.hid hs'
  rw [hs']
  clear h hs'
  go_enter Try.func43, Try.ntmps43
  go_wp2_with fail
  refine Calls.mono Hc.out ?_
  rintro e w1 ⟨A, c, rfl, h1, h2, h3, h4, h5, h6⟩
  have H1 := Lib.hid (show s'.1.length ≤ c ∧ Bs w1 p A s'.1 ∧ PInL lo w1 p s'.2.1 s'.2.2 by rw [← Hs.out]; exact ⟨h1, h3, h4⟩)
  have e1 : (bytesF 65536 s.1).1.length = s'.1.length := by rw [← Hs.out]; rfl
  rw [e1]
  clear h1 h3 h4 e1 Hs Hc
  go_wp2_with fail
  go_ret
  exact ⟨A, c, rfl, H1.out.1, h2, H1.out.2.1, h6, H1.out.2.2, h5⟩

end Go.Proofs.Ytlfddijmanlneaa

namespace Go.Proofs.Ytlfddijmanlneaa
open Go.RowKit
set_option linter.unusedVariables false
set_option linter.unusedSimpArgs false


set_option maxHeartbeats 4000000 in
set_option maxRecDepth 100000 in
theorem tnrow_any (lo p : Nat) (s : St) (w : World) (h : PInL lo w p s.1 s.2) :
    Calls Try.prog 39 #[.pointer (some ⟨p, 0, none⟩), .func (.func 40) #[] #[]] w fun e w' => ∃ v, e = .returned v ∧ BRow w' w.heap.size v (rowsS binS s).1 ∧ PInL lo w' p (rowsS binS s).2.1 (rowsS binS s).2.2 ∧ Turn p w w' := by
  have hpw := h.lt
  obtain ⟨n, hn⟩ : ∃ z, (numS 65536 s).1 = z := ⟨_, rfl⟩
  have hn2 : n ≤ 65536 := by rw [← hn]; exact numS_le _ _
  obtain ⟨R, hR⟩ : ∃ z, rowsS binS s = z := ⟨_, rfl⟩
  have HR := Lib.hid (show runS binS n ([], (numS 65536 s).2) = R by rw [← hn, ← hR]; rfl)
  rw [hR]
  have Hnum := Lib.hid (number_fl p 65536 s w h (by omega))
  obtain ⟨ZL, hZL⟩ : ∃ z, z = binZ := ⟨_, rfl⟩
  have HZ := Lib.hid (fun w : World => show (zeroValue 63).run Try.prog w = .ok (.agg ZL.toArray) w by rw [hZL]; exact binZero w)
  have HZl := Lib.hid (show ZL.length = 35 by rw [hZL]; rfl)
  have Hn := Lib.hid hn
  clear h hR hn hZL
  go_enter Try.func39, Try.ntmps39
  go_wp2_with fail
  refine Calls.mono Hnum.out ?_
  rintro e w1 ⟨rfl, hP1, ht1⟩
  rw [Hn.out]
  go_wp2_with fail
  go_loopw [5, 9] (fun v i wr => ∃ (k : Nat) (rows : List BinF) (s1 : St), k ≤ n ∧ i = .int .u64 k ∧ BRow wr w.heap.size v rows ∧ PInL lo wr p s1.1 s1.2 ∧ Hid (runS binS (n - k) (rows, s1) = R) ∧ Hid (rows.length = k) ∧ Turn p w wr) (fun _ i _ => n - (Go.RowKit.intOf i).toNat)
  case atStart => exact ⟨0, [], (numS 65536 s).2, Nat.zero_le _, rfl, BRow.nil _ _, hP1, Lib.hid HR.out, Lib.hid rfl, ht1⟩
  case round =>
    clear hP1 ht1
    obtain ⟨k, rows, s1, hk, rfl, hrow, hP, Hrun, Hlen, ht⟩ := hrel
    have hrw : w.heap.size ≤ wr.heap.size := ht.size
    by_cases hlt : k < n
    · have hd1 : decide ((k : Int) < (n : Int)) = true := by simp; omega
      have hd2 : decide (k < n) = true := by simp; omega
      have hrun := Hrun.out
      rw [show n - k = (n - (k + 1)) + 1 by omega] at hrun
      unfold runS at hrun
      have Hr := Lib.hid hrun
      have HP := Lib.hid hP
      have Hrow := Lib.hid hrow
      clear hrun Hrun hP hrow
      obtain ⟨TL, hTL⟩ : ∃ z, z = bC (binS s1).1 := ⟨_, rfl⟩
      have hTl : TL.length = 35 := by rw [hTL]; exact bC_length (binS_w s1)
      have HTL := Lib.hid hTL
      have Hbw := Lib.hid (binS_w s1)
      clear hTL
      go_wp2_with fail
      refine Calls.mono (ntake_fl s1 p wr HP.out TL HTL.out) ?_
      rintro e w2 ⟨rfl, hP2, ht2⟩
      obtain ⟨s2, hs2⟩ : ∃ z, binS s1 = z := ⟨_, rfl⟩
      rw [hs2] at hP2 Hr HTL Hbw
      have ht2w : Turn p w w2 := ht.trans ht2
      have Hrow2 := Lib.hid (Hrow.out.turn ht2 hpw )
      have h2s : w.heap.size ≤ w2.heap.size := ht2w.size
      have hp2 := hP2.lt
      clear ht ht2
      obtain ⟨b2, st2⟩ := s2
      obtain ⟨l2, f2⟩ := st2
      dsimp only at hP2 Hr HTL Hbw
      have HTi := Lib.hid (show (Try.prog.info? 63).map (·.size) = some TL.toArray.size by rw [List.size_toArray, hTl]; exact binSize)
      have HT1 := Lib.hid (show TL.toArray.all (·.oneCell') = true by rw [HTL.out]; exact all_oneC (bC_one _))
      have HTz := Lib.hid (show ZL.toArray.size = TL.toArray.size by rw [List.size_toArray, List.size_toArray, HZl.out, hTl])
      obtain ⟨w3, hw3⟩ : ∃ W, W = (w2.alloc (.cells ZL.toArray 63)).setRow w2.heap.size TL.toArray := ⟨_, rfl⟩
      obtain ⟨hX3, hb3⟩ := alloc_row w2 63 ZL.toArray TL
      rw [← hw3] at hX3 hb3
      have hP3 : PInL lo w3 p l2 f2 := hP2.lowN ⟨hb3.size, fun i hi => hb3.block i (by omega)⟩
      have Hrow3 := Lib.hid (Hrow2.out.up hb3)
      have ht3 : Turn p w w3 := ht2w.trans ⟨hb3.os, hb3.tape, hb3.output, hb3.size, fun i hi _ => hb3.block i hi⟩
      have h3s : w.heap.size ≤ w3.heap.size := ht3.size
      have hlt3 := hX3.lt
      have Hw3 := Lib.hid hw3
      have HTl := Lib.hid hTl
      have HP3 := Lib.hid hP3
      clear hw3 hP2 Hrow2 ht2w hb3 hP3 hTl HP Hrow hs2
      go_upto_region 5 with (first
        | (refine wpList_allocZC rfl 63 rfl ZL.toArray (HZ.out _) ?_)
        | (refine wpList_store_row rfl _ _ _ rfl w2.heap.size TL.toArray rfl rfl 63 ZL.toArray (heap_alloc_new w2 _) HTi.out HTz.out HT1.out ?_; rw [← Hw3.out]))
      go_wp2_with fail
      refine Calls.mono (wrong_in p l2 f2 w3 HP3.out) ?_
      rintro e w4 ⟨rfl, rfl⟩
      cases f2 with
      | true =>
        have hr := Hr.out
        rw [if_pos rfl] at hr
        have Hfin := Lib.hid hr
        clear hr Hr hX3
        go_wp2_with fail
        go_ret
        exact ⟨_, rfl, by rw [← Hfin.out]; exact BRow.nil _ _, by rw [← Hfin.out]; exact HP3.out, ht3⟩
      | false =>
        have hr := Hr.out
        rw [if_neg (by simp)] at hr
        have Hfin := Lib.hid hr
        obtain ⟨w5, hw5⟩ : ∃ z, z = w3.alloc (.cells TL.toArray 63) := ⟨_, rfl⟩
        have hb5 : Below w3.heap.size w3 w5 := by rw [hw5]; exact (Below.refl _ _).alloc (Nat.le_refl _) _
        have hX5 : Arr w5 w3.heap.size 63 TL := by rw [hw5]; exact Arr.new w3 _ _
        have Hrow5 := Lib.hid (Hrow3.out.up hb5)
        have HP5 := Lib.hid (show PInL lo w5 p l2 false from HP3.out.lowN ⟨hb5.size, fun i hi => hb5.block i (by omega)⟩)
        have ht5 : Turn p w w5 := ht3.trans ⟨hb5.os, hb5.tape, hb5.output, hb5.size, fun i hi _ => hb5.block i hi⟩
        have h5s : w.heap.size ≤ w5.heap.size := ht5.size
        have Hw5 := Lib.hid hw5
        have HX5 := Lib.hid hX5
        clear hr Hr hw5 hb5 hX5
        go_wp2_with (first
          | (refine wpList_load_row rfl _ _ rfl w2.heap.size rfl 63 TL.toArray (0, 0) _ hX3 Try.underlying63 rfl HTi.out ?_)
          | (refine wpList_build_bn rfl _ rfl TL HTl.out rfl ?_; rw [← Hw5.out])
          | (refine wpList_append_bn rfl _ _ rfl Hrow5.out h5s rfl w3.heap.size 1 rfl b2 Hbw.out TL HTL.out HX5.out (by rw [Hlen.out]; omega) ?_; intro v6 w6 hrow6 hg6))
        have ht6 : Turn p w w6 := ⟨hg6.os.trans ht5.os, hg6.tape.trans ht5.tape, hg6.output.trans ht5.output, Nat.le_trans ht5.size hg6.size, fun i hi hn => (hg6.block i (by omega) (fun e => by have := (Hrow5.out.lt i e.symm).1; omega)).trans (ht5.block i hi hn)⟩
        have hP6 : PInL lo w6 p l2 false := HP5.out.lowN ⟨hg6.size, fun i hi => hg6.block i (by omega) (fun e => by have := (Hrow5.out.lt i e.symm).1; omega)⟩
        have Hlen6 : Hid ((rows ++ [b2]).length = k + 1) := Lib.hid (by rw [List.length_append, Hlen.out]; rfl)
        clear hg6 hX3
        go_roundw
        case rel => exact ⟨k + 1, _, (l2, false), by omega, by go_num, hrow6, hP6, Hfin, Hlen6, ht6⟩
        case measure => simp [Go.RowKit.intOf]; omega
    · obtain rfl : k = n := by omega
      have hd1 : decide ((k : Int) < (k : Int)) = false := by simp
      have hd2 : decide (k < k) = false := by simp
      have Hfin := Lib.hid (show R = (rows, s1) by rw [← Hrun.out, Nat.sub_self]; rfl)
      have HP := Lib.hid hP
      have Hrow := Lib.hid hrow
      clear hP hrow
      go_wp2_with fail
      go_ret
      exact ⟨_, rfl, by rw [Hfin.out]; exact Hrow.out, by rw [Hfin.out]; exact HP.out, ht⟩

end Go.Proofs.Ytlfddijmanlneaa

namespace Go.Proofs.Ytlfddijmanlneaa
open Go.RowKit
set_option linter.unusedVariables false
set_option linter.unusedSimpArgs false


set_option maxHeartbeats 4000000 in
set_option maxRecDepth 100000 in
theorem terow_any (lo p : Nat) (s : St) (w : World) (h : PInL lo w p s.1 s.2) :
    Calls Try.prog 42 #[.pointer (some ⟨p, 0, none⟩), .func (.func 43) #[] #[]] w fun e w' => ∃ v, e = .returned v ∧ ERow lo w' w.heap.size p v (rowsS evS s).1 ∧ PInL lo w' p (rowsS evS s).2.1 (rowsS evS s).2.2 ∧ Turn p w w' := by
  have hpw := h.lt
  obtain ⟨n, hn⟩ : ∃ z, (numS 65536 s).1 = z := ⟨_, rfl⟩
  have hn2 : n ≤ 65536 := by rw [← hn]; exact numS_le _ _
  obtain ⟨R, hR⟩ : ∃ z, rowsS evS s = z := ⟨_, rfl⟩
  have HR := Lib.hid (show runS evS n ([], (numS 65536 s).2) = R by rw [← hn, ← hR]; rfl)
  rw [hR]
  have Hnum := Lib.hid (number_fl p 65536 s w h (by omega))
  have Hn := Lib.hid hn
  clear h hR hn
  go_enter Try.func42, Try.ntmps42
  go_wp2_with fail
  refine Calls.mono Hnum.out ?_
  rintro e w1 ⟨rfl, hP1, ht1⟩
  rw [Hn.out]
  go_wp2_with fail
  go_loopw [5, 9] (fun v i wr => ∃ (k : Nat) (rows : List (List UInt8)) (s1 : St), k ≤ n ∧ i = .int .u64 k ∧ ERow lo wr w.heap.size p v rows ∧ PInL lo wr p s1.1 s1.2 ∧ Hid (runS evS (n - k) (rows, s1) = R) ∧ Hid (rows.length = k) ∧ Turn p w wr) (fun _ i _ => n - (Go.RowKit.intOf i).toNat)
  case atStart => exact ⟨0, [], (numS 65536 s).2, Nat.zero_le _, rfl, ERow.nil _ _ _, hP1, Lib.hid HR.out, Lib.hid rfl, ht1⟩
  case round =>
    clear hP1 ht1
    obtain ⟨k, rows, s1, hk, rfl, hrow, hP, Hrun, Hlen, ht⟩ := hrel
    have hrw : w.heap.size ≤ wr.heap.size := ht.size
    by_cases hlt : k < n
    · have hd1 : decide ((k : Int) < (n : Int)) = true := by simp; omega
      have hd2 : decide (k < n) = true := by simp; omega
      have hrun := Hrun.out
      rw [show n - k = (n - (k + 1)) + 1 by omega] at hrun
      unfold runS at hrun
      have Hr := Lib.hid hrun
      have HP := Lib.hid hP
      have Hrow := Lib.hid hrow
      clear hrun Hrun hP hrow
      go_wp2_with fail
      refine Calls.mono (evtake_any s1 p wr HP.out) ?_
      rintro e w2 ⟨A2, c2, rfl, h2c, h2m, hBs2, hlb2, hP2, ht2⟩
      have Hlb2 := Lib.hid hlb2
      clear hlb2
      obtain ⟨s2, hs2⟩ : ∃ z, evS s1 = z := ⟨_, rfl⟩
      rw [hs2] at hP2 Hr hBs2 h2c ⊢
      have ht2w : Turn p w w2 := ht.trans ht2
      have Hrow2 := Lib.hid (Hrow.out.turn ht2 hpw (Nat.le_of_lt HP.out.lt))
      have h2s : w.heap.size ≤ w2.heap.size := ht2w.size
      have hp2 := hP2.lt
      clear ht ht2
      obtain ⟨e2, st2⟩ := s2
      obtain ⟨l2, f2⟩ := st2
      dsimp only at hP2 Hr hBs2 h2c ⊢
      obtain ⟨m2, hm2⟩ : ∃ z, e2.length = z := ⟨_, rfl⟩
      rw [hm2] at h2c ⊢
      have Hm2 := Lib.hid hm2
      have HP2 := Lib.hid hP2
      have HBs2 := Lib.hid hBs2
      have h2m' : c2 ≤ 9223372036854775807 := by unfold maxLen at h2m; omega
      clear hm2 hP2 hBs2 HP Hrow hs2
      go_wp2_with fail
      refine Calls.mono (wrong_in p l2 f2 w2 HP2.out) ?_
      rintro e w4 ⟨rfl, rfl⟩
      cases f2 with
      | true =>
        have hr := Hr.out
        rw [if_pos rfl] at hr
        have Hfin := Lib.hid hr
        clear hr Hr
        go_wp2_with fail
        go_ret
        exact ⟨_, rfl, by rw [← Hfin.out]; exact ERow.nil _ _ _, by rw [← Hfin.out]; exact HP2.out, ht2w⟩
      | false =>
        have hr := Hr.out
        rw [if_neg (by simp)] at hr
        have Hfin := Lib.hid hr
        obtain ⟨w5, hw5⟩ : ∃ z, z = w2.alloc (.cells #[.slice A2 m2 c2] 33) := ⟨_, rfl⟩
        have hb5 : Below w2.heap.size w2 w5 := by rw [hw5]; exact (Below.refl _ _).alloc (Nat.le_refl _) _
        have hX5 : Arr w5 w2.heap.size 33 [.slice A2 m2 c2] := by rw [hw5]; exact Arr.new w2 _ _
        have hrow5 := Hrow2.out.up hb5 (by omega)
        have Hltr := Lib.hid hrow5.lt
        obtain ⟨cs, hcs1, hcs2⟩ := hrow5
        rw [Hlen.out] at hcs1
        have HP5 := Lib.hid (show PInL lo w5 p l2 false from HP2.out.lowN ⟨hb5.size, fun i hi => hb5.block i (by omega)⟩)
        have ht5 : Turn p w w5 := ht2w.trans ⟨hb5.os, hb5.tape, hb5.output, hb5.size, fun i hi _ => hb5.block i hi⟩
        have h5s : w.heap.size ≤ w5.heap.size := ht5.size
        have hBs5 := HBs2.out.below hb5 (by omega)
        have hadd : ∀ k, (⟨w2.heap.size, 0, none⟩ : Addr).add k = ⟨w2.heap.size, k, none⟩ := fun k => by unfold Addr.add; split <;> simp_all
        have hcell : ∀ j u, [Value.slice A2 m2 c2][j]? = some u → w5.cell? ((⟨w2.heap.size, 0, none⟩ : Addr).add j) = some u := fun j u hj => by rw [hadd, hX5.cell]; exact hj
        obtain ⟨j0, hi, hz0, hz1, hz2⟩ := info_parts evAll
        have Hw5 := Lib.hid hw5
        have Hcs1 := Lib.hid hcs1
        have Hcs2 := Lib.hid hcs2
        have HBs5 := Lib.hid hBs5
        have Hcell := Lib.hid hcell
        clear hr Hr hw5 hb5 hX5 hcs1 hcs2 hBs5 hadd hcell ht2w Hrow2
        go_wp2_with (at_builtin; refine wpList_append_own_at _ rfl _ _ 28 rfl w.heap.size 33 j0 (.slice none 0 0) 1 24 Try.underlying28 hi hz0 hz1 hz2 rfl (by decide) _ k cs rfl (by rw [← Hw5.out]; exact Hcs1.out) ⟨w2.heap.size, 0, none⟩ 1 1 [Value.slice A2 m2 c2] rfl rfl (by rw [← Hw5.out]; exact Hcell.out) (by intro u hu; simp at hu; subst hu; rfl) (by unfold maxLen; omega) (by omega) (by rw [← Hw5.out]; exact h5s) ?_)
        intro v6 w6 hown6 hg6 _ _
        rw [← Hw5.out] at hg6
        have hrow6 : ERow lo w6 w.heap.size p v6 (rows ++ [e2]) := ERow.snoc (w := w5) (by rw [Hlen.out]; exact hown6) (by rw [Hlen.out]; exact Hcs1.out.1) Hcs2.out hg6 (fun k hk => (Hltr.out k hk).1) hpw (by omega) Hm2.out h2c h2m HBs5.out Hlb2.out
        have ht6 : Turn p w w6 := ⟨hg6.os.trans ht5.os, hg6.tape.trans ht5.tape, hg6.output.trans ht5.output, Nat.le_trans ht5.size hg6.size, fun i hi hn => (hg6.block i (by omega) (fun e => by have := (Hltr.out i e.symm).1; omega)).trans (ht5.block i hi hn)⟩
        have hP6 : PInL lo w6 p l2 false := HP5.out.lowN ⟨hg6.size, fun i hi => hg6.block i (by omega) (fun e => by have := (Hltr.out i e.symm).1; omega)⟩
        have Hlen6 : Hid ((rows ++ [e2]).length = k + 1) := Lib.hid (by rw [List.length_append, Hlen.out]; rfl)
        clear hg6 hown6
        go_wp2_with fail
        go_roundw
        case rel => exact ⟨k + 1, _, (l2, false), by omega, by go_num, hrow6, hP6, Hfin, Hlen6, ht6⟩
        case measure => simp [Go.RowKit.intOf]; omega
    · obtain rfl : k = n := by omega
      have hd1 : decide ((k : Int) < (k : Int)) = false := by simp
      have hd2 : decide (k < k) = false := by simp
      have Hfin := Lib.hid (show R = (rows, s1) by rw [← Hrun.out, Nat.sub_self]; rfl)
      have HP := Lib.hid hP
      have Hrow := Lib.hid hrow
      clear hP hrow
      go_wp2_with fail
      go_ret
      exact ⟨_, rfl, by rw [Hfin.out]; exact Hrow.out, by rw [Hfin.out]; exact HP.out, ht⟩

end Go.Proofs.Ytlfddijmanlneaa

namespace Go.Proofs.Ytlfddijmanlneaa
open Go.RowKit
set_option linter.unusedVariables false
set_option linter.unusedSimpArgs false


def comZ : List Value := comV 0 refZ refZ refZ (.slice none 0 0) (Lib.byteCells zeros) (.slice none 0 0)
theorem comZero (w : World) : (zeroValue 30).run Try.prog w = .ok (.agg comZ.toArray) w := by kernel_rfl
theorem com_built0 : Try.prog.built 30 [] = some comZ.toArray := by kernel_rfl
theorem com_built1 (ep : Int) : Try.prog.built 30 [(0, .int .u64 ep)] = some (Value.int .u64 ep :: comZ.drop 1).toArray := by kernel_rfl
theorem comZ_length : comZ.length = 137 := by rfl
theorem comV_one {ep : Nat} {R1 R2 R3 SL : List Value} {bv ev : Value} (h1 : ∀ v ∈ R1, v.oneCell' = true) (h2 : ∀ v ∈ R2, v.oneCell' = true) (h3 : ∀ v ∈ R3, v.oneCell' = true) (hs : ∀ v ∈ SL, v.oneCell' = true) (hb : bv.oneCell' = true) (he : ev.oneCell' = true) : ∀ v ∈ comV ep R1 R2 R3 bv SL ev, v.oneCell' = true := by
  intro v hv
  simp only [comV, List.mem_cons, List.mem_append, List.not_mem_nil, or_false] at hv
  rcases hv with rfl | hv | hv | hv | rfl | hv | rfl
  · rfl
  · exact h1 v hv
  · exact h2 v hv
  · exact h3 v hv
  · exact hb
  · exact hs v hv
  · exact he
theorem mid_set {pre old new post : List Value} {k n : Nat} (hk : pre.length = k) (ho : old.length = n) (hn : new.length = n) : (pre ++ (old ++ post)).take k ++ (new ++ (pre ++ (old ++ post)).drop (k + new.length)) = pre ++ (new ++ post) := by
  subst hk
  rw [List.take_left, hn, ← ho, ← List.append_assoc pre old post, ← List.length_append, List.drop_left]
theorem one_set {pre post : List Value} {k : Nat} {x y : Value} (hk : pre.length = k) : (pre ++ (x :: post)).set k y = pre ++ (y :: post) := by
  subst hk
  rw [List.set_append_right _ _ (Nat.le_refl _), Nat.sub_self]
  rfl
theorem comV_set1 {ep : Nat} {R1 R2 R3 SL X : List Value} {bv ev : Value} (h1 : R1.length = 34) (hX : X.length = 34) : (comV ep R1 R2 R3 bv SL ev).take 1 ++ (X ++ (comV ep R1 R2 R3 bv SL ev).drop (1 + X.length)) = comV ep X R2 R3 bv SL ev :=
  mid_set (pre := [.int .u64 (ep : Nat)]) (post := R2 ++ (R3 ++ (bv :: (SL ++ [ev])))) rfl h1 hX
theorem comV_set2 {ep : Nat} {R1 R2 R3 SL X : List Value} {bv ev : Value} (h1 : R1.length = 34) (h2 : R2.length = 34) (hX : X.length = 34) : (comV ep R1 R2 R3 bv SL ev).take 35 ++ (X ++ (comV ep R1 R2 R3 bv SL ev).drop (35 + X.length)) = comV ep R1 X R3 bv SL ev := by
  have := mid_set (pre := .int .u64 (ep : Nat) :: R1) (old := R2) (new := X) (post := R3 ++ (bv :: (SL ++ [ev]))) (k := 35) (by simp [h1]) h2 hX
  simpa [comV] using this
theorem comV_set3 {ep : Nat} {R1 R2 R3 SL X : List Value} {bv ev : Value} (h1 : R1.length = 34) (h2 : R2.length = 34) (h3 : R3.length = 34) (hX : X.length = 34) : (comV ep R1 R2 R3 bv SL ev).take 69 ++ (X ++ (comV ep R1 R2 R3 bv SL ev).drop (69 + X.length)) = comV ep R1 R2 X bv SL ev := by
  have := mid_set (pre := .int .u64 (ep : Nat) :: (R1 ++ R2)) (old := R3) (new := X) (post := bv :: (SL ++ [ev])) (k := 69) (by simp [h1, h2]) h3 hX
  simpa [comV] using this
theorem comV_setS {ep : Nat} {R1 R2 R3 SL X : List Value} {bv ev : Value} (h1 : R1.length = 34) (h2 : R2.length = 34) (h3 : R3.length = 34) (hs : SL.length = 32) (hX : X.length = 32) : (comV ep R1 R2 R3 bv SL ev).take 104 ++ (X ++ (comV ep R1 R2 R3 bv SL ev).drop (104 + X.length)) = comV ep R1 R2 R3 bv X ev := by
  have := mid_set (pre := .int .u64 (ep : Nat) :: (R1 ++ (R2 ++ (R3 ++ [bv])))) (old := SL) (new := X) (post := [ev]) (k := 104) (by simp [h1, h2, h3]) hs hX
  simpa [comV] using this
theorem comV_setB {ep : Nat} {R1 R2 R3 SL : List Value} {bv ev y : Value} (h1 : R1.length = 34) (h2 : R2.length = 34) (h3 : R3.length = 34) : (comV ep R1 R2 R3 bv SL ev).set 103 y = comV ep R1 R2 R3 y SL ev := by
  have := one_set (pre := .int .u64 (ep : Nat) :: (R1 ++ (R2 ++ R3))) (x := bv) (y := y) (post := SL ++ [ev]) (k := 103) (by simp [h1, h2, h3])
  simpa [comV] using this
theorem comV_setE {ep : Nat} {R1 R2 R3 SL : List Value} {bv ev y : Value} (h1 : R1.length = 34) (h2 : R2.length = 34) (h3 : R3.length = 34) (hs : SL.length = 32) : (comV ep R1 R2 R3 bv SL ev).set 136 y = comV ep R1 R2 R3 bv SL y := by
  have := one_set (pre := .int .u64 (ep : Nat) :: (R1 ++ (R2 ++ (R3 ++ (bv :: SL))))) (x := ev) (y := y) (post := []) (k := 136) (by simp [h1, h2, h3, hs])
  simpa [comV] using this
/-- Bytes that are a commit's. -/
def Good (b : List UInt8) : Prop := b.length ≤ 65536 ∧ dS6 b = ([], false) ∧ ∃ c, IsDec b c ∧ 0 < c.ep ∧ RiseB c.bins
/-- What is known of a commit without its memory. -/
structure CxW (x : Cx) : Prop where
  ep : x.c.ep < 18446744073709551616
  r1 : RefW x.c.r1
  r2 : RefW x.c.r2
  r3 : RefW x.c.r3
  bw : ∀ b ∈ x.c.bins, BinW b
  st : x.c.st.length = 32
  lb : x.c.bins.length ≤ x.cb
  mb : x.cb ≤ maxLen
  le : x.c.evs.length ≤ x.ce
  me : x.ce ≤ maxLen
theorem CxW.length {x : Cx} (h : CxW x) : (comC x).length = 137 := comV_length (rC_length h.r1) (rC_length h.r2) (rC_length h.r3) (by rw [Lib.byteCells_length, h.st])
def DecPost (b : List UInt8) (w : World) (e : Ending) (w' : World) : Prop :=
  Below w.heap.size w w' ∧ ((∃ x, e = .returned (.tuple #[.agg (comC x).toArray, .int .i64 0]) ∧ CxOk w' w'.heap.size x ∧ IsDec b x.c ∧ Good b) ∨ (e = .returned (.tuple #[.agg comZ.toArray, .int .i64 3]) ∧ ¬ Good b))
/-- Bytes, and rows of bytes, that lie in blocks of S. -/
def BsIn (w : World) (S : Nat → Prop) (A : Option Addr) (l : List UInt8) : Prop := 0 < l.length → ∃ b off, A = some ⟨b, off, none⟩ ∧ S b ∧ ∀ j, j < l.length → w.cell? ⟨b, off + j, none⟩ = some (.int .u8 ((l.getD j 0).toNat : Nat))
def EvIn (w : World) (S : Nat → Prop) (A : Option Addr) (rs : List (List UInt8)) : Prop :=
  0 < rs.length → ∃ blk off, A = some ⟨blk, off, none⟩ ∧ S blk ∧ ∀ i, i < rs.length → ∃ A' c, w.cell? ⟨blk, off + i, none⟩ = some (.slice A' (rs.getD i []).length c) ∧ (rs.getD i []).length ≤ c ∧ c ≤ maxLen ∧ BsIn w S A' (rs.getD i [])
theorem ERow.evIn {lo : Nat} {w : World} {B p : Nat} {v : Value} {rs : List (List UInt8)} (h : ERow lo w B p v rs) (hp : p ≤ w.heap.size) (B0 : Nat) (hlo : B0 ≤ lo) (hB : B0 ≤ B) : ∃ A c, v = .slice A rs.length c ∧ EvIn w (fun k => B0 ≤ k ∧ k < w.heap.size) A rs := by
  have hlt := h.lt
  obtain ⟨cs, h1, h2⟩ := h
  rcases h1.2 with ⟨rfl, hn⟩ | ⟨g, cap, cur, rfl, e1, hg, e2, e3, e4, e5⟩
  · exact ⟨none, 0, by rw [hn], fun hp => by omega⟩
  · have hgB := hlt g rfl
    refine ⟨_, cap, rfl, fun hp' => ⟨g, 0, rfl, ⟨by omega, hgB.2⟩, fun i hi => ?_⟩⟩
    obtain ⟨A, c, k1, k2, k3, k4, k5⟩ := h2 i (rs[i]'hi) (List.getElem?_eq_getElem hi)
    have hgd : rs.getD i [] = rs[i] := by simp [List.getD, hi]
    rw [hgd]
    refine ⟨A, c, ?_, k2, k3, fun hq => ?_⟩
    · rw [← e5] at k1
      have hlt := (List.getElem?_eq_some_iff.1 k1).1
      rw [List.length_take] at hlt
      rw [List.getElem?_take_of_lt (by omega)] at k1
      rw [cell_of_row w g _ cur 33 (0, 0) hg, Nat.zero_add]
      simpa using k1
    · obtain ⟨b, off, e, hb, hc⟩ := k4 hq
      have hlb := k5 _ e
      simp only at hlb
      exact ⟨b, off, e, ⟨by omega, by omega⟩, hc⟩
/-- Likewise, and the events lie in new blocks. -/
def DecPostL (b : List UInt8) (w : World) (e : Ending) (w' : World) : Prop :=
  Below w.heap.size w w' ∧ ((∃ x, e = .returned (.tuple #[.agg (comC x).toArray, .int .i64 0]) ∧ CxOk w' w'.heap.size x ∧ EvIn w' (fun k => w.heap.size ≤ k ∧ k < w'.heap.size) x.Ae x.c.evs ∧ IsDec b x.c ∧ Good b) ∨ (e = .returned (.tuple #[.agg comZ.toArray, .int .i64 3]) ∧ ¬ Good b))
/-- From w to w' of all that was there blocks p and g alone have turned. -/
def Two (B : Nat) (w0 w : World) : Prop := Below B w0 w
theorem Arr.turn {w w' : World} {g p : Nat} {T : TypeId} {cs : List Value} (h : Arr w g T cs) (ht : Turn p w w') (hne : g ≠ p) : Arr w' g T cs := (ht.block g h.lt (fun e => hne (by injection e))).trans h
theorem Turn.belowC {p B : Nat} {w w' : World} (ht : Turn p w w') (hB : B ≤ w.heap.size) (hp : B ≤ p) : Below B w w' := ⟨ht.os, ht.tape, ht.output, ht.size, fun i hi => ht.block i (by omega) (fun e => by injection e; omega)⟩

set_option maxHeartbeats 16000000 in
set_option maxRecDepth 100000 in
theorem dec_low (A : Option Addr) (n c : Nat) (b : List UInt8) (hn : b.length = n) (hc : n ≤ c) (hm : c ≤ maxLen) (w : World) (hb : Bs w w.heap.size A b) :
    Calls Try.prog 12 #[.slice A n c] w (DecPostL b w) := by
  have hm' : c ≤ 9223372036854775807 := by unfold maxLen at hm; omega
  obtain ⟨ZL, hZL⟩ : ∃ z, z = comZ := ⟨_, rfl⟩
  have HZ := Lib.hid (fun w : World => show (zeroValue 30).run Try.prog w = .ok (.agg ZL.toArray) w by rw [hZL]; exact comZero w)
  have HZb := Lib.hid (show Try.prog.built 30 [] = some ZL.toArray by rw [hZL]; exact com_built0)
  have HZi := Lib.hid (show (Try.prog.info? 30).map (·.size) = some ZL.toArray.size by rw [hZL]; exact comSize)
  have HZ1 := Lib.hid (show ZL.toArray.all (·.oneCell') = true by rw [hZL]; exact all_oneC (comV_one (refC_cell _ _ _) (refC_cell _ _ _) (refC_cell _ _ _) (byteCells_one _) rfl rfl))
  have HZL := Lib.hid hZL
  obtain ⟨W1, hW1⟩ : ∃ z, z = w.alloc (.cells ZL.toArray 30) := ⟨_, rfl⟩
  have hR1 : Arr W1 w.heap.size 30 ZL := by rw [hW1]; exact Arr.new w _ _
  have hb0 : Below w.heap.size w W1 := by rw [hW1]; exact (Below.refl _ w).alloc (Nat.le_refl _) _
  have hsz : W1.heap.size = w.heap.size + 1 := by rw [hW1]; simp
  have HW1 := Lib.hid hW1
  have Hbs := Lib.hid (hb.below hb0 (Nat.le_refl _))
  have Hn := Lib.hid hn
  clear hZL hW1 hb hn
  go_enter Try.func12, Try.ntmps12
  go_upto_region 1 with (first | (refine wpList_allocZC rfl 30 rfl ZL.toArray (HZ.out _) ?_; rw [← HW1.out]))
  clear HW1
  by_cases hbig : 65536 < n
  · have hq : decide ((65536 : Int) < (n : Int)) = true := by simp; omega
    have Hno := Lib.hid (show ¬ Good b from fun h => by have := h.1; rw [Hn.out] at this; omega)
    have hset : (W1.setRow w.heap.size ZL.toArray).heap[w.heap.size]? = some (.cells ZL.toArray 30 (0, 0)) := hR1.setRow ZL
    have hbe : Below w.heap.size w (W1.setRow w.heap.size ZL.toArray) := hb0.trans (((Only.refl (fun k => k = w.heap.size) W1).setRow (.inl rfl) _).below (by omega) (by rintro k rfl; omega))
    have Hset := Lib.hid hset
    have Hbe := Lib.hid hbe
    clear hbig hset hbe
    go_wp2_with (first | (refine wpList_builtD rfl _ _ rfl [] rfl ZL.toArray HZb.out ?_) | (refine wpList_store_row rfl _ _ _ rfl w.heap.size ZL.toArray rfl rfl 30 ZL.toArray hR1 HZi.out rfl HZ1.out ?_))
    (try simp only [Exit.inBlock, Exit.then])
    obtain ⟨V, hV⟩ : ∃ V, V = Value.tuple #[.agg ZL.toArray, .int .i64 3] := ⟨_, rfl⟩
    refine bodyPost_ret (v := V) ?hx1 ?h2 ?h3
    case hx1 => rw [hV]; exact results_cell2 (fn := Try.f12) (by rfl) _ _ w.heap.size 30 ZL.toArray (0, 0) _ (by rfl) _ (by rfl) Hset.out Try.underlying30 rfl HZi.out
    case h2 => rfl
    case h3 => exact ⟨Hbe.out, .inr ⟨by rw [hV, HZL.out], Hno.out⟩⟩
  have hq : decide ((65536 : Int) < (n : Int)) = false := by simp; omega
  have Hsm := Lib.hid (show b.length ≤ 65536 by rw [Hn.out]; omega)
  clear hbig
  go_wp2_with fail
  have hfrom := from_anyL w.heap.size A c b W1 Hbs.out (by have := Hsm.out; omega)
  rw [Hn.out] at hfrom
  refine Calls.mono hfrom ?_
  rintro e w2 ⟨p, rfl, hp2, hP2, hb2⟩
  obtain ⟨lo, hlo⟩ : ∃ z, z = W1.heap.size := ⟨_, rfl⟩
  rw [← hlo] at hP2
  have hlog : w.heap.size < lo := by omega
  have Hlog := Lib.hid hlog
  clear hlo hlog
  have hR2 := hR1.up hb2
  have hb2w := hb0.trans (hb2.mono hb0.size)
  have hpg : w.heap.size < p := by omega
  have hP2' : PInL lo w2 p ((b, false) : St).1 ((b, false) : St).2 := hP2
  have hp2s := hP2.lt
  clear hfrom hb2 hR1 hb0 hsz Hbs hP2
  go_wp2_with fail
  refine Calls.mono (number_fl p 18446744073709551615 (b, false) w2 hP2' (by omega)) ?_
  rintro e w3 ⟨rfl, hP3, ht3⟩
  have hP3' : PInL lo w3 p (dS0 b).1 (dS0 b).2 := hP3
  obtain ⟨ep, hep⟩ : ∃ z, (numS 18446744073709551615 (b, false)).1 = z := ⟨_, rfl⟩
  have hepl : ep < 18446744073709551616 := by rw [← hep]; have := numS_le 18446744073709551615 (b, false); omega
  rw [hep]
  have hR3 := hR2.turn ht3 (by omega)
  have hb3w := hb2w.trans (ht3.belowC hb2w.size (by omega))
  have Hep := Lib.hid hep
  have hbs3 := hb3w.size
  obtain ⟨C0, hC0⟩ : ∃ z, z = comV ep refZ refZ refZ (.slice none 0 0) (Lib.byteCells zeros) (.slice none 0 0) := ⟨_, rfl⟩
  have HC0b := Lib.hid (show Try.prog.built 30 [(0, .int .u64 (ep : Nat))] = some C0.toArray by rw [hC0]; exact com_built1 ep)
  have HC0l := Lib.hid (show C0.length = 137 by rw [hC0]; exact comV_length rfl rfl rfl rfl)
  have HC0i := Lib.hid (show (Try.prog.info? 30).map (·.size) = some C0.toArray.size by rw [List.size_toArray, HC0l.out]; exact comSize)
  have HC0z := Lib.hid (show ZL.toArray.size = C0.toArray.size by rw [List.size_toArray, List.size_toArray, HC0l.out, HZL.out]; rfl)
  have HC01 := Lib.hid (show C0.toArray.all (·.oneCell') = true by
    rw [hC0]
    exact all_oneC (comV_one (refC_cell _ _ _) (refC_cell _ _ _) (refC_cell _ _ _) (byteCells_one _) rfl rfl))
  obtain ⟨w4, hw4⟩ : ∃ W, W = (w3.alloc (.cells ZL.toArray 30)).setRow w3.heap.size C0.toArray := ⟨_, rfl⟩
  obtain ⟨hX4, hb4⟩ := alloc_row w3 30 ZL.toArray C0
  rw [← hw4] at hX4 hb4
  obtain ⟨g, hg⟩ : ∃ z, z = w3.heap.size := ⟨_, rfl⟩
  have hpg3 : p < w3.heap.size := hP3'.lt
  have hP4 : PInL lo w4 p (dS0 b).1 (dS0 b).2 := hP3'.lowN ⟨hb4.size, fun i hi => hb4.block i (by omega)⟩
  have hR4 := hR3.up hb4
  have hb4w := hb3w.trans (hb4.mono hb3w.size)
  have Hw4 := Lib.hid hw4
  rw [hC0] at hX4
  have hgl := hX4.lt
  have HP4 := Lib.hid hP4
  clear hP2' hP3 hP3' ht3 hR2 hR3 hb2w hb3w hep hC0 hw4 hb4 hP4
  go_upto_region 5 with (first
    | (refine wpList_builtD rfl _ _ rfl _ rfl C0.toArray HC0b.out ?_)
    | (refine wpList_allocZC rfl 30 rfl ZL.toArray (HZ.out _) ?_)
    | (refine wpList_store_row rfl _ _ _ rfl w3.heap.size C0.toArray rfl rfl 30 ZL.toArray (heap_alloc_new w3 _) HC0i.out HC0z.out HC01.out ?_; rw [← Hw4.out]))
  rw [← hg] at hX4 hgl ⊢
  have hgp : p < g := by omega
  clear hg Hw4
  obtain ⟨T1, hT1⟩ : ∃ z, z = rC (refS (dS0 b)).1 := ⟨_, rfl⟩
  have l1 : T1.length = 34 := by rw [hT1]; exact rC_length (refS_w _)
  have HTi1 := Lib.hid (show (Try.prog.info? 26).map (·.size) = some T1.toArray.size by rw [List.size_toArray, l1]; exact refSize)
  have HT11 := Lib.hid (show T1.toArray.all (·.oneCell') = true by rw [hT1]; exact all_oneC (rC_one _))
  have HT1 := Lib.hid hT1
  have Hl1 := Lib.hid l1
  clear hT1 l1
  go_wp2_with fail
  refine Calls.mono (btake_fl (dS0 b) p w4 HP4.out T1 HT1.out) ?_
  rintro e w5 ⟨rfl, hP5, ht5⟩
  have hP5' : PInL lo w5 p (dS1 b).1 (dS1 b).2 := by rw [dS1]; exact hP5
  have hX5 := hX4.turn ht5 (by omega)
  have hR5 := hR4.turn ht5 (by omega)
  have hbs5 := hb4w.size
  have hb5w := hb4w.trans (ht5.belowC hbs5 (by omega))
  have hth5 : w5.there g 1 T1.toArray.size := there_of_arr hX5 (by rw [comV_length rfl rfl rfl rfl, List.size_toArray, Hl1.out]; omega)
  have hXc := Arr.setIn T1 1 _ w5 hX5 (by rw [comV_length rfl rfl rfl rfl, Hl1.out]; omega)
  rw [comV_set1 rfl Hl1.out] at hXc
  have hOc : Only (fun k => k = g) w5 (w5.setCells g 1 T1) := Only.setIn (R := fun k => k = g) rfl T1 1 w5 (Only.refl _ _)
  obtain ⟨w6, hw6⟩ : ∃ z, z = w5.setCells g 1 T1 := ⟨_, rfl⟩
  rw [← hw6] at hXc hOc
  have hX6 := hXc
  have hP6 : PInL lo w6 p (dS1 b).1 (dS1 b).2 := hP5'.lowN ⟨hOc.size, fun k hk => hOc.block k (by have := hP5'.lt; omega) (by omega)⟩
  have hR6 : Arr w6 w.heap.size 30 ZL := hR5.only hOc (by omega)
  have hb6w := hb5w.trans (hOc.below hb5w.size (by rintro k rfl; omega))
  have HP6 := Lib.hid hP6
  have Hw6 := Lib.hid hw6
  have Hth5 := Lib.hid hth5
  have hgl6 := hX6.lt
  clear hXc hOc hP5 hP5' ht5 hX4 hX5 hR4 hR5 hb4w hb5w hP6 hw6 hth5 HP4
  go_upto_region 6 with (first | (refine wpList_store_mid rfl 26 _ _ rfl g 1 T1.toArray rfl rfl Hth5.out HTi1.out HT11.out ?_; rw [show T1.toArray.toList = T1 from rfl, ← Hw6.out]))
  clear Hw6 Hth5
  obtain ⟨T2, hT2⟩ : ∃ z, z = rC (refS (dS1 b)).1 := ⟨_, rfl⟩
  have l2 : T2.length = 34 := by rw [hT2]; exact rC_length (refS_w _)
  have HTi2 := Lib.hid (show (Try.prog.info? 26).map (·.size) = some T2.toArray.size by rw [List.size_toArray, l2]; exact refSize)
  have HT12 := Lib.hid (show T2.toArray.all (·.oneCell') = true by rw [hT2]; exact all_oneC (rC_one _))
  have HT2 := Lib.hid hT2
  have Hl2 := Lib.hid l2
  clear hT2 l2
  go_wp2_with fail
  refine Calls.mono (btake_fl (dS1 b) p w6 HP6.out T2 HT2.out) ?_
  rintro e w7 ⟨rfl, hP7, ht7⟩
  have hP7' : PInL lo w7 p (dS2 b).1 (dS2 b).2 := by rw [dS2]; exact hP7
  have hX7 := hX6.turn ht7 (by omega)
  have hR7 := hR6.turn ht7 (by omega)
  have hbs7 := hb6w.size
  have hb7w := hb6w.trans (ht7.belowC hbs7 (by omega))
  have hth7 : w7.there g 35 T2.toArray.size := there_of_arr hX7 (by rw [comV_length Hl1.out rfl rfl rfl, List.size_toArray, Hl2.out]; omega)
  have hXc := Arr.setIn T2 35 _ w7 hX7 (by rw [comV_length Hl1.out rfl rfl rfl, Hl2.out]; omega)
  rw [comV_set2 Hl1.out rfl Hl2.out] at hXc
  have hOc : Only (fun k => k = g) w7 (w7.setCells g 35 T2) := Only.setIn (R := fun k => k = g) rfl T2 35 w7 (Only.refl _ _)
  obtain ⟨w8, hw8⟩ : ∃ z, z = w7.setCells g 35 T2 := ⟨_, rfl⟩
  rw [← hw8] at hXc hOc
  have hX8 := hXc
  have hP8 : PInL lo w8 p (dS2 b).1 (dS2 b).2 := hP7'.lowN ⟨hOc.size, fun k hk => hOc.block k (by have := hP7'.lt; omega) (by omega)⟩
  have hR8 : Arr w8 w.heap.size 30 ZL := hR7.only hOc (by omega)
  have hb8w := hb7w.trans (hOc.below hb7w.size (by rintro k rfl; omega))
  have HP8 := Lib.hid hP8
  have Hw8 := Lib.hid hw8
  have Hth7 := Lib.hid hth7
  have hgl8 := hX8.lt
  clear hXc hOc hP7 hP7' ht7 hX6 hX7 hR6 hR7 hb6w hb7w hP8 hw8 hth7 HP6
  go_upto_region 7 with (first | (refine wpList_store_mid rfl 26 _ _ rfl g 35 T2.toArray rfl rfl Hth7.out HTi2.out HT12.out ?_; rw [show T2.toArray.toList = T2 from rfl, ← Hw8.out]))
  clear Hw8 Hth7
  obtain ⟨T3, hT3⟩ : ∃ z, z = rC (refS (dS2 b)).1 := ⟨_, rfl⟩
  have l3 : T3.length = 34 := by rw [hT3]; exact rC_length (refS_w _)
  have HTi3 := Lib.hid (show (Try.prog.info? 26).map (·.size) = some T3.toArray.size by rw [List.size_toArray, l3]; exact refSize)
  have HT13 := Lib.hid (show T3.toArray.all (·.oneCell') = true by rw [hT3]; exact all_oneC (rC_one _))
  have HT3 := Lib.hid hT3
  have Hl3 := Lib.hid l3
  clear hT3 l3
  go_wp2_with fail
  refine Calls.mono (btake_fl (dS2 b) p w8 HP8.out T3 HT3.out) ?_
  rintro e w9 ⟨rfl, hP9, ht9⟩
  have hP9' : PInL lo w9 p (dS3 b).1 (dS3 b).2 := by rw [dS3]; exact hP9
  have hX9 := hX8.turn ht9 (by omega)
  have hR9 := hR8.turn ht9 (by omega)
  have hbs9 := hb8w.size
  have hb9w := hb8w.trans (ht9.belowC hbs9 (by omega))
  have hth9 : w9.there g 69 T3.toArray.size := there_of_arr hX9 (by rw [comV_length Hl1.out Hl2.out rfl rfl, List.size_toArray, Hl3.out]; omega)
  have hXc := Arr.setIn T3 69 _ w9 hX9 (by rw [comV_length Hl1.out Hl2.out rfl rfl, Hl3.out]; omega)
  rw [comV_set3 Hl1.out Hl2.out rfl Hl3.out] at hXc
  have hOc : Only (fun k => k = g) w9 (w9.setCells g 69 T3) := Only.setIn (R := fun k => k = g) rfl T3 69 w9 (Only.refl _ _)
  obtain ⟨w10, hw10⟩ : ∃ z, z = w9.setCells g 69 T3 := ⟨_, rfl⟩
  rw [← hw10] at hXc hOc
  have hX10 := hXc
  have hP10 : PInL lo w10 p (dS3 b).1 (dS3 b).2 := hP9'.lowN ⟨hOc.size, fun k hk => hOc.block k (by have := hP9'.lt; omega) (by omega)⟩
  have hR10 : Arr w10 w.heap.size 30 ZL := hR9.only hOc (by omega)
  have hb10w := hb9w.trans (hOc.below hb9w.size (by rintro k rfl; omega))
  have HP10 := Lib.hid hP10
  have Hw10 := Lib.hid hw10
  have Hth9 := Lib.hid hth9
  have hgl10 := hX10.lt
  clear hXc hOc hP9 hP9' ht9 hX8 hX9 hR8 hR9 hb8w hb9w hP10 hw10 hth9 HP8
  go_upto_region 8 with (first | (refine wpList_store_mid rfl 26 _ _ rfl g 69 T3.toArray rfl rfl Hth9.out HTi3.out HT13.out ?_; rw [show T3.toArray.toList = T3 from rfl, ← Hw10.out]))
  clear Hw10 Hth9
  have hlens := Lib.hid (show T1.length = 34 ∧ T2.length = 34 ∧ T3.length = 34 from ⟨Hl1.out, Hl2.out, Hl3.out⟩)
  go_wp2_with fail
  refine Calls.mono (tnrow_any lo p (dS3 b) w10 HP10.out) ?_
  rintro e w11 ⟨v11, rfl, hB11, hP11, ht11⟩
  have hP11' : PInL lo w11 p (dS4 b).1 (dS4 b).2 := by rw [dS4]; exact hP11
  have hX11 := hX10.turn ht11 (by omega)
  have hR11 := hR10.turn ht11 (by omega)
  have hbs11 := hb10w.size
  have hb11w := hb10w.trans (ht11.belowC hbs11 (by omega))
  have h1011 := ht11.size
  obtain ⟨Ab, cb, rfl, hbc, hbm, _⟩ := hB11.slice
  obtain ⟨cc, hcc⟩ := isDec b
  rw [hcc.bins] at hB11 hbc ⊢
  obtain ⟨nb, hnb⟩ : ∃ z, cc.bins.length = z := ⟨_, rfl⟩
  rw [hnb] at hB11 hbc ⊢
  have hc11 : w11.cell? ⟨g, 103, none⟩ = some (.slice none 0 0) := (Arr.com hX11 Hl1.out Hl2.out Hl3.out rfl).bins
  have hf11 : w11.frozen? ⟨g, 103, none⟩ = false := hX11.frozen 103
  have hX12 := hX11.set 103 (.slice Ab nb cb)
  rw [comV_setB Hl1.out Hl2.out Hl3.out] at hX12
  have hO12 : Only (fun k => k = g) w11 (w11.setCell ⟨g, 103, none⟩ (.slice Ab nb cb)) := Only.setCell (R := fun k => k = g) (Only.refl _ _) (.inl rfl) _
  obtain ⟨w12, hw12⟩ : ∃ z, z = w11.setCell ⟨g, 103, none⟩ (.slice Ab nb cb) := ⟨_, rfl⟩
  have Hw12 := Lib.hid hw12
  rw [← hw12] at hX12 hO12
  have hP12 : PInL lo w12 p (dS4 b).1 (dS4 b).2 := hP11'.lowN ⟨hO12.size, fun k hk => hO12.block k (by have := hP11'.lt; omega) (by omega)⟩
  have hR12 : Arr w12 w.heap.size 30 ZL := hR11.only hO12 (by omega)
  have hb12w := hb11w.trans (hO12.below hb11w.size (by rintro k rfl; omega))
  have hB12 : BRow w12 w10.heap.size (.slice Ab nb cb) cc.bins := by
    have hlt := hB11.lt
    have h10g : g < w10.heap.size := hgl10
    exact ⟨hB11.1, World.ownsRow.kept (row := some g) hB11.2 ⟨hO12.os, hO12.tape, hO12.output, hO12.size, fun k hk hn => hO12.block k hk (fun e => hn (by rw [e]))⟩ (.inr fun e => by have := (hlt g e).1; omega)⟩
  have HB12 := Lib.hid hB12
  have HP12 := Lib.hid hP12
  have Hcc := Lib.hid hcc
  have Hnb := Lib.hid hnb
  have h1112 := hO12.size
  have Hgl10 := Lib.hid hgl10
  clear hP11 hP11' ht11 hX10 hR10 hb10w hB11 hX11 hR11 hb11w hO12 hw12 hP12 hB12 hcc hnb HP10
  go_upto_region 9 with fail
  rw [← Hw12.out]
  clear Hw12 hc11 hf11
  obtain ⟨SL, hSL⟩ : ∃ z, z = Lib.byteCells (digS (dS4 b)).1 := ⟨_, rfl⟩
  have hSl : SL.length = 32 := by rw [hSL, Lib.byteCells_length]; exact digS_length _
  have HSi := Lib.hid (show (Try.prog.info? 24).map (·.size) = some SL.toArray.size by rw [List.size_toArray, hSl]; exact digInfo)
  have HS1 := Lib.hid (show SL.toArray.all (·.oneCell') = true by rw [hSL]; exact dig_one _)
  have HSL := Lib.hid hSL
  have HSl := Lib.hid hSl
  have Hdig := Lib.hid (show Calls Try.prog 41 #[.pointer (some ⟨p, 0, none⟩)] w12 fun e w' => e = .returned (.agg SL.toArray) ∧ PInL lo w' p (digS (dS4 b)).2.1 (digS (dS4 b)).2.2 ∧ Turn p w12 w' by rw [hSL]; exact digest_fl p (dS4 b) w12 HP12.out)
  clear hSL hSl
  go_wp2_with fail
  refine Calls.mono Hdig.out ?_
  rintro e w13 ⟨rfl, hP13, ht13⟩
  have hP13' : PInL lo w13 p (dS5 b).1 (dS5 b).2 := by rw [dS5]; exact hP13
  have hX13 := hX12.turn ht13 (by omega)
  have hR13 := hR12.turn ht13 (by omega)
  have hb13w := hb12w.trans (ht13.belowC hb12w.size (by omega))
  have hB13 := HB12.out.turn ht13 (by have := Hgl10.out; omega)
  have hth13 : w13.there g 104 SL.toArray.size := there_of_arr hX13 (by rw [comV_length Hl1.out Hl2.out Hl3.out rfl, List.size_toArray, HSl.out]; omega)
  have hXc := Arr.setIn SL 104 _ w13 hX13 (by rw [comV_length Hl1.out Hl2.out Hl3.out rfl, HSl.out]; omega)
  rw [comV_setS Hl1.out Hl2.out Hl3.out rfl HSl.out] at hXc
  have hOc : Only (fun k => k = g) w13 (w13.setCells g 104 SL) := Only.setIn (R := fun k => k = g) rfl SL 104 w13 (Only.refl _ _)
  obtain ⟨w14, hw14⟩ : ∃ z, z = w13.setCells g 104 SL := ⟨_, rfl⟩
  rw [← hw14] at hXc hOc
  have hX14 := hXc
  have hP14 : PInL lo w14 p (dS5 b).1 (dS5 b).2 := hP13'.lowN ⟨hOc.size, fun k hk => hOc.block k (by have := hP13'.lt; omega) (by omega)⟩
  have hR14 : Arr w14 w.heap.size 30 ZL := hR13.only hOc (by omega)
  have hb14w := hb13w.trans (hOc.below hb13w.size (by rintro k rfl; omega))
  have hB14 : BRow w14 w10.heap.size (.slice Ab nb cb) cc.bins := by
    have hlt := hB13.lt
    have h10g : g < w10.heap.size := Hgl10.out
    exact ⟨hB13.1, World.ownsRow.kept (row := some g) hB13.2 ⟨hOc.os, hOc.tape, hOc.output, hOc.size, fun k hk hn => hOc.block k hk (fun e => hn (by rw [e]))⟩ (.inr fun e => by have := (hlt g e).1; omega)⟩
  have HB14 := Lib.hid hB14
  have HP14 := Lib.hid hP14
  have Hw14 := Lib.hid hw14
  have Hth13 := Lib.hid hth13
  have hgl14 := hX14.lt
  have h1314 : w10.heap.size ≤ w14.heap.size := by have := ht13.size; have := hOc.size; omega
  clear hXc hOc hP13 hP13' ht13 hX12 hX13 hR12 hR13 hb12w hb13w hP14 hw14 hth13 HP12 hB13 hB14 HB12 Hdig
  go_upto_region 10 with (first | (refine wpList_store_mid rfl 24 _ _ rfl g 104 SL.toArray rfl rfl Hth13.out HSi.out HS1.out ?_; rw [show SL.toArray.toList = SL from rfl, ← Hw14.out]))
  clear Hw14 Hth13
  go_wp2_with fail
  refine Calls.mono (terow_any lo p (dS5 b) w14 HP14.out) ?_
  rintro e w15 ⟨v15, rfl, hE15, hP15, ht15⟩
  have hP15' : PInL lo w15 p (dS6 b).1 (dS6 b).2 := by rw [dS6]; exact hP15
  have hX15 := hX14.turn ht15 (by omega)
  have hR15 := hR14.turn ht15 (by omega)
  have hb15w := hb14w.trans (ht15.belowC hb14w.size (by omega))
  have hB15 := HB14.out.turn ht15 (by have := Hgl10.out; omega)
  have hp15 := hP15'.lt
  obtain ⟨Ae, ce, rfl, hec, hem, _⟩ := hE15.rows (by omega)
  rw [Hcc.out.evs] at hE15 hec ⊢
  obtain ⟨ne, hne⟩ : ∃ z, cc.evs.length = z := ⟨_, rfl⟩
  rw [hne] at hE15 hec ⊢
  have hc15 : w15.cell? ⟨g, 136, none⟩ = some (.slice none 0 0) := (Arr.com hX15 Hl1.out Hl2.out Hl3.out HSl.out).evs
  have hf15 : w15.frozen? ⟨g, 136, none⟩ = false := hX15.frozen 136
  have hX16 := hX15.set 136 (.slice Ae ne ce)
  rw [comV_setE Hl1.out Hl2.out Hl3.out HSl.out] at hX16
  have hO16 : Only (fun k => k = g) w15 (w15.setCell ⟨g, 136, none⟩ (.slice Ae ne ce)) := Only.setCell (R := fun k => k = g) (Only.refl _ _) (.inl rfl) _
  obtain ⟨w16, hw16⟩ : ∃ z, z = w15.setCell ⟨g, 136, none⟩ (.slice Ae ne ce) := ⟨_, rfl⟩
  have Hw16 := Lib.hid hw16
  rw [← hw16] at hX16 hO16
  have hP16 : PInL lo w16 p (dS6 b).1 (dS6 b).2 := hP15'.lowN ⟨hO16.size, fun k hk => hO16.block k (by omega) (by omega)⟩
  have hR16 : Arr w16 w.heap.size 30 ZL := hR15.only hO16 (by omega)
  have hb16w := hb15w.trans (hO16.below hb15w.size (by rintro k rfl; omega))
  have hgr16 : w15.grownBy w16 (some g) := ⟨hO16.os, hO16.tape, hO16.output, hO16.size, fun k hk hn => hO16.block k hk (fun e => hn (by rw [e]))⟩
  have hB16 : BRow w16 w10.heap.size (.slice Ab nb cb) cc.bins := by
    have hlt := hB15.lt
    have h10g : g < w10.heap.size := Hgl10.out
    exact ⟨hB15.1, World.ownsRow.kept hB15.2 hgr16 (.inr fun e => by have := (hlt g e).1; omega)⟩
  have hE16 : ERow lo w16 w14.heap.size p (.slice Ae ne ce) cc.evs := by
    have hlt := hE15.lt
    obtain ⟨cs, k1, k2⟩ := hE15
    refine ⟨cs, World.ownsRow.kept k1 hgr16 (.inr fun e => by have := (hlt g e).1; omega), fun i r hr => ?_⟩
    obtain ⟨A', c', q1, q2, q3, q4, q5⟩ := k2 i r hr
    exact ⟨A', c', q1, q2, q3, q4.keep fun bb oo hlt' => World.cell?_of_block (hO16.block bb (by omega) (by omega)), q5⟩
  have hp16 : p ≤ w16.heap.size := by have := hO16.size; omega
  have hbins16 : RowOf bC 35 w16 w16.heap.size Ab cc.bins := by
    obtain ⟨A', c', e1, h2, h3, h4⟩ := hB16.slice
    have e2 := (Value.slice.inj e1).1
    rw [e2]; exact h4
  have hevs16 : RowsAt w16 w16.heap.size Ae cc.evs := by
    obtain ⟨A', c', e1, h2, h3, h4⟩ := hE16.rows hp16
    have e2 := (Value.slice.inj e1).1
    rw [e2]; exact h4
  have Hbw := Lib.hid hB16.1
  have HB16 := Lib.hid hB16
  have HE16 := Lib.hid hE16
  have Hbins := Lib.hid hbins16
  have Hevs := Lib.hid hevs16
  have HP16 := Lib.hid hP16
  have HR16 := Lib.hid hR16
  have Hb16w := Lib.hid hb16w
  have Hne := Lib.hid hne
  have hgl16 := hX16.lt
  have HX16 := Lib.hid hX16
  clear hP15 hP15' ht15 hX14 hR14 hb14w hX15 hR15 hb15w hB15 HB14 hE15 hO16 hw16 hP16 hgr16 hB16 hE16 hbins16 hevs16 hR16 hb16w hne HP14 hX16
  go_upto_region 11 with fail
  rw [← Hw16.out]
  clear Hw16 hc15 hf15
  obtain ⟨p0, _, _, _, p4, _, _⟩ := Arr.com HX16.out Hl1.out Hl2.out Hl3.out HSl.out
  obtain ⟨dv, hdv⟩ : ∃ z, doneF (dS6 b).1 (dS6 b).2 = z := ⟨_, rfl⟩
  have Hdv := Lib.hid hdv
  have HX := Lib.hid (show comV ep T1 T2 T3 (.slice Ab nb cb) SL (.slice Ae ne ce) = comC ⟨cc, Ab, cb, Ae, ce⟩ by
    unfold comC
    dsimp only
    rw [← Hcc.out.ep, Hep.out, ← Hcc.out.r1, ← HT1.out, ← Hcc.out.r2, ← HT2.out, ← Hcc.out.r3, ← HT3.out, Hnb.out, Hne.out, ← Hcc.out.st, ← HSL.out])
  have Hbadset := Lib.hid (fun (w' : World) (hR : Arr w' w.heap.size 30 ZL) => show (w'.setRow w.heap.size ZL.toArray).heap[w.heap.size]? = some (.cells ZL.toArray 30 (0, 0)) from hR.setRow ZL)
  have Hbadb := Lib.hid (fun (w' : World) (hb' : Below w.heap.size w w') (cs : Array Value) => show Below w.heap.size w (w'.setRow w.heap.size cs) from hb'.trans (((Only.refl (fun k => k = w.heap.size) w').setRow (.inl rfl) _).below hb'.size (by rintro k rfl; omega)))
  clear hdv hbs11 hbs3
  go_wp2_with fail
  refine Calls.mono (done_in p (dS6 b).1 (dS6 b).2 w16 HP16.out) ?_
  rintro e w17 ⟨rfl, rfl⟩
  rw [Hdv.out]
  by_cases hd0 : dv = 0
  · subst hd0
    have q1 : ((0 : Int) != 0) = false := by simp
    have Hfin := Lib.hid (show dS6 b = ([], false) by
      have h := Hdv.out
      unfold doneF at h
      split at h
      · cases h
      · rename_i hn
        have h1 : (dS6 b).2 = false := by
          cases hq : (dS6 b).2 with
          | false => rfl
          | true => exact absurd (.inl hq) hn
        have h2 : (dS6 b).1 = [] := List.length_eq_zero_iff.1 (by
          have : ¬ 0 < (dS6 b).1.length := fun h => hn (.inr h)
          omega)
        exact Prod.ext h2 h1)
    by_cases he0 : ep = 0
    · subst he0
      have Hno := Lib.hid (show ¬ Good b from fun h => by
        obtain ⟨_, _, c', hc', hp', _⟩ := h
        have := hc'.ep
        rw [Hep.out] at this
        omega)
      go_wp2_with (first | (refine wpList_builtD rfl _ _ rfl [] rfl ZL.toArray HZb.out ?_) | (refine wpList_store_row rfl _ _ _ rfl w.heap.size ZL.toArray rfl rfl 30 ZL.toArray HR16.out HZi.out rfl HZ1.out ?_))
      (try simp only [Exit.inBlock, Exit.then])
      obtain ⟨V, hV⟩ : ∃ V, V = Value.tuple #[.agg ZL.toArray, .int .i64 3] := ⟨_, rfl⟩
      refine bodyPost_ret (v := V) ?hx1 ?h2 ?h3
      case hx1 => rw [hV]; exact results_cell2 (fn := Try.f12) (by rfl) _ _ w.heap.size 30 ZL.toArray (0, 0) _ (by rfl) _ (by rfl) (Hbadset.out _ HR16.out) Try.underlying30 rfl HZi.out
      case h2 => rfl
      case h3 => exact ⟨Hbadb.out _ Hb16w.out _, .inr ⟨by rw [hV, HZL.out], Hno.out⟩⟩
    · have q2 : ((ep : Int) == 0) = false := by rw [beq_eq_false_iff_ne]; omega
      have q3 : (ep == 0) = false := by rw [beq_eq_false_iff_ne]; exact he0
      obtain ⟨b3, hb3⟩ : ∃ b3 : Bool, b3 = true ↔ RiseB cc.bins := by classical exact ⟨decide _, decide_eq_true_iff⟩
      have Hb3 := Lib.hid hb3
      have Hhe := Lib.hid he0
      clear hb3 he0
      go_wp2_with fail
      refine Calls.mono (rise_any Ab nb cb cc.bins Hnb.out hbc hbm w16 Hbins.out b3 Hb3.out) ?_
      rintro e w18 ⟨rfl, hb18⟩
      have hR18 := HR16.out.up hb18
      have hX18 := HX16.out.up hb18
      have hb18w := Hb16w.out.trans (hb18.mono Hb16w.out.size)
      cases b3 with
      | false =>
        have Hno := Lib.hid (show ¬ Good b from fun h => by
          obtain ⟨_, _, c', hc', _, hr'⟩ := h
          rw [dec_one hc' Hcc.out] at hr'
          have := Hb3.out.2 hr'
          cases this)
        clear hb18
        go_wp2_with (first | (refine wpList_builtD rfl _ _ rfl [] rfl ZL.toArray HZb.out ?_) | (refine wpList_store_row rfl _ _ _ rfl w.heap.size ZL.toArray rfl rfl 30 ZL.toArray hR18 HZi.out rfl HZ1.out ?_))
        (try simp only [Exit.inBlock, Exit.then])
        obtain ⟨V, hV⟩ : ∃ V, V = Value.tuple #[.agg ZL.toArray, .int .i64 3] := ⟨_, rfl⟩
        refine bodyPost_ret (v := V) ?hx1 ?h2 ?h3
        case hx1 => rw [hV]; exact results_cell2 (fn := Try.f12) (by rfl) _ _ w.heap.size 30 ZL.toArray (0, 0) _ (by rfl) _ (by rfl) (Hbadset.out _ hR18) Try.underlying30 rfl HZi.out
        case h2 => rfl
        case h3 => exact ⟨Hbadb.out _ hb18w _, .inr ⟨by rw [hV, HZL.out], Hno.out⟩⟩
      | true =>
        have Hgood := Lib.hid (show Good b from ⟨Hsm.out, Hfin.out, cc, Hcc.out, by rw [← Hcc.out.ep, Hep.out]; have := Hhe.out; omega, Hb3.out.1 rfl⟩)
        obtain ⟨XL, hXL⟩ : ∃ z, z = comV ep T1 T2 T3 (.slice Ab nb cb) SL (.slice Ae ne ce) := ⟨_, rfl⟩
        rw [← hXL] at hX18 HX
        have hXl : XL.length = 137 := by rw [hXL]; exact comV_length Hl1.out Hl2.out Hl3.out HSl.out
        have HXi := Lib.hid (show (Try.prog.info? 30).map (·.size) = some XL.toArray.size by rw [List.size_toArray, hXl]; exact comSize)
        have HXz := Lib.hid (show ZL.toArray.size = XL.toArray.size by rw [List.size_toArray, List.size_toArray, hXl, HZL.out]; rfl)
        have HX1 := Lib.hid (show XL.toArray.all (·.oneCell') = true by rw [HX.out]; exact all_oneC (comC_one _))
        have Hset := Lib.hid (show (w18.setRow w.heap.size XL.toArray).heap[w.heap.size]? = some (.cells XL.toArray 30 (0, 0)) from by
          have := setRow_heap w18 w.heap.size ZL.toArray XL.toArray 30 (0, 0) hR18
          exact this)
        have hbe := Hbadb.out w18 hb18w XL.toArray
        have hOe : Only (fun k => k = w.heap.size) w18 (w18.setRow w.heap.size XL.toArray) := (Only.refl (fun k => k = w.heap.size) w18).setRow (.inl rfl) _
        obtain ⟨w19, hw19⟩ : ∃ z, z = w18.setRow w.heap.size XL.toArray := ⟨_, rfl⟩
        have Hw19 := Lib.hid hw19
        rw [← hw19] at hbe hOe
        have hok : CxOk w19 w19.heap.size ⟨cc, Ab, cb, Ae, ce⟩ := by
          have hz18 := hb18.size
          have hB19 := (HB16.out.up hb18).apart hOe (by have := Hgl10.out; omega)
          have hE19 := (HE16.out.up hb18 hp16).apart hOe Hlog.out (by omega) (by omega)
          have hz19 := hOe.size
          have q1 : RowOf bC 35 w19 w19.heap.size Ab cc.bins := by
            obtain ⟨A', c', e1, h2, h3, h4⟩ := hB19.slice
            rw [(Value.slice.inj e1).1]; exact h4
          have q2 : RowsAt w19 w19.heap.size Ae cc.evs := by
            obtain ⟨A', c', e1, h2, h3, h4⟩ := hE19.rows (by omega)
            rw [(Value.slice.inj e1).1]; exact h4
          exact ⟨by rw [← Hcc.out.ep, Hep.out]; exact hepl, by rw [← Hcc.out.r1]; exact refS_w _, by rw [← Hcc.out.r2]; exact refS_w _, by rw [← Hcc.out.r3]; exact refS_w _, Hbw.out, by rw [← Hcc.out.st]; exact digS_length _, by show cc.bins.length ≤ cb; rw [Hnb.out]; exact hbc, hbm, by show cc.evs.length ≤ ce; rw [Hne.out]; exact hec, hem, q1, q2⟩
        have hev : EvIn w19 (fun k => w.heap.size ≤ k ∧ k < w19.heap.size) Ae cc.evs := by
          have hz18 := hb18.size
          have hE19 := (HE16.out.up hb18 hp16).apart hOe Hlog.out (by omega) (by omega)
          have hz19 := hOe.size
          have := Hgl10.out
          have := Hlog.out
          obtain ⟨A', c', e1, h2⟩ := hE19.evIn (by omega) w.heap.size (by omega) (by omega)
          rw [(Value.slice.inj e1).1]; exact h2
        have Hev := Lib.hid hev
        have Hok := Lib.hid hok
        have Hbe := Lib.hid hbe
        clear hb18 hok hbe hOe hw19 hXL hXl hev
        go_wp2_with (first
          | (refine wpList_load_row rfl _ _ rfl g rfl 30 XL.toArray (0, 0) _ hX18 Try.underlying30 rfl HXi.out ?_)
          | (refine wpList_store_row rfl _ _ _ rfl w.heap.size XL.toArray rfl rfl 30 ZL.toArray hR18 HXi.out HXz.out HX1.out ?_))
        (try simp only [Exit.inBlock, Exit.then])
        obtain ⟨V, hV⟩ : ∃ V, V = Value.tuple #[.agg XL.toArray, .int .i64 0] := ⟨_, rfl⟩
        refine bodyPost_ret (v := V) ?hx1 ?h2 ?h3
        case hx1 => rw [hV]; exact results_cell2 (fn := Try.f12) (by rfl) _ _ w.heap.size 30 XL.toArray (0, 0) _ (by rfl) _ (by rfl) Hset.out Try.underlying30 rfl HXi.out
        case h2 => rfl
        case h3 => exact ⟨by rw [← Hw19.out]; exact Hbe.out, .inl ⟨⟨cc, Ab, cb, Ae, ce⟩, by rw [hV, HX.out], by rw [← Hw19.out]; exact Hok.out, by rw [← Hw19.out]; exact Hev.out, Hcc.out, Hgood.out⟩⟩
  · have q1 : (dv != 0) = true := by simpa using hd0
    have Hno := Lib.hid (show ¬ Good b from fun h => by
      have h2 := h.2.1
      apply hd0
      rw [← Hdv.out, h2]
      rfl)
    clear hd0
    go_wp2_with (first | (refine wpList_builtD rfl _ _ rfl [] rfl ZL.toArray HZb.out ?_) | (refine wpList_store_row rfl _ _ _ rfl w.heap.size ZL.toArray rfl rfl 30 ZL.toArray HR16.out HZi.out rfl HZ1.out ?_))
    (try simp only [Exit.inBlock, Exit.then])
    obtain ⟨V, hV⟩ : ∃ V, V = Value.tuple #[.agg ZL.toArray, .int .i64 3] := ⟨_, rfl⟩
    refine bodyPost_ret (v := V) ?hx1 ?h2 ?h3
    case hx1 => rw [hV]; exact results_cell2 (fn := Try.f12) (by rfl) _ _ w.heap.size 30 ZL.toArray (0, 0) _ (by rfl) _ (by rfl) (Hbadset.out _ HR16.out) Try.underlying30 rfl HZi.out
    case h2 => rfl
    case h3 => exact ⟨Hbadb.out _ Hb16w.out _, .inr ⟨by rw [hV, HZL.out], Hno.out⟩⟩

theorem dec_any (A : Option Addr) (n c : Nat) (b : List UInt8) (hn : b.length = n) (hc : n ≤ c) (hm : c ≤ maxLen) (w : World) (hb : Bs w w.heap.size A b) :
    Calls Try.prog 12 #[.slice A n c] w (DecPost b w) := by
  refine (dec_low A n c b hn hc hm w hb).mono ?_
  rintro e w' ⟨h1, ⟨x, h2, h3, _, h4⟩ | h⟩
  · exact ⟨h1, .inl ⟨x, h2, h3, h4⟩⟩
  · exact ⟨h1, .inr h⟩

end Go.Proofs.Ytlfddijmanlneaa

namespace Go.Proofs.Ytlfddijmanlneaa
open Go.RowKit
set_option linter.unusedVariables false
set_option linter.unusedSimpArgs false

theorem rtagged_atB (use : UInt8) (u : Int) (rs : List (List UInt8)) (SL : List Value) (A : Option Addr) (n c : Nat) (w : World) (hu : ((use.toNat : Nat) : Int) = u) (hS : SL = Lib.byteCells (shaF (tagF use rs))) (hn : rs.length = n) (hn2 : n ≤ 1000000) (hr : RowsAt w w.heap.size A rs) (hlim : (tagF use rs).length ≤ 1000000) :
    Calls Try.prog 48 #[.int .u8 u, .slice A n c] w fun e w' => e = .returned (.agg SL.toArray) ∧ Below w.heap.size w w' := by
  subst hS hu; exact rtagged_any use rs A n c w hn hn2 hr hlim

set_option maxHeartbeats 8000000 in
set_option maxRecDepth 100000 in
theorem rof_any (a : Int) (l : List UInt8) (DL : List Value) (A : Option Addr) (n c : Nat) (w : World) (hn : l.length = n) (hn2 : n ≤ 900000) (hc : n ≤ c) (hm : c ≤ maxLen) (hb : Bs w w.heap.size A l) (ha0 : -9223372036854775808 ≤ a) (ha1 : a ≤ 9223372036854775807) (hDL : DL = refC (blobDig l) a n) :
    Calls Try.prog 16 #[.int .i64 a, .slice A n c] w fun e w' => e = .returned (.agg DL.toArray) ∧ Below w.heap.size w w' := by
  obtain ⟨W, hW⟩ : ∃ W, W = w.alloc (.cells refZ.toArray 26) := ⟨_, rfl⟩
  have hR : Arr W w.heap.size 26 refZ := by rw [hW]; exact Arr.new w _ _
  have hWs : W.heap.size = w.heap.size + 1 := by rw [hW]; simp
  have hB : Below w.heap.size w W := by rw [hW]; exact (Below.refl _ w).alloc (Nat.le_refl _) _
  obtain ⟨V, hV⟩ : ∃ V, V = W.alloc (.cells #[.slice A n c] 33) := ⟨_, rfl⟩
  have hbV : Below W.heap.size W V := by rw [hV]; exact (Below.refl _ W).alloc (Nat.le_refl _) _
  have hrow : RowsAt V V.heap.size (some ⟨W.heap.size, 0, none⟩) [l] := by
    have h1 := rows_one (w := W) 33 hn hc hm (hb.below hB (Nat.le_refl _)) hB.size
    rw [hV]; exact h1.more (Nat.le_of_eq (by simp))
  have hlim : (tagF 3 [l]).length ≤ 1000000 := by
    unfold tagF
    have e1 := Lib.uvarint_length64 (x := l.length) (by omega)
    simp only [List.length_cons, List.flatMap_cons, List.flatMap_nil, List.length_append, List.length_nil]
    omega
  obtain ⟨SL, hSL⟩ : ∃ SL, SL = Lib.byteCells (blobDig l) := ⟨_, rfl⟩
  have Hb := Lib.hid (show Try.prog.built 26 [(0, .agg SL.toArray), (1, .int .i64 a), (2, .int .i64 n)] = some DL.toArray by rw [hDL]; exact ref_built (blobDig l) SL hSL (blobDig_length l) a n)
  have hdl : DL.length = 34 := by rw [hDL]; exact refC_length (blobDig_length l) _ _
  have hone : ∀ v ∈ DL, v.oneCell' = true := by rw [hDL]; exact refC_cell _ _ _
  have hi34 : (Try.prog.info? 26).map (·.size) = some DL.length := by rw [hdl]; exact refSize
  have HSL := Lib.hid hSL
  have HV := Lib.hid hV
  have HW := Lib.hid hW
  have HWs := Lib.hid hWs
  clear hV hW hSL hDL hWs
  go_enter Try.func16, Try.ntmps16
  go_wp2_with fail
  change Calls _ _ #[_, .slice (some ⟨w.heap.size + 1, 0, none⟩) 1 1] ((w.alloc (.cells refZ.toArray 26)).alloc (.cells #[.slice A n c] 33)) _
  rw [← HWs.out, ← HW.out, ← HV.out]
  refine Calls.mono (rtagged_atB 3 3 [l] SL (some ⟨W.heap.size, 0, none⟩) 1 1 V rfl HSL.out rfl (by omega) hrow hlim) ?_
  rintro e w5 ⟨rfl, hb5⟩
  have hR5 : Arr w5 w.heap.size 26 refZ := (hR.below hbV hR.lt).below hb5 (by have := hR.lt; have := hbV.size; omega)
  have h5 : Below w.heap.size w w5 := (hB.trans (hbV.mono hB.size)).trans (hb5.mono (Nat.le_trans hB.size hbV.size))
  have H0 : Hid (w5.heap[w.heap.size]? = some (.cells refZ.toArray 26 (0, 0))) := Lib.hid hR5
  have HI := Lib.hid (show (Try.prog.info? 26).map (·.size) = some DL.toArray.size by rw [List.size_toArray]; exact hi34)
  have HS := Lib.hid (show refZ.toArray.size = DL.toArray.size by rw [List.size_toArray, List.size_toArray, hdl]; rfl)
  have H1 := Lib.hid (show DL.toArray.all (·.oneCell') = true from all_oneCell_toArray hone)
  have hfin : Below w.heap.size w (w5.setRow w.heap.size DL.toArray) := h5.trans (((Only.refl (fun k => k = w.heap.size) w5).setRow (.inl rfl) DL.toArray).below h5.size (by rintro k rfl; omega))
  have hset : Arr (w5.setRow w.heap.size DL.toArray) w.heap.size 26 DL := hR5.setRow DL
  clear hR hB hbV hrow hlim hb5 hb hR5 h5
  go_wp2_with (first
    | (refine wpList_builtD rfl _ _ rfl _ rfl DL.toArray Hb.out ?_)
    | (refine wpList_store_row rfl _ _ _ rfl w.heap.size DL.toArray rfl rfl 26 refZ.toArray H0.out HI.out HS.out H1.out ?_))
  exact bodyPost_ret (v := .agg DL.toArray) (results_cell_row (by rfl) _ _ w.heap.size 26 DL.toArray (0, 0) _ (by rfl) hset Try.underlying26 rfl hi34) rfl ⟨rfl, hfin⟩


theorem ref_field0 {d : List UInt8} (hd : d.length = 32) (a n : Int) (DL SL : List Value) (hDL : DL = refC d a n) (hSL : SL = Lib.byteCells d) (w : World) : (Instr.field 26 (.agg DL.toArray) 0).run Try.prog w = .ok (.agg SL.toArray) w := by
  subst hDL hSL
  obtain ⟨f, g, h, hl, ⟨f1, f2, f3⟩, _⟩ := ref_list
  have h0 : (Try.prog.fieldsOf 26)[0]? = some f := by rw [← Array.getElem?_toList, hl]; rfl
  unfold Instr.field
  simp only [Sem.run_bind, run_underlying ref_under, Result.andThen_ok, h0, f2, f3, asAgg, Sem.run_pure]
  exact dig_part hd a n w
theorem dig_eqvC {X Y : List UInt8} (hX : X.length = 32) (hY : Y.length = 32) {XL YL : List Value} (hXL : XL = Lib.byteCells X) (hYL : YL = Lib.byteCells Y) (w : World) : (Op.equalIn 10000 24 (.agg XL.toArray) (.agg YL.toArray)).run Try.prog w = .ok (decide (X = Y)) w := by
  subst hXL hYL
  exact dig_eqv_at 9998 X Y hX hY w
theorem gtD : Try.prog.eqGuardType Try.prog.depth 24 = false := by kernel_rfl
set_option maxHeartbeats 4000000 in
set_option maxRecDepth 100000 in
theorem cdig_any (l : List UInt8) (SL : List Value) (A : Option Addr) (n c : Nat) (w : World) (hSL : SL = Lib.byteCells (blobDig l)) (hn : l.length = n) (hn2 : n ≤ 900000) (hc : n ≤ c) (hm : c ≤ maxLen) (hb : Bs w w.heap.size A l) :
    Calls Try.prog 15 #[.slice A n c] w fun e w' => e = .returned (.agg SL.toArray) ∧ Below w.heap.size w w' := by
  obtain ⟨ZL, hZL⟩ : ∃ z, z = Lib.byteCells zeros := ⟨_, rfl⟩
  obtain ⟨W, hW⟩ : ∃ W, W = w.alloc (.cells ZL.toArray 24) := ⟨_, rfl⟩
  have hR : Arr W w.heap.size 24 ZL := by rw [hW]; exact Arr.new w _ _
  have hB : Below w.heap.size w W := by rw [hW]; exact (Below.refl _ w).alloc (Nat.le_refl _) _
  obtain ⟨DL, hDL⟩ : ∃ z, z = refC (blobDig l) (0 : Nat) (n : Nat) := ⟨_, rfl⟩
  have hbW : Bs W W.heap.size A l := (hb.below hB (Nat.le_refl _)).more hB.size
  have hof := of_any 0 l DL A n c W hn hn2 hc hm hbW (by omega) (by omega) hDL
  have hfd : ∀ w, (Instr.field 26 (.agg DL.toArray) 0).run Try.prog w = .ok (.agg SL.toArray) w := fun w => ref_field0 (blobDig_length l) _ _ DL SL hDL hSL w
  have hSl : SL.length = 32 := by rw [hSL, Lib.byteCells_length]; exact blobDig_length l
  have HSi := Lib.hid (show (Try.prog.info? 24).map (·.size) = some SL.toArray.size by rw [List.size_toArray, hSl]; exact digInfo)
  have HSz := Lib.hid (show ZL.toArray.size = SL.toArray.size by rw [List.size_toArray, List.size_toArray, hSl, hZL]; rfl)
  have HS1 := Lib.hid (show SL.toArray.all (·.oneCell') = true by rw [hSL]; exact dig_one _)
  have HW := Lib.hid hW
  have Hof := Lib.hid hof
  have HZL := Lib.hid hZL
  clear hW hZL hDL hSL hbW hof hb hSl
  go_enter Try.func15, Try.ntmps15
  go_upto_region 1 with fail
  change Code.wp _ _ _ _ (w.alloc (.cells (Lib.byteCells zeros).toArray 24))
  rw [← HZL.out, ← HW.out]
  go_wp2_with fail
  refine Calls.mono Hof.out ?_
  rintro e w5 ⟨rfl, hb5⟩
  have hR5 := hR.below hb5 hR.lt
  have h5 : Below w.heap.size w w5 := hB.trans (hb5.mono hB.size)
  have H0 : Hid (w5.heap[w.heap.size]? = some (.cells ZL.toArray 24 (0, 0))) := Lib.hid hR5
  have hfin : Below w.heap.size w (w5.setRow w.heap.size SL.toArray) := h5.trans (((Only.refl (fun k => k = w.heap.size) w5).setRow (.inl rfl) SL.toArray).below h5.size (by rintro k rfl; omega))
  have hset : Arr (w5.setRow w.heap.size SL.toArray) w.heap.size 24 SL := hR5.setRow SL
  clear hR hB hb5 hR5 h5 Hof HW HZL
  go_wp2_with (first | (refine wpList_store_row rfl _ _ _ rfl w.heap.size SL.toArray rfl rfl 24 ZL.toArray H0.out HSi.out HSz.out HS1.out ?_))
  exact bodyPost_ret (v := .agg SL.toArray) (results_cell_row (by rfl) _ _ w.heap.size 24 SL.toArray (0, 0) _ (by rfl) hset Try.underlying24 rfl HSi.out) rfl ⟨rfl, hfin⟩

end Go.Proofs.Ytlfddijmanlneaa

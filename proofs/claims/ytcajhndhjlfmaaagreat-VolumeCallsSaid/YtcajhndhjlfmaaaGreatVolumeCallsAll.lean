/-
  The law VolumeCalls.
-/
import Derived.Test.YtcajhndhjlfmaaaGreatIn
import Derived.Test.YtcajhndhjlfmaaaGreatPackMath
import Derived.Test.YtcajhndhjlfmaaaGreatVolPure
import Derived.Test.YtcajhndhjlfmaaaGreatTakesMath
import Derived.Test.YtcajhndhjlfmaaaGreatInBytes
import Derived.Test.YtcajhndhjlfmaaaGreatInWrong
import Derived.Test.YtcajhndhjlfmaaaGreatInCalls
import Derived.Deep.RegionHeld3
import Derived.Deep.AppendLies
import Derived.Outline
import Derived.IntWalk
import Derived.Test.YtcajhndhjlfmaaaGreatDig0
import Derived.Laws.Rows
import Derived.Laws.Tables
import Derived.Test.YtcajhndhjlfmaaaGreatVolPut
import Derived.Test.YtcajhndhjlfmaaaGreatGen
import Derived.Test.YtcajhndhjlfmaaaGreatVolSame
import Derived.Laws.Cover1
import Derived.Shelf.SlIter.Nil
import Derived.Shelf.SlIterI.Nil
import Derived.Shelf.SortM.Plain
import Derived.Shelf.SortM.SortNone
import Derived.Shelf.SlGeneric
import Derived.Ground.GgzProg
import Derived.Ground.SlgmProg
import Derived.Test.YtcajhndhjlfmaaaGreatVolRows
import Derived.Deep.DeepCutAuto
import Derived.Deep.CutBlock
import Derived.Test.YtcajhndhjlfmaaaGreatBytes
import Derived.Lib.ConvBytes
import Derived.Handy
import Derived.Test.YtcajhndhjlfmaaaGreatNum
import Derived.Test.YtcajhndhjlfmaaaGreatMem
import Derived.Lib.AppendZeros
import Derived.Test.YtcajhndhjlfmaaaGreatVolRefA
import Derived.Test.YtcajhndhjlfmaaaGreatVolCalls
import Derived.Test.YtcajhndhjlfmaaaGreatTagged
import Derived.Test.YtcajhndhjlfmaaaGreatRefSum
import Derived.Test.YtcajhndhjlfmaaaGreatRows
import Derived.Test.YtcajhndhjlfmaaaGreatLib
import Derived.BigQuiet
import Derived.Deep.QuietTactic
import Derived.Test.YtcajhndhjlfmaaaGreatVolSpeaks
import Derived.Test.YtcajhndhjlfmaaaGreatVolCallW
namespace Go.Proofs.YtcajhndhjlfmaaaGreat
open Go.RowKit
set_option linter.unusedVariables false

/-- The digest that is next: 32 bytes, or zeros. -/
def digF (l : List UInt8) : List UInt8 := if l.length < 32 then List.replicate 32 0 else l.take 32

theorem digF_length (l : List UInt8) : (digF l).length = 32 := by
  unfold digF
  split
  · simp
  · rw [List.length_take]; omega

theorem numF_rest (most : Nat) (l : List UInt8) : (numF most l).2.1.length ≤ l.length := by
  unfold numF
  split
  · simp
  · simp

theorem numF_le (most : Nat) (l : List UInt8) : (numF most l).1 ≤ most := by
  unfold numF
  split
  · exact Nat.zero_le _
  · rename_i h
    simp only
    omega

end Go.Proofs.YtcajhndhjlfmaaaGreat

namespace Go.Proofs.YtcajhndhjlfmaaaGreat
open Go.RowKit
set_option linter.unusedVariables false
set_option linter.unusedSimpArgs false

theorem numF_le' (most : Nat) (l : List UInt8) : (numF most l).1 ≤ most := by
  unfold numF
  split
  · exact Nat.zero_le _
  · rename_i h; exact Nat.le_of_not_lt (fun e => h (.inr e))
theorem numF_back (most v : Nat) (r : List UInt8) (h : v ≤ most) (hv : v < 18446744073709551616) : numF most (Lib.uvarint v ++ r) = (v, r, false) := by
  unfold numF
  rw [lead_uv v r hv]
  have := Lib.uvarint_pos v
  rw [if_neg (by simp only; omega)]
  simp
abbrev St := List UInt8 × Bool

def numS (most : Nat) (s : St) : Nat × St := ((numF most s.1).1, ((numF most s.1).2.1, s.2 || (numF most s.1).2.2))

def digS (s : St) : List UInt8 × St := (digF s.1, ((cutF 32 s.1).2.1, s.2 || (cutF 32 s.1).2.2))

def bytS (most : Int) (s : St) : List UInt8 × St := ((bytesF most s.1).1, ((bytesF most s.1).2.1, s.2 || (bytesF most s.1).2.2))

/-- How a part is taken: what it is, if all went right; what was put comes back. -/
structure Takes {α : Type} (take : St → α × St) (enc : α → List UInt8) (ok : α → Prop) : Prop where
  sound : ∀ s, (take s).2.2 = false → s.2 = false ∧ s.1 = enc (take s).1 ++ (take s).2.1 ∧ ok (take s).1
  back : ∀ x t, ok x → take (enc x ++ t, false) = (x, (t, false))

theorem or_no {a b : Bool} (h : (a || b) = false) : a = false ∧ b = false := Bool.or_eq_false_iff.1 h

theorem numF_sound {most : Nat} {l : List UInt8} (h : (numF most l).2.2 = false) : l = Lib.uvarint (numF most l).1 ++ (numF most l).2.1 ∧ (numF most l).1 ≤ most ∧ (numF most l).1 < 18446744073709551616 := by
  unfold numF at h ⊢
  by_cases hc : (lead l).2 = 0 ∨ most < (lead l).1
  · rw [if_pos hc] at h; cases h
  · rw [if_neg hc] at h ⊢
    obtain ⟨v, g, hL⟩ : ∃ v g, lead l = (v, g) := ⟨_, _, rfl⟩
    have hv := (lead_le l).2
    rw [hL] at hc hv ⊢
    simp only [not_or] at hc
    obtain ⟨u, r, h1, h2, h3, _⟩ := leadFrom_sound l 0 0 v g hL hc.1
    have hvu : v = u := by simpa using h3
    subst hvu
    have hg : g = (Lib.uvarint v).length := by omega
    refine ⟨?_, by simp only; omega, hv⟩
    simp only
    rw [h1, hg]
    simp

theorem takes_num (most : Nat) (hm : most < 18446744073709551616) : Takes (numS most) Lib.uvarint (fun v => v ≤ most ∧ v < 18446744073709551616) where
  sound := fun s h => by
    obtain ⟨h1, h2⟩ := or_no h
    obtain ⟨e1, e2, e3⟩ := numF_sound h2
    exact ⟨h1, e1, e2, e3⟩
  back := fun v t h => by
    unfold numS
    rw [numF_back most v t h.1 h.2]
    rfl

theorem takes_dig : Takes digS id (fun d => d.length = 32) where
  sound := fun s h => by
    obtain ⟨h1, h2⟩ := or_no h
    unfold digS
    unfold cutF at h2 ⊢
    unfold digF
    by_cases hl : s.1.length < 32
    · rw [if_pos hl] at h2; cases h2
    · rw [if_neg hl, if_neg hl]
      refine ⟨h1, ?_, by rw [List.length_take]; omega⟩
      simp
  back := fun d t h => by
    unfold digS digF cutF
    have hl : ¬ (d ++ t).length < 32 := by rw [List.length_append]; omega
    dsimp only [id]
    rw [if_neg hl, if_neg hl, ← h, List.take_left, List.drop_left]
    rfl
theorem numS_le (most : Nat) (s : St) : (numS most s).1 ≤ most := numF_le' most s.1

theorem digS_length (s : St) : (digS s).1.length = 32 := digF_length s.1

theorem takes_nm : Takes (bytS 20) (fun e => Lib.uvarint e.length ++ e) (fun e => e.length ≤ 20) where
  sound := fun s h => by
    obtain ⟨h1, h2⟩ := or_no h
    unfold bytS
    unfold bytesF at h2 ⊢
    rw [if_neg (by omega)] at h2 ⊢
    simp only [Int.reduceToNat] at h2 ⊢
    obtain ⟨h3, h4⟩ := or_no h2
    obtain ⟨e1, e2, e3⟩ := numF_sound h3
    unfold cutF at h4 ⊢
    by_cases hl : (numF 20 s.1).2.1.length < (numF 20 s.1).1
    · rw [if_pos hl] at h4; cases h4
    · rw [if_neg hl]
      have hlen : (List.take (numF 20 s.1).1 (numF 20 s.1).2.1).length = (numF 20 s.1).1 := by rw [List.length_take]; omega
      dsimp only
      refine ⟨h1, ?_, by rw [hlen]; exact e2⟩
      rw [hlen, List.append_assoc, List.take_append_drop]
      exact e1
  back := fun e t h => by
    unfold bytS bytesF
    rw [if_neg (by omega)]
    simp only [Int.reduceToNat, List.append_assoc]
    rw [numF_back 20 e.length (e ++ t) h (by omega)]
    unfold cutF
    have hl : ¬ (e ++ t).length < e.length := by rw [List.length_append]; omega
    dsimp only
    rw [if_neg hl]
    simp
def encCl (c : Cl) : List UInt8 := Lib.uvarint c.1 ++ c.2
def encCs (cs : List Cl) : List UInt8 := Lib.uvarint cs.length ++ cs.flatMap encCl
def markV (v : Vol) : Nat := 2 * v.quota + (if v.frozen = true then 1 else 0)
def encVl (v : Vol) : List UInt8 := (Lib.uvarint (vkey v).length ++ vkey v) ++ (Lib.uvarint (markV v) ++ encCs v.cells)
def encV (L : List Vol) : List UInt8 := Lib.uvarint L.length ++ L.flatMap encVl

def lastC (acc : List Cl) : Int := match acc.getLast? with | some c => ((c.1 : Nat) : Int) | none => -1
def cellS (s : St) : Cl × St := (((numS 1048575 s).1, (digS (numS 1048575 s).2).1), (digS (numS 1048575 s).2).2)
def cellsS : Nat → List Cl × St → Option (List Cl × St)
  | 0, x => some x
  | m + 1, x => if (cellS x.2).2.2 = true ∨ (((cellS x.2).1.1 : Nat) : Int) ≤ lastC x.1 then none else cellsS m (x.1 ++ [(cellS x.2).1], (cellS x.2).2)
def takeG (q : Nat) (f : Bool) (r : Option (List Cl × St)) : Option ((Nat × Bool × List Cl) × St) :=
  match r with
  | none => none
  | some x => if x.2.2 = true then none else some ((q, f, x.1), x.2)
def takeV (s : St) : Option ((Nat × Bool × List Cl) × St) :=
  takeG ((numS 2097153 s).1 / 2) (decide ((numS 2097153 s).1 % 2 = 1)) (cellsS (numS ((numS 2097153 s).1 / 2) (numS 2097153 s).2).1 ([], (numS ((numS 2097153 s).1 / 2) (numS 2097153 s).2).2))
def lastV (acc : List Vol) : List UInt8 := match acc.getLast? with | some v => vkey v | none => []
def nmV (s : St) : List UInt8 × St := bytS 20 s
def volsS : Nat → List Vol × St → Option (List Vol × St)
  | 0, x => some x
  | n + 1, x => match takeV (nmV x.2).2 with
    | none => none
    | some (v, t) => if namedB (nmV x.2).1 = false ∨ bytesBefore (lastV x.1) (nmV x.2).1 = false then none else volsS n (x.1 ++ [⟨⟨(nmV x.2).1.toArray⟩, v.1, v.2.1, v.2.2⟩], t)
def finV (r : Option (List Vol × St)) : Option (List Vol) := match r with
  | none => none
  | some (L, t) => if t.2 = true ∨ 0 < t.1.length then none else some L
def decV (most : Nat) (b : List UInt8) : Option (List Vol) := finV (volsS (numS most (b, false)).1 ([], (numS most (b, false)).2))

theorem lastC_nil : lastC [] = -1 := rfl
theorem lastC_snoc (acc : List Cl) (c : Cl) : lastC (acc ++ [c]) = ((c.1 : Nat) : Int) := by unfold lastC; rw [List.getLast?_concat]
theorem lastV_snoc (acc : List Vol) (v : Vol) : lastV (acc ++ [v]) = vkey v := by unfold lastV; rw [List.getLast?_concat]
theorem cellS_sound {s : St} (h : (cellS s).2.2 = false) : s.2 = false ∧ s.1 = encCl (cellS s).1 ++ (cellS s).2.1 ∧ (cellS s).1.1 < 1048576 ∧ (cellS s).1.2.length = 32 := by
  unfold cellS at h ⊢
  dsimp only at h ⊢
  obtain ⟨h1, h2, h3⟩ := takes_dig.sound _ h
  obtain ⟨h4, h5, h6, _⟩ := (takes_num 1048575 (by omega)).sound _ h1
  refine ⟨h4, ?_, by omega, h3⟩
  unfold encCl
  dsimp only
  rw [List.append_assoc, h5]
  congr 1
theorem rise_snoc {acc : List Cl} {c : Cl} (h : Rise acc) (hl : lastC acc < ((c.1 : Nat) : Int)) : Rise (acc ++ [c]) := by
  unfold Rise at *
  rw [List.pairwise_append]
  refine ⟨h, List.pairwise_singleton _ _, fun a ha b hb => ?_⟩
  rw [List.mem_singleton] at hb
  subst hb
  rcases List.eq_nil_or_concat acc with rfl | ⟨l, x, rfl⟩
  · cases ha
  · rw [List.concat_eq_append] at h ha hl
    rw [lastC_snoc] at hl
    rw [List.pairwise_append] at h
    rcases List.mem_append.1 ha with ha | ha
    · have := h.2.2 a ha x (by simp); omega
    · rw [List.mem_singleton] at ha; subst ha; omega
theorem cellsS_sound : ∀ (m : Nat) (acc : List Cl) (s : St) (cs : List Cl) (t : St), cellsS m (acc, s) = some (cs, t) → t.2 = false →
    s.2 = false ∧ ∃ new, cs = acc ++ new ∧ new.length = m ∧ s.1 = new.flatMap encCl ++ t.1 ∧ (∀ c ∈ new, c.1 < 1048576 ∧ c.2.length = 32) ∧ (Rise acc → Rise cs)
  | 0, acc, s, cs, t, h, ht => by
    unfold cellsS at h
    injection h with h
    injection h with h1 h2
    subst h1 h2
    exact ⟨ht, [], by simp, rfl, by simp, by simp, id⟩
  | m + 1, acc, s, cs, t, h, ht => by
    unfold cellsS at h
    dsimp only at h
    by_cases hc : (cellS s).2.2 = true ∨ (((cellS s).1.1 : Nat) : Int) ≤ lastC acc
    · rw [if_pos hc] at h; cases h
    · rw [if_neg hc] at h
      have hf : (cellS s).2.2 = false := by cases hh : (cellS s).2.2 with | false => rfl | true => exact absurd (.inl hh) hc
      have hl : lastC acc < (((cellS s).1.1 : Nat) : Int) := by
        have : ¬ (((cellS s).1.1 : Nat) : Int) ≤ lastC acc := fun e => hc (.inr e)
        omega
      obtain ⟨h1, h2, h3, h4⟩ := cellS_sound hf
      obtain ⟨h5, new, h6, h7, h8, h9, h10⟩ := cellsS_sound m _ _ _ _ h ht
      refine ⟨h1, (cellS s).1 :: new, ?_, by rw [List.length_cons, h7], ?_, ?_, fun hr => h10 (rise_snoc hr hl)⟩
      · rw [h6, List.append_assoc]; rfl
      · rw [List.flatMap_cons, List.append_assoc, ← h8]; exact h2
      · intro c hc
        rcases List.mem_cons.1 hc with rfl | hc
        · exact ⟨h3, h4⟩
        · exact h9 c hc
theorem takeV_sound {s : St} {q : Nat} {f : Bool} {cs : List Cl} {t : St} (h : takeV s = some ((q, f, cs), t)) :
    s.2 = false ∧ t.2 = false ∧ s.1 = (Lib.uvarint (2 * q + (if f = true then 1 else 0)) ++ encCs cs) ++ t.1 ∧ q ≤ 1048576 ∧ cs.length ≤ q ∧ Rise cs ∧ ∀ c ∈ cs, c.1 < 1048576 ∧ c.2.length = 32 := by
  unfold takeV takeG at h
  obtain ⟨s1, hs1⟩ : ∃ z, z = numS 2097153 s := ⟨_, rfl⟩
  obtain ⟨s2, hs2⟩ : ∃ z, z = numS (s1.1 / 2) s1.2 := ⟨_, rfl⟩
  rw [← hs1, ← hs2] at h
  cases hc : cellsS s2.1 ([], s2.2) with
  | none => rw [hc] at h; cases h
  | some r =>
    obtain ⟨cs', t'⟩ := r
    rw [hc] at h
    dsimp only at h
    by_cases ht : t'.2 = true
    · rw [if_pos ht] at h; cases h
    · rw [if_neg ht] at h
      injection h with h
      injection h with h1 h2
      injection h1 with h3 h4
      injection h4 with h4 h5
      subst h2 h5
      have ht' : t'.2 = false := by simpa using ht
      obtain ⟨g1, new, g2, g3, g4, g5, g6⟩ := cellsS_sound _ _ _ _ _ hc ht'
      rw [List.nil_append] at g2
      subst g2
      have hq : s1.1 ≤ 2097153 := by rw [hs1]; exact numS_le _ _
      obtain ⟨k1, k2, k3, _⟩ := (takes_num (s1.1 / 2) (by omega)).sound s1.2 (by rw [← hs2]; exact g1)
      obtain ⟨k4, k5, k6, _⟩ := (takes_num 2097153 (by omega)).sound s (by rw [← hs1]; exact k1)
      rw [← hs2] at k2 k3
      rw [← hs1] at k5 k6
      refine ⟨k4, ht', ?_, by omega, by omega, g6 List.Pairwise.nil, g5⟩
      have hm : 2 * q + (if f = true then 1 else 0) = s1.1 := by
        rw [← h3, ← h4]
        by_cases e : s1.1 % 2 = 1
        · simp [e]; omega
        · simp [e]; omega
      unfold encCs
      rw [hm, k5, k2, g4, g3]
      simp only [List.append_assoc]
theorem bytesBefore_trans {a b c : List UInt8} (h : bytesBefore a b = true) (k : bytesBefore b c = true) : bytesBefore a c = true := by
  rw [bytesBefore_lt] at *
  exact List.lt_trans h k
theorem riseV_snoc {acc : List Vol} {v : Vol} (h : RiseV acc) (hl : bytesBefore (lastV acc) (vkey v) = true) : RiseV (acc ++ [v]) := by
  unfold RiseV at *
  rw [List.pairwise_append]
  refine ⟨h, List.pairwise_singleton _ _, fun a ha b hb => ?_⟩
  rw [List.mem_singleton] at hb
  subst hb
  rcases List.eq_nil_or_concat acc with rfl | ⟨l, x, rfl⟩
  · cases ha
  · rw [List.concat_eq_append] at h ha hl
    rw [lastV_snoc] at hl
    rw [List.pairwise_append] at h
    rcases List.mem_append.1 ha with ha | ha
    · exact bytesBefore_trans (h.2.2 a ha x (by simp)) hl
    · rw [List.mem_singleton] at ha; subst ha; exact hl
theorem volsS_sound : ∀ (n : Nat) (acc : List Vol) (s : St) (L : List Vol) (t : St), volsS n (acc, s) = some (L, t) → t.2 = false →
    s.2 = false ∧ ∃ new, L = acc ++ new ∧ new.length = n ∧ s.1 = new.flatMap encVl ++ t.1 ∧ (∀ v ∈ new, VolOk v) ∧ (RiseV acc → RiseV L)
  | 0, acc, s, L, t, h, ht => by
    unfold volsS at h
    injection h with h
    injection h with h1 h2
    subst h1 h2
    exact ⟨ht, [], by simp, rfl, by simp, by simp, id⟩
  | n + 1, acc, s, L, t, h, ht => by
    unfold volsS at h
    dsimp only at h
    cases hv : takeV (nmV s).2 with
    | none => rw [hv] at h; cases h
    | some r =>
      obtain ⟨⟨q, f, cs⟩, t1⟩ := r
      rw [hv] at h
      dsimp only at h
      by_cases hc : namedB (nmV s).1 = false ∨ bytesBefore (lastV acc) (nmV s).1 = false
      · rw [if_pos hc] at h; cases h
      · rw [if_neg hc] at h
        have hn : namedB (nmV s).1 = true := by cases hh : namedB (nmV s).1 with | true => rfl | false => exact absurd (.inl hh) hc
        have hb : bytesBefore (lastV acc) (nmV s).1 = true := by cases hh : bytesBefore (lastV acc) (nmV s).1 with | true => rfl | false => exact absurd (.inr hh) hc
        obtain ⟨k1, k2, k3, k4, k5, k6, k7⟩ := takeV_sound hv
        obtain ⟨g1, g2, g3⟩ := takes_nm.sound s k1
        obtain ⟨h5, new, h6, h7, h8, h9, h10⟩ := volsS_sound n _ _ _ _ h ht
        refine ⟨g1, _ :: new, by rw [h6, List.append_assoc]; rfl, by rw [List.length_cons, h7], ?_, ?_, fun hr => h10 (riseV_snoc hr (by show bytesBefore (lastV acc) (⟨(nmV s).1.toArray⟩ : ByteArray).data.toList = true; simpa using hb))⟩
        · rw [List.flatMap_cons, List.append_assoc, ← h8]
          unfold encVl markV vkey
          dsimp only
          unfold nmV at k3 ⊢
          rw [g2, k3]
          simp only [List.append_assoc]
        · intro v hv2
          rcases List.mem_cons.1 hv2 with rfl | hv2
          · exact ⟨k4, k5, k6, k7, by simpa using hn⟩
          · exact h9 v hv2
theorem encVl_pos (v : Vol) : 1 ≤ (encVl v).length := by
  unfold encVl
  have := Lib.uvarint_pos (vkey v).length
  simp only [List.length_append]
  omega
theorem flat_pos : ∀ L : List Vol, L.length ≤ (L.flatMap encVl).length
  | [] => by simp
  | v :: L => by
    have := flat_pos L
    have := encVl_pos v
    rw [List.flatMap_cons, List.length_append, List.length_cons]
    omega
theorem volsS_len {n : Nat} {acc : List Vol} {s : St} {L : List Vol} {t : St} (h : volsS n (acc, s) = some (L, t)) (ht : t.2 = false) : n ≤ s.1.length := by
  obtain ⟨_, new, _, h2, h3, _⟩ := volsS_sound _ _ _ _ _ h ht
  have := flat_pos new
  rw [h3, List.length_append]
  omega
theorem finV_some {r : Option (List Vol × St)} {L : List Vol} (h : finV r = some L) : ∃ t : St, r = some (L, t) ∧ t.2 = false ∧ t.1 = [] := by
  unfold finV at h
  cases r with
  | none => cases h
  | some x =>
    obtain ⟨L', t⟩ := x
    dsimp only at h
    by_cases hc : t.2 = true ∨ 0 < t.1.length
    · rw [if_pos hc] at h; cases h
    · rw [if_neg hc] at h
      injection h with h
      subst h
      simp only [not_or] at hc
      exact ⟨t, rfl, by simpa using hc.1, List.length_eq_zero_iff.1 (by omega)⟩
theorem decV_sound {most : Nat} (hm : most < 18446744073709551616) {b : List UInt8} {L : List Vol} (h : decV most b = some L) : encV L = b ∧ (∀ v ∈ L, VolOk v) ∧ RiseV L ∧ L.length ≤ b.length ∧ L.length ≤ most := by
  unfold decV at h
  obtain ⟨t, h1, h2, h3⟩ := finV_some h
  obtain ⟨g1, new, g2, g3, g4, g5, g6⟩ := volsS_sound _ _ _ _ _ h1 h2
  rw [List.nil_append] at g2
  subst g2
  obtain ⟨k1, k2, k3, _⟩ := (takes_num most hm).sound _ g1
  dsimp only at k2
  have hl := flat_pos L
  refine ⟨?_, g5, g6 List.Pairwise.nil, ?_, by rw [g3]; exact k3⟩
  · unfold encV
    rw [k2, g4, h3, g3, List.append_nil]
  · rw [k2, g4, List.length_append, List.length_append]
    omega
theorem decV_same {b : List UInt8} (hb : b.length ≤ 1073741824) : decV 1073741824 b = decV b.length b := by
  unfold decV numS numF
  dsimp only
  by_cases h0 : (lead b).2 = 0
  · rw [if_pos (.inl h0), if_pos (.inl h0)]
  · by_cases h1 : b.length < (lead b).1
    · rw [if_pos (show (lead b).2 = 0 ∨ b.length < (lead b).1 from .inr h1)]
      have hR : finV (volsS 0 ([], ([], false || true))) = none := rfl
      rw [hR]
      by_cases h2 : 1073741824 < (lead b).1
      · rw [if_pos (.inr h2)]; rfl
      · rw [if_neg (by omega)]
        cases hf : finV (volsS (lead b).1 ([], (b.drop (lead b).2, false || false))) with
        | none => rfl
        | some L =>
          obtain ⟨t, e1, e2, e3⟩ := finV_some hf
          have := volsS_len e1 e2
          dsimp only at this
          rw [List.length_drop] at this
          omega
    · rw [if_neg (by omega), if_neg (by omega)]

end Go.Proofs.YtcajhndhjlfmaaaGreat

namespace Go.Proofs.YtcajhndhjlfmaaaGreat
open Go.RowKit
set_option linter.unusedVariables false
variable {lo : Nat}

theorem Turn.fresh {p g : Nat} {a b c : World} (h : Turn p a b) (hw : Wrote g b c) (hg : a.heap.size ≤ g) : Turn p a c :=
  ⟨hw.1.os.trans h.os, hw.1.tape.trans h.tape, hw.1.output.trans h.output, Nat.le_trans h.size hw.1.size,
    fun k hk hne => (hw.1.block k (Nat.lt_of_lt_of_le hk h.size) (fun e => by injection e with e; omega)).trans (h.block k hk hne)⟩

def DigPost (lo p : Nat) (l : List UInt8) (wr : Bool) (w : World) (e : Ending) (w' : World) : Prop :=
  e = .returned (digV (digF l)) ∧ PInL lo w' p (cutF 32 l).2.1 (wr || (cutF 32 l).2.2) ∧ Turn p w w'

theorem byteSize : (Tryz.prog.info? 5).map (·.size) = some 1 := by kernel_rfl

set_option maxHeartbeats 8000000 in
set_option maxRecDepth 100000 in
theorem digest_in (p : Nat) (l : List UInt8) (wr : Bool) (w : World) (h : PInL lo w p l wr) :
    Calls Tryz.prog 64 #[.pointer (some ⟨p, 0, none⟩)] w (DigPost lo p l wr w) := by
  have hp := h.lt
  go_enter Tryz.func64, Tryz.ntmps64
  go_wp2
  obtain ⟨W, hW⟩ : ∃ W, W = (w.alloc (.cells (Lib.byteCells zeros).toArray 29)).alloc (.cells (Lib.byteCells zeros).toArray 29) := ⟨_, rfl⟩
  have hWs : W.heap.size = w.heap.size + 2 := by rw [hW]; simp
  have hWR : W.heap[w.heap.size]? = some (.cells (Lib.byteCells zeros).toArray 29 (0, 0)) := by
    rw [hW, Below.heap_alloc _ _ _ (by simp)]; exact heap_alloc_new w _
  have hWD : W.heap[w.heap.size + 1]? = some (.cells (Lib.byteCells zeros).toArray 29 (0, 0)) := by
    have := heap_alloc_new (w.alloc (.cells (Lib.byteCells zeros).toArray 29)) (.cells (Lib.byteCells zeros).toArray 29)
    rw [hW]; simpa using this
  have hWb : Below w.heap.size w W := by rw [hW]; exact ((Below.refl _ w).alloc (Nat.le_refl _) _).alloc (by simp) _
  have hWp : PInL lo W p l wr := h.kept fun k hk => hWb.block k (by omega)
  have hWt : Turn p w W := by rw [hW]; exact ((Turn.refl p w).alloc _).alloc _
  change Code.wp _ _ _ _ ((w.alloc (.cells (Lib.byteCells zeros).toArray 29)).alloc (.cells (Lib.byteCells zeros).toArray 29))
  rw [← hW]
  clear hW h
  have hcl : Hid ((cutF 32 l).1.length ≤ 32 ∧ (cutF 32 l).1.length = (cutF 32 l).1.length ∧ (splice (Lib.byteCells zeros) 0 (Lib.byteCells (cutF 32 l).1)).toArray = (Lib.byteCells (digF l)).toArray) := by
    unfold cutF digF
    by_cases hc : l.length < 32
    · rw [if_pos hc, if_pos hc]
      exact ⟨by simp, rfl, by simp [splice, Lib.byteCells, zeros]⟩
    · rw [if_neg hc, if_neg hc]
      have h32 : (l.take 32).length = 32 := by rw [List.length_take]; omega
      refine ⟨by simp only; omega, rfl, ?_⟩
      simp only [splice, Lib.byteCells_length, h32]
      rw [List.drop_of_length_le (by simp [Lib.byteCells, zeros])]
      simp
  have hzl : (Lib.byteCells zeros).length = 32 := by simp [Lib.byteCells, zeros]
  have Hzl := Lib.hid hzl
  have HWR := Lib.hid hWR
  have HWD := Lib.hid hWD
  obtain ⟨x, hx⟩ : ∃ x, cutF 32 l = x := ⟨_, rfl⟩
  have hcl2 := hcl.out
  rw [hx] at hcl2
  have Hx := Lib.hid hx
  obtain ⟨r, l2, f⟩ := x
  obtain ⟨hr32, _, hsp⟩ := hcl2
  simp only at hr32 hsp
  have Hsp := Lib.hid hsp
  have HR1 := Lib.hid (byteCells_one r)
  have HRl := Lib.hid (Lib.byteCells_length r)
  clear hzl hWR hWD hx hsp hcl
  go_region_held3 (fun w' => True) (trivial)
    (first
      | (go_at_call 63
         refine (cut_any p 32 l wr _ (by exact hWp) (by omega)).mono ?_
         rintro e w1 ⟨A, c, rfl, h1, h2, h3, hp1, ht1⟩
         rw [Hx.out] at h1 h3 hp1 ⊢
         simp only at h1 h3 hp1 ⊢
         have hD1 := Lib.hid ((ht1.block (w.heap.size + 1) (by simp; omega) (fun e => by injection e with e; omega)).trans HWD.out)
         have hRb1 := Lib.hid ((ht1.block w.heap.size (by simp; omega) (fun e => by injection e with e; omega)).trans HWR.out)
         have hcs := Lib.hid (h3.cells))
      | (refine step_copy_any (by rfl) _ _ _ _ (by rfl) 5 Tryz.underlying42 byteSize _ _ _ _ _ _ (by rfl) (by rfl) (w.heap.size + 1) 0 (Lib.byteCells zeros) 29 hD1.out (Lib.byteCells r) (by rw [HRl.out]; exact (Nat.min_eq_left hr32).symm) (fun hp => ⟨rfl, hcs.out hp⟩) (by rw [HRl.out, Hzl.out]; omega) HR1.out ?_
         intro w2 hw2D hw2))
  have hp1lt := hp1.lt
  have hs1 : w.heap.size + 2 ≤ w1.heap.size := by have := ht1.size; simp at this; omega
  have hs2 := hw2.2
  have hpD : p ≠ w.heap.size + 1 := by omega
  obtain ⟨DV, hDV⟩ : ∃ DV, DV = (Lib.byteCells (digF l)).toArray := ⟨_, rfl⟩
  have hDs : DV.size = 32 := by rw [hDV]; simp [Lib.byteCells, digF_length]
  have hDi : (Tryz.prog.info? 29).map (·.size) = some DV.size := by rw [hDs]; exact digInfo
  have hD1' : DV.all (·.oneCell') = true := by rw [hDV]; simpa using byteCells_one (digF l)
  have hD2 : Hid (w2.heap[w.heap.size + 1]? = some (.cells DV 29 (0, 0))) := by
    show _ = _
    rw [hDV, ← Hsp.out]
    exact hw2D.out
  have hR2 : Hid (w2.heap[w.heap.size]? = some (.cells (Lib.byteCells zeros).toArray 29 (0, 0))) :=
    (hw2.1.block w.heap.size (by omega) (fun e => by injection e with e; omega)).trans hRb1.out
  have hzs : (Lib.byteCells zeros).toArray.size = DV.size := by rw [hDs]; simp [Lib.byteCells, zeros]
  have HDV := Lib.hid hDV
  have Hzs := Lib.hid hzs
  have HDi := Lib.hid hDi
  have HD1 := Lib.hid hD1'
  have hRs : w.heap.size < w2.heap.size := by omega
  have hset : Hid ((w2.setRow w.heap.size DV).heap[w.heap.size]? = some (.cells DV 29 (0, 0))) := setRow_heap w2 w.heap.size _ DV _ _ hR2.out
  clear hDV hDs hzs hDi hD1'
  go_wp2_with (first
    | (refine wpList_load_row rfl _ _ rfl (w.heap.size + 1) rfl 29 DV (0, 0) _ hD2.out Tryz.underlying29 rfl HDi.out ?_)
    | (refine wpList_store_row rfl _ _ _ rfl w.heap.size DV rfl rfl 29 _ hR2.out HDi.out Hzs.out HD1.out ?_))
  refine bodyPost_ret (v := .agg DV) (results_cell_row (by rfl) _ _ w.heap.size 29 DV (0, 0) _ (by rfl) hset.out Tryz.underlying29 rfl HDi.out) rfl ?_
  refine ⟨by unfold digV; rw [HDV.out], ?_, ?_⟩
  · rw [Hx.out]
    exact hp1.kept fun k hk => by
      rw [(Wrote.set w.heap.size w2 DV).1.block k (by omega) (fun e => by injection e with e; omega)]
      exact hw2.1.block k (by omega) (fun e => by injection e with e; omega)
  · have ht : Turn p w w1 := by first | exact hWt.trans ht1 | exact (hWt.drewN 1).trans ht1
    exact (ht.fresh hw2 (by omega)).fresh (Wrote.set w.heap.size w2 DV) (Nat.le_refl _)

end Go.Proofs.YtcajhndhjlfmaaaGreat

namespace Go.Proofs.YtcajhndhjlfmaaaGreat
open Go.RowKit
set_option linter.unusedVariables false
set_option linter.unusedSimpArgs false

variable {lo : Nat}
/-! ### taking, whatever went wrong ahead -/
variable {lo : Nat}
theorem number_fl (p most : Nat) (s : St) (w : World) (h : PInL lo w p s.1 s.2) (hm : most < 18446744073709551616) :
    Calls Tryz.prog 40 #[.pointer (some ⟨p, 0, none⟩), .int .u64 most] w fun e w' => e = .returned (.int .u64 (numS most s).1) ∧ PInL lo w' p (numS most s).2.1 (numS most s).2.2 ∧ Turn p w w' := number_in p most s.1 s.2 w h hm
theorem digest_fl (p : Nat) (s : St) (w : World) (h : PInL lo w p s.1 s.2) :
    Calls Tryz.prog 64 #[.pointer (some ⟨p, 0, none⟩)] w fun e w' => e = .returned (.agg (Lib.byteCells (digS s).1).toArray) ∧ PInL lo w' p (digS s).2.1 (digS s).2.2 ∧ Turn p w w' := digest_in p s.1 s.2 w h

end Go.Proofs.YtcajhndhjlfmaaaGreat

namespace Go.Proofs.YtcajhndhjlfmaaaGreat
open Go.RowKit
set_option linter.unusedVariables false
set_option linter.unusedSimpArgs false

set_option maxRecDepth 100000
theorem insC_last : ∀ (acc : List Cl) (c : Cl), (∀ a ∈ acc, a.1 < c.1) → insC c acc = acc ++ [c]
  | [], c, _ => rfl
  | a :: r, c, h => by
    have h1 := h a List.mem_cons_self
    unfold insC
    rw [if_neg (by omega), insC_last r c fun x hx => h x (List.mem_cons_of_mem _ hx)]
    rfl
theorem putC_last {acc : List Cl} {n : Nat} {f : List UInt8} (h : Rise acc) (hl : lastC acc < ((n : Nat) : Int)) : putC acc n f = acc ++ [(n, f)] := by
  have hr := rise_snoc (c := (n, f)) h hl
  have ha : ∀ a ∈ acc, a.1 < n := fun a ha => by
    unfold Rise at hr
    rw [List.pairwise_append] at hr
    exact hr.2.2 a ha (n, f) (by simp)
  unfold putC delC
  rw [List.filter_eq_self.2 fun c hc => by have := ha c hc; simp; omega]
  exact insC_last acc (n, f) ha
def VTakePost (lo p : Nat) (s : St) (w : World) (e : Ending) (w' : World) : Prop :=
  Turn p w w' ∧ ((takeV s = none ∧ ∃ x, e = .returned (.tuple #[x, .bool false])) ∨
    ∃ q f cs t vb bb, takeV s = some ((q, f, cs), t) ∧ e = .returned (.tuple #[.pointer (some ⟨vb, 0, none⟩), .bool true]) ∧ Arr w' vb 68 [.int .i64 ((q : Nat) : Int), .bool f, .map (some bb)] ∧ w'.ownsMap Tryz.prog 3 digR bb cs.length (cellsD cs) ∧ w.heap.size ≤ vb ∧ w.heap.size ≤ bb ∧ PInL lo w' p t.1 t.2)

set_option maxHeartbeats 8000000 in
theorem take_any (lo p : Nat) (s : St) (w : World) (h : PInL lo w p s.1 s.2) :
    Calls Tryz.prog 42 #[.pointer (some ⟨p, 0, none⟩)] w (VTakePost lo p s w) := by
  have hpw := h.lt
  obtain ⟨td, htd⟩ : ∃ z, (numS 2097153 s).1 = z := ⟨_, rfl⟩
  obtain ⟨s1, hs1⟩ : ∃ z, (numS 2097153 s).2 = z := ⟨_, rfl⟩
  obtain ⟨q, hq⟩ : ∃ z, td / 2 = z := ⟨_, rfl⟩
  obtain ⟨f, hf⟩ : ∃ z, decide (td % 2 = 1) = z := ⟨_, rfl⟩
  obtain ⟨m, hm⟩ : ∃ z, (numS q s1).1 = z := ⟨_, rfl⟩
  obtain ⟨s2, hs2⟩ : ∃ z, (numS q s1).2 = z := ⟨_, rfl⟩
  have htd2 : td ≤ 2097153 := by rw [← htd]; exact numS_le _ _
  have hmq : m ≤ q := by rw [← hm]; exact numS_le _ _
  have hq20 : q ≤ 1048576 := by omega
  obtain ⟨R, hR⟩ : ∃ z, cellsS m ([], s2) = z := ⟨_, rfl⟩
  have HR := Lib.hid hR
  have Htk := Lib.hid (show takeV s = takeG q f R by
    unfold takeV
    rw [htd, hs1, hq, hf, hm, hs2, hR])
  have Hn1 := Lib.hid (number_fl p 2097153 s w h (by omega))
  rw [htd, hs1] at Hn1
  have Hn2 := Lib.hid (fun (w : World) (h : PInL lo w p s1.1 s1.2) => show Calls Tryz.prog 40 #[.pointer (some ⟨p, 0, none⟩), .int .u64 (q : Nat)] w fun e w' => e = .returned (.int .u64 (m : Nat)) ∧ PInL lo w' p s2.1 s2.2 ∧ Turn p w w' by have := number_fl p q s1 w h (by omega); rw [hm, hs2] at this; exact this)
  have hmk := @run_makeMap Tryz.prog
  have hqi : (td : Int) / 2 = (q : Int) := by omega
  have Hqe := Lib.hid (show ((td : Int) % 2 == 1) = f by rw [← hf, Bool.eq_iff_iff]; simp; omega)
  clear htd hs1 hq hf hm hs2 hR h
  go_enter Tryz.func42, Tryz.ntmps42
  go_wp2_with fail
  refine Calls.mono Hn1.out ?_
  rintro e w1 ⟨rfl, hP1, ht1⟩
  go_upto_region 3 with fail
  rw [show ((td : Int) % 2 == 1) = f from Hqe.out]
  obtain ⟨bb, hbb⟩ : ∃ z, z = w1.heap.size := ⟨_, rfl⟩
  rw [← hbb]
  obtain ⟨w2, hw2⟩ : ∃ z, z = (w1.alloc (.map #[] 0)).alloc (.cells #[.int .i64 (q : Nat), .bool f, .map (some bb)] 68) := ⟨_, rfl⟩
  rw [← hw2]
  have hb12 : Below w1.heap.size w1 w2 := by rw [hw2]; exact ((Below.refl _ _).alloc (Nat.le_refl _) _).alloc (by simp) _
  have hv2 : Arr w2 (bb + 1) 68 [.int .i64 (q : Nat), .bool f, .map (some bb)] := by
    have := Arr.new (w1.alloc (.map #[] 0)) 68 [.int .i64 (q : Nat), .bool f, .map (some bb)]
    rw [hw2, hbb]
    rw [hbb] at this
    simpa using this
  have hm2 : w2.ownsMap Tryz.prog 3 digR bb 0 (cellsD []) := by
    rw [hw2, hbb]
    exact (World.ownsMap_made (H := Unit) w1 Tryz.prog 3 digR).alloc _
  have ht12 : Turn p w w2 := ht1.trans ⟨hb12.os, hb12.tape, hb12.output, hb12.size, fun i hi _ => hb12.block i hi⟩
  have hP2 : PInL lo w2 p s1.1 s1.2 := hP1.kept fun i hi => hb12.block i (by have := hP1.lt; omega)
  have hbw : w.heap.size ≤ bb := by rw [hbb]; exact ht1.size
  have hpb : p < bb := by omega
  clear hw2 hb12 hP1 ht1 hbb
  have hd0 := hv2.cell 0
  simp only [List.getElem?_cons_zero] at hd0
  go_wp2_with fail
  refine Calls.mono (Hn2.out w2 hP2) ?_
  rintro e w3 ⟨rfl, hP3, ht3⟩
  have hv3 : Arr w3 (bb + 1) 68 [.int .i64 (q : Nat), .bool f, .map (some bb)] := (ht3.block _ hv2.lt (fun e => by injection e; omega)).trans hv2
  have hm3 := World.ownsMap.at_ hm2 (ht3.block _ (World.ownsMap.lt hm2) (fun e => by injection e; omega))
  have ht3w : Turn p w w3 := ht12.trans ht3
  clear hv2 hm2 ht12 ht3 hP2 hd0 Hn1 Hn2 Hqe hmk
  go_wp2_with fail
  go_loopw [6, 27] (fun lv i wr => ∃ (k : Nat) (acc : List Cl) (s4 : St), k ≤ m ∧ i = .int .u64 (k : Nat) ∧ lv = .int .i64 (lastC acc) ∧ Arr wr (bb + 1) 68 [.int .i64 (q : Nat), .bool f, .map (some bb)] ∧ wr.ownsMap Tryz.prog 3 digR bb acc.length (cellsD acc) ∧ PInL lo wr p s4.1 s4.2 ∧ Hid (cellsS (m - k) (acc, s4) = R) ∧ Hid (Rise acc ∧ acc.length = k) ∧ Turn p w wr) (fun _ i _ => m - (Go.RowKit.intOf i).toNat)
  case atStart => exact ⟨0, [], s2, Nat.zero_le _, rfl, rfl, hv3, hm3, hP3, Lib.hid HR.out, Lib.hid ⟨List.Pairwise.nil, rfl⟩, ht3w⟩
  case round =>
    clear hv3 hm3 hP3 ht3w
    obtain ⟨k, acc, s4, hk, rfl, rfl, hv, hmp, hP, Hrun, Hrl, ht⟩ := hrel
    have hrw : w.heap.size ≤ wr.heap.size := ht.size
    by_cases hlt : k < m
    · have hd1 : decide ((k : Int) < (m : Int)) = true := by simp; omega
      have hd2 : decide (k < m) = true := by simp; omega
      have hrun := Hrun.out
      rw [show m - k = (m - (k + 1)) + 1 by omega] at hrun
      unfold cellsS at hrun
      dsimp only at hrun
      obtain ⟨nn, hnn⟩ : ∃ z, (numS 1048575 s4).1 = z := ⟨_, rfl⟩
      obtain ⟨s5, hs5⟩ : ∃ z, (numS 1048575 s4).2 = z := ⟨_, rfl⟩
      obtain ⟨d, hd⟩ : ∃ z, (digS s5).1 = z := ⟨_, rfl⟩
      obtain ⟨s6, hs6⟩ : ∃ z, (digS s5).2 = z := ⟨_, rfl⟩
      have hcs : cellS s4 = ((nn, d), s6) := by unfold cellS; rw [hs5, hnn, hd, hs6]
      rw [hcs] at hrun
      dsimp only at hrun
      have Hr := Lib.hid hrun
      have hn20 : nn ≤ 1048575 := by rw [← hnn]; exact numS_le _ _
      have hd32 : d.length = 32 := by rw [← hd]; exact digS_length _
      have Hnum := Lib.hid (number_fl p 1048575 s4 wr hP (by omega))
      rw [hnn, hs5] at Hnum
      have Hdig := Lib.hid (fun (w : World) (h : PInL lo w p s5.1 s5.2) => digest_fl p s5 w h)
      rw [hd, hs6] at Hdig
      obtain ⟨DL, hDL⟩ : ∃ z, z = Lib.byteCells d := ⟨_, rfl⟩
      rw [← hDL] at Hdig
      have HDi := Lib.hid (show (Tryz.prog.info? 29).map (·.size) = some DL.toArray.size ∧ (Lib.byteCells zeros).toArray.size = DL.toArray.size by rw [hDL, List.size_toArray, List.size_toArray, Lib.byteCells_length, Lib.byteCells_length, hd32]; exact ⟨digInfo, rfl⟩)
      have HDn := Lib.hid (show (Tryz.prog.info? 29).map (·.size) = some DL.length by rw [hDL, Lib.byteCells_length, hd32]; exact digInfo)
      have HD1 := Lib.hid (show DL.toArray.all (·.oneCell') = true by rw [hDL]; exact dig_one _)
      have Hrd := Lib.hid (show digR (.agg DL.toArray) = some (.lit (.string d), []) by rw [hDL]; exact digR_mk hd32)
      have Hd32 := Lib.hid hd32
      clear hrun Hrun hnn hs5 hd hs6 hcs hP hDL hd32
      go_wp2_with fail
      refine Calls.mono Hnum.out ?_
      rintro e w4 ⟨rfl, hP4, ht4⟩
      go_wp2_with fail
      refine Calls.mono (Hdig.out w4 hP4) ?_
      rintro e w5 ⟨rfl, hP5, ht5⟩
      have hv5 : Arr w5 (bb + 1) 68 [.int .i64 (q : Nat), .bool f, .map (some bb)] := by
        have h4 := (ht4.block _ hv.lt (fun e => by injection e; omega)).trans hv
        exact (ht5.block _ (Nat.lt_of_lt_of_le hv.lt ht4.size) (fun e => by injection e; omega)).trans h4
      have hm5 : w5.ownsMap Tryz.prog 3 digR bb acc.length (cellsD acc) := by
        have h4 := World.ownsMap.at_ hmp (ht4.block _ (World.ownsMap.lt hmp) (fun e => by injection e; omega))
        exact World.ownsMap.at_ h4 (ht5.block _ (World.ownsMap.lt h4) (fun e => by injection e; omega))
      have ht5w := ht.trans (ht4.trans ht5)
      have hrw5 : w.heap.size ≤ w5.heap.size := ht5w.size
      clear Hnum Hdig hP4 ht4 ht5 ht hv hmp
      go_upto_region 7 with (first | (change wpList _ _ _ _ _ (w5.alloc (.cells (Lib.byteCells zeros).toArray 29)); refine wpList_store_row rfl _ _ _ rfl w5.heap.size DL.toArray rfl rfl 29 (Lib.byteCells zeros).toArray (heap_alloc_new w5 _) HDi.out.1 HDi.out.2 HD1.out ?_; obtain ⟨w6, hw6⟩ : ∃ x, x = (w5.alloc (.cells (Lib.byteCells zeros).toArray 29)).setRow w5.heap.size DL.toArray := ⟨_, rfl⟩; rw [← hw6]; obtain ⟨hP6, hb6⟩ := alloc_row w5 29 (Lib.byteCells zeros).toArray DL; rw [← hw6] at hP6 hb6; clear hw6))
      obtain ⟨gd, hgd⟩ : ∃ z, z = w5.heap.size := ⟨_, rfl⟩
      rw [← hgd] at hP6 ⊢
      have hP6x : PInL lo w6 p s6.1 s6.2 := hP5.kept fun i hi => hb6.block i (by have := hP5.lt; omega)
      have hv6 := hv5.up hb6
      have hm6 := World.ownsMap.at_ hm5 (hb6.block _ (World.ownsMap.lt hm5))
      have ht6 : Turn p w w6 := ht5w.trans ⟨hb6.os, hb6.tape, hb6.output, hb6.size, fun i hi _ => hb6.block i hi⟩
      have hgb : gd ≠ bb := by have := World.ownsMap.lt hm5; omega
      have hpg : p < gd := by omega
      obtain ⟨lc, hlc⟩ : ∃ z, lastC acc = z := ⟨_, rfl⟩
      rw [hlc] at Hr ⊢
      have Hlc := Lib.hid hlc
      clear hP5 hv5 hm5 ht5w hb6 hgd hlc
      go_wp2_with fail
      refine Calls.mono (wrong_in p s6.1 s6.2 w6 hP6x) ?_
      rintro e w7 ⟨rfl, hwx⟩
      subst hwx
      obtain ⟨wf, hwf⟩ : ∃ z, s6.2 = z := ⟨_, rfl⟩
      rw [hwf] at Hr ⊢
      have Hwf := Lib.hid hwf
      clear hwf
      cases wf with
      | true =>
        have Hno := Lib.hid (show takeV s = none by rw [Htk.out, ← Hr.out, if_pos (.inl rfl)]; rfl)
        clear hP6 hv6 hm6 Hr
        go_wp2_with fail
        go_ret2
        exact ⟨ht6, .inl ⟨Hno.out, _, rfl⟩⟩
      | false =>
        by_cases hle : (nn : Int) ≤ lc
        · have hd3 : decide ((nn : Int) ≤ lc) = true := by simpa using hle
          have Hno := Lib.hid (show takeV s = none by rw [Htk.out, ← Hr.out, if_pos (.inr hle)]; rfl)
          clear hP6 hv6 hm6 Hr hle
          go_wp2_with fail
          go_ret2
          exact ⟨ht6, .inl ⟨Hno.out, _, rfl⟩⟩
        · have hd3 : decide ((nn : Int) ≤ lc) = false := by simpa using hle
          have Hnx := Lib.hid (show cellsS (m - (k + 1)) (acc ++ [(nn, d)], s6) = R by rw [← Hr.out, if_neg (by simpa using hle)])
          have Hput := Lib.hid (putC_last (f := d) Hrl.out.1 (show lastC acc < ((nn : Nat) : Int) by rw [Hlc.out]; omega))
          have Hrise := Lib.hid (show Rise (acc ++ [(nn, d)]) ∧ (acc ++ [(nn, d)]).length = k + 1 from ⟨rise_snoc (c := (nn, d)) Hrl.out.1 (show lastC acc < ((nn : Nat) : Int) by rw [Hlc.out]; omega), by rw [List.length_append, Hrl.out.2]; rfl⟩)
          have hroom : acc.length < maxLen := by rw [Hrl.out.2]; unfold maxLen; omega
          have Hkey := Lib.hid (keyOf_num (n := (nn : Nat)) (by omega) (by omega))
          clear Hr hle
          go_upto_region 9 with fail
          refine wp_region_held_drew (S := (fun w' => Arr w' (bb + 1) 68 [.int .i64 (q : Nat), .bool f, .map (some bb)] ∧ Arr w' gd 29 DL)) (by kernel_rfl) ⟨hv6, hP6⟩ (fun hHeld => ?_)
          refine anyH_take (i := 0) (v := (.pointer (some ⟨bb + 1, 0, none⟩))) (some 41) rfl rfl (by kernel_rfl) (by kernel_rfl) (by kernel_rfl) (fun _ _ _ h => h) (Or.inl ⟨by rfl, fun w' hw => by (go_simp)⟩) (by assumption) ?_
          simp only [Act.put, List.setIfInBounds_toArray, List.set_cons_zero, List.set_cons_succ]
          refine anyH_take (i := 1) (v := (.pointer (some ⟨bb + 1, 0, none⟩))) (some 42) rfl rfl (by kernel_rfl) (by kernel_rfl) (by kernel_rfl) (fun _ _ _ h => h) (Or.inl ⟨by rfl, fun w' hw => by (go_simp)⟩) (by assumption) ?_
          simp only [Act.put, List.setIfInBounds_toArray, List.set_cons_zero, List.set_cons_succ]
          refine anyH_take (i := 2) (v := (.pointer (some ⟨bb + 1, 2, none⟩))) (some 43) rfl rfl (by kernel_rfl) (by kernel_rfl) (by kernel_rfl) (fun _ _ _ h => h) (Or.inl ⟨by rfl, fun w' hw => by (go_simp)⟩) (by assumption) ?_
          simp only [Act.put, List.setIfInBounds_toArray, List.set_cons_zero, List.set_cons_succ]
          refine anyH_take (i := 3) (v := (.map (some bb))) (some 44) rfl rfl (by kernel_rfl) (by kernel_rfl) (by kernel_rfl) (fun _ _ _ h => h) (Or.inl ⟨by rfl, fun w' hw => by (have hcc := hw.1.cell 2; simp only [List.getElem?_cons_succ, List.getElem?_cons_zero] at hcc; go_simp)⟩) (by assumption) ?_
          simp only [Act.put, List.setIfInBounds_toArray, List.set_cons_zero, List.set_cons_succ]
          refine anyH_take (i := 4) (v := (.int .i64 (nn : Nat))) (some 45) rfl rfl (by kernel_rfl) (by kernel_rfl) (by kernel_rfl) (fun _ _ _ h => h) (Or.inl ⟨by rfl, fun w' hw => by (go_simp)⟩) (by assumption) ?_
          simp only [Act.put, List.setIfInBounds_toArray, List.set_cons_zero, List.set_cons_succ]
          refine anyH_take (i := 5) (some 46) rfl rfl (by kernel_rfl) (by kernel_rfl) (by kernel_rfl) (fun _ _ _ h => h) (yieldsIf_load_mid (by rfl) 29 (.tmp 8) rfl gd 0 rfl DL _ (fun w' h => (h.2).range) Tryz.underlying29 rfl HDn.out) (by assumption) ?_
          simp only [Act.put, List.setIfInBounds_toArray, List.set_cons_zero, List.set_cons_succ]
          refine wpAnyH_ready (rs := [6]) (by kernel_rfl) (by simp) ?_
          refine AllReadyH.cons rfl (fun K hK => ?_) AllReadyH.nil
          rw [if_pos (by rfl)]
          refine wp_mapUpdate_to rfl _ _ _ 66 rfl 3 29 intKeyed Tryz.underlying66 digR bb acc.length (cellsD acc) rfl (World.ownsMap.at_ hm6 (by rfl)) hroom _ _ _ rfl rfl Hkey.out _ [] Hrd.out ?_
          intro w8 hown hg8
          rw [cellsD_put] at hown
          have hS8 : Arr w8 (bb + 1) 68 [.int .i64 (q : Nat), .bool f, .map (some bb)] ∧ Arr w8 gd 29 DL := ⟨(hg8.block _ hv6.lt (fun e => by injection e; omega)).trans hv6, (hg8.block _ hP6.lt (fun e => by injection e; omega)).trans hP6⟩
          refine hK.out _ _ hS8 (fun hHeldq => ?_)
          clear hK K hHeldq
          try simp only [Act.put, List.setIfInBounds_toArray, List.set_cons_zero, List.set_cons_succ]
          refine wpAnyH_done (by kernel_rfl) ?_ _
          have hown8 := World.ownsMap.tight hown
          rw [cellsD_size, Hput.out] at hown8
          have ht8 : Turn p w w8 := by
            have h68 := hg8
            exact ⟨h68.os.trans ht6.os, h68.tape.trans ht6.tape, h68.output.trans ht6.output, Nat.le_trans ht6.size h68.size, fun i hi hn => (h68.block i (show i < w6.heap.size by have := ht6.size; omega) (fun e => by injection e; omega)).trans (ht6.block i hi hn)⟩
          have hP8 : PInL lo w8 p s6.1 false := by
            have h68 := hg8
            rw [← Hwf.out]
            exact hP6x.kept fun i hi => h68.block i (show i < w6.heap.size by have := hP6x.lt; omega) (fun e => by injection e; omega)
          have hv8 := hS8.1
          clear hHeld hown hg8 hS8 hP6 hv6 hm6 ht6 hP6x
          go_wp2_with fail
          go_roundw
          case rel => exact ⟨k + 1, acc ++ [(nn, d)], s6, by omega, by go_num, by rw [lastC_snoc], hv8, hown8, by rw [Hwf.out]; exact hP8, Hnx, Hrise, ht8⟩
          case measure => simp [Go.RowKit.intOf]; omega
    · obtain rfl : k = m := by omega
      have hd1 : decide ((k : Int) < (k : Int)) = false := by simp
      have hd2 : decide (k < k) = false := by simp
      have Hfin := Lib.hid (show R = some (acc, s4) by rw [← Hrun.out, Nat.sub_self]; rfl)
      go_wp2_with fail
      refine Calls.mono (wrong_in p s4.1 s4.2 wr hP) ?_
      rintro e w7 ⟨rfl, hwx⟩
      subst hwx
      obtain ⟨wf, hwf⟩ : ∃ z, s4.2 = z := ⟨_, rfl⟩
      rw [hwf]
      cases wf with
      | true =>
        have Hno := Lib.hid (show takeV s = none by rw [Htk.out, Hfin.out]; unfold takeG; dsimp only; rw [if_pos hwf])
        clear hwf
        go_wp2_with fail
        go_ret2
        exact ⟨ht, .inl ⟨Hno.out, _, rfl⟩⟩
      | false =>
        have Hyes := Lib.hid (show takeV s = some ((q, f, acc), s4) by rw [Htk.out, Hfin.out]; unfold takeG; dsimp only; rw [if_neg (by rw [hwf]; simp)])
        clear hwf
        go_wp2_with fail
        go_ret2
        exact ⟨ht, .inr ⟨q, f, acc, s4, bb + 1, bb, Hyes.out, rfl, hv, hmp, by omega, hbw, hP⟩⟩

end Go.Proofs.YtcajhndhjlfmaaaGreat

namespace Go.Proofs.YtcajhndhjlfmaaaGreat
open Go.RowKit
set_option linter.unusedVariables false
set_option linter.unusedSimpArgs false

set_option maxRecDepth 100000
/-- A volume more: its blocks are new, the set's map turns. -/
theorem SetQ.addT {w w1 w2 : World} {F : Nat → Prop} {s mb : Nat} {M : List Vm} (h : SetQ w F s mb M) {x : Vm} (hx : VmOk w1 x) (hsz1 : w.heap.size ≤ w1.heap.size) (hb : ∀ b, F b → w1.heap[b]? = w.heap[b]?) (h1 : w.heap.size ≤ x.vb) (h2 : w.heap.size ≤ x.bb) (hn : hasM M x.v.name = false)
    {n : Nat} (hm : w2.ownsMap Tryz.prog 9 ptrR mb n ((ptrD M).put (.string x.v.name.data.toList) (.lit (.int .i64 (x.vb : Nat))))) (hg : w1.grownBy w2 (some mb)) : SetQ w2 (newF F w w2) s mb (insM x M) := by
  have hmlt := h.Flt mb h.Fm
  have hkeep : ∀ b, F b → b ≠ mb → w2.heap[b]? = w.heap[b]? := fun b hF hne => by
    have := h.Flt b hF
    rw [hg.block b (by omega) fun e => hne (by injection e with e), hb b hF]
  have hsz : w.heap.size ≤ w2.heap.size := Nat.le_trans hsz1 hg.size
  have hxv : x.vb < w1.heap.size := hx.hv.lt
  have hxb : x.bb < w1.heap.size := World.ownsMap.lt hx.hc
  have hmap : ∀ {b : Nat} {T : TypeId} {c : List Value}, Arr w b T c → b ≠ mb := fun {b T c} ha e => by
    obtain ⟨es, clock, hb, _⟩ := h.hm
    rw [e] at ha
    have := ha.symm.trans hb
    cases this
  rw [ptrD_put hn] at hm
  have hm' := World.ownsMap.tight hm
  rw [ptrD_size] at hm'
  have hlt : ∀ m ∈ M, m.vb < w.heap.size ∧ m.bb < w.heap.size := fun m hm => ⟨h.Flt _ (h.Fv m hm).1, h.Flt _ (h.Fv m hm).2⟩
  have hno : ∀ c ∈ M, key c ≠ key x := fun c hc e => by
    unfold hasM at hn
    have := List.any_eq_false.1 hn c hc
    simp only [decide_eq_true_eq] at this
    exact this e
  refine { hs := (hkeep s h.Fs (hmap h.hs)).trans h.hs, hm := hm', vm := ?_, rs := insM_rise h.rs hno, dj := ?_, mne := ?_, Fs := .inl h.Fs, Fm := .inl h.Fm, Fv := ?_, Flt := newF_lt h.Flt hsz }
  · intro c hc
    rcases insM_mem.1 hc with rfl | hc
    · exact hx.kept (hg.block _ hxv fun e => by injection e with e; omega) (hg.block _ hxb fun e => by injection e with e; omega)
    · exact (h.vm c hc).kept (hkeep _ (h.Fv c hc).1 (hmap (h.vm c hc).hv)) (hkeep _ (h.Fv c hc).2 (h.mne c hc))
  · refine insM_pair (fun a b h => ⟨h.1.symm, h.2.symm⟩) h.dj fun c hc => ⟨?_, ?_⟩
    · have := (hlt c hc).1; omega
    · have := (hlt c hc).2; omega
  · intro c hc
    rcases insM_mem.1 hc with rfl | hc
    · omega
    · exact h.mne c hc
  · intro c hc
    rcases insM_mem.1 hc with rfl | hc
    · exact ⟨.inr ⟨h1, by have := hg.size; omega⟩, .inr ⟨h2, by have := hg.size; omega⟩⟩
    · exact ⟨.inl (h.Fv c hc).1, .inl (h.Fv c hc).2⟩

theorem wpList_convertD {P : Program} {ops : Array Oper} {rest : List Oper} {o : Oper} {a : Act} {w : World} {Q : Exit → Act → World → Prop} (hg : o.guard = none) (src dst : TypeId) (x : Operand) (ho : o.op = .convert src dst x) (X v : Value) (hx : a.eval x = X) (hr : (convert src dst X).run P w = .ok v w)
    (h : wpList P ops Q rest (a.put o.dst v) w) : wpList P ops Q (o :: rest) a w := by
  refine wpList_plain hg fun K hK => ?_
  unfold Oper.wp execOp
  simp only [ho, hx, Sem.run_bind, hr, Result.andThen_ok]
  exact hK _ _ h
theorem bytes_fl {lo : Nat} (p : Nat) (s : St) (w : World) (h : PInL lo w p s.1 s.2) :
    Calls Tryz.prog 41 #[.pointer (some ⟨p, 0, none⟩), .int .i64 20] w fun e w' => ∃ A c, e = .returned (.slice A (nmV s).1.length c) ∧ (nmV s).1.length ≤ c ∧ c ≤ maxLen ∧ Bs w' p A (nmV s).1 ∧ PInL lo w' p (nmV s).2.1 (nmV s).2.2 ∧ Turn p w w' := by
  refine (bytes_inL p 20 s.1 s.2 w h (by omega) (by omega)).mono ?_
  rintro e w1 ⟨A, c, rfl, h1, h2, h3, h4, h5, h6⟩
  exact ⟨A, c, rfl, h1, h2, h3, h4, h5⟩
theorem insV_last : ∀ (acc : List Vol) (x : Vol), (∀ a ∈ acc, bytesBefore (vkey a) (vkey x) = true) → insV x acc = acc ++ [x]
  | [], x, _ => rfl
  | a :: r, x, h => by
    have h1 := h a List.mem_cons_self
    unfold insV
    have h2 : ¬ bytesBefore (vkey x) (vkey a) = true := fun e => by
      rw [bytesBefore_lt] at e h1
      exact absurd (List.lt_trans h1 e) (List.lt_irrefl _)
    rw [if_neg h2, insV_last r x fun y hy => h y (List.mem_cons_of_mem _ hy)]
    rfl
theorem rise_all {acc : List Vol} {v : Vol} (h : RiseV (acc ++ [v])) : ∀ a ∈ acc, bytesBefore (vkey a) (vkey v) = true := fun a ha => by
  unfold RiseV at h
  rw [List.pairwise_append] at h
  exact h.2.2 a ha v (by simp)
theorem nm_lenD (s : St) : (nmV s).1.length ≤ 20 := by
  unfold nmV bytS bytesF
  rw [if_neg (by omega)]
  simp only [Int.reduceToNat]
  unfold cutF
  have h1 := numF_le' 20 s.1
  split
  · simp
  · rw [List.length_take]; omega
theorem bytesLess_beforeD : ∀ (x y : List UInt8), Op.bytesLess x y = bytesBefore x y
  | [], [] => rfl
  | _ :: _, [] => rfl
  | [], _ :: _ => rfl
  | a :: x, b :: y => by simp only [Op.bytesLess, bytesBefore, bytesLess_beforeD x y]

theorem ba_lessD (a b : ByteArray) : Op.bytesLess a.toList b.toList = bytesBefore a.data.toList b.data.toList := by
  rw [bytesLess_beforeD, ba_toList, ba_toList]

theorem before_leq : ∀ (a b : List UInt8), (bytesBefore a b || a == b) = !bytesBefore b a
  | [], [] => rfl
  | [], _ :: _ => rfl
  | _ :: _, [] => rfl
  | x :: a, y :: b => by
    have ih := before_leq a b
    unfold bytesBefore
    rcases Nat.lt_trichotomy x.toNat y.toNat with h | h | h
    · have h1 : x < y := UInt8.lt_iff_toNat_lt.2 h
      have h2 : ¬ y < x := fun e => by have := UInt8.lt_iff_toNat_lt.1 e; omega
      have h3 : ¬ y = x := fun e => by subst e; omega
      simp [h1, h2, h3]
    · have h1 : x = y := UInt8.toNat_inj.1 h
      subst h1
      have h2 : ¬ x < x := fun e => by have := UInt8.lt_iff_toNat_lt.1 e; omega
      simp only [h2, decide_false, beq_self_eq_true, Bool.true_and, Bool.false_or]
      rw [← ih]
      simp
    · have h1 : y < x := UInt8.lt_iff_toNat_lt.2 h
      have h2 : ¬ x < y := fun e => by have := UInt8.lt_iff_toNat_lt.1 e; omega
      have h3 : ¬ x = y := fun e => by subst e; omega
      simp [h1, h2, h3]
def VDecPost (n : Nat) (b : List UInt8) (w : World) (e : Ending) (w' : World) : Prop :=
  Below w.heap.size w w' ∧ ((decV n b = none ∧ e = .returned (.tuple #[.pointer none, .int .i64 3])) ∨
    ∃ L s F, decV n b = some L ∧ e = .returned (.tuple #[.pointer (some ⟨s, 0, none⟩), .int .i64 0]) ∧ SetL w' F s L ∧ ∀ b, F b → w.heap.size ≤ b)

set_option maxHeartbeats 8000000 in
theorem decode_any (A : Option Addr) (n c : Nat) (b : List UInt8) (hn : b.length = n) (hc : n ≤ c) (hm : c ≤ maxLen) (hlim : n ≤ 10000000000) (w : World) (hb : Bs w w.heap.size A b) :
    Calls Tryz.prog 17 #[.slice A n c] w (VDecPost n b w) := by
  have Hfrom := Lib.hid (from_anyL w.heap.size A c b w hb (by omega))
  rw [hn] at Hfrom
  obtain ⟨R, hR⟩ : ∃ z, decV n b = z := ⟨_, rfl⟩
  have HR := Lib.hid hR
  obtain ⟨N, hN⟩ : ∃ z, (numS n (b, false)).1 = z := ⟨_, rfl⟩
  obtain ⟨s1, hs1⟩ : ∃ z, (numS n (b, false)).2 = z := ⟨_, rfl⟩
  have HRv := Lib.hid (show finV (volsS N ([], s1)) = R by rw [← hR, ← hN, ← hs1]; rfl)
  have hNn : N ≤ n := by rw [← hN]; exact numS_le _ _
  have Hnum := Lib.hid (fun (lo p : Nat) (w : World) (h : PInL lo w p b false) => show Calls Tryz.prog 40 #[.pointer (some ⟨p, 0, none⟩), .int .u64 (n : Nat)] w fun e w' => e = .returned (.int .u64 (N : Nat)) ∧ PInL lo w' p s1.1 s1.2 ∧ Turn p w w' by have := number_fl p n (b, false) w h (by omega); rw [hN, hs1] at this; exact this)
  clear hb hN hs1 hR hn
  go_enter Tryz.func17, Tryz.ntmps17
  go_wp2_with fail
  refine Calls.mono Hfrom.out ?_
  rintro e w1 ⟨p, rfl, hp1, hP1, hb1⟩
  have hp1s := hP1.lt
  go_wp2_with fail
  refine Calls.mono (vnew_any w1) ?_
  rintro e w2 ⟨s, rfl, hs2, hS2, hb2⟩
  have hF2 : ∀ b, newF (fun _ => False) w1 w2 b → p < b := fun b h => h.elim (fun h => h.elim) fun h => by have := h.1; omega
  obtain ⟨F2, hFe⟩ : ∃ z, z = newF (fun _ => False) w1 w2 := ⟨_, rfl⟩
  rw [← hFe] at hF2 hS2
  have hP2 : PInL w.heap.size w2 p b false := hP1.kept fun i hi => hb2.block i (by omega)
  have hbw2 : Below w.heap.size w w2 := hb1.trans (hb2.mono hb1.size)
  clear hFe hP1 hb1 hb2 Hfrom
  go_wp2_with fail
  refine Calls.mono (Hnum.out _ p w2 hP2) ?_
  rintro e w3 ⟨rfl, hP3, ht3⟩
  have hS3 : SetL w3 F2 s [] := hS2.only (R := fun k => k = p) ⟨ht3.os, ht3.tape, ht3.output, ht3.size, fun i hi hn => ht3.block i hi (fun e => by injection e with e; exact hn (by omega))⟩ fun k hk e => by have := hF2 k hk; omega
  have hbw3 : Below w.heap.size w w3 := hbw2.trans (ht3.below hbw2.size hp1)
  clear hP2 ht3 hS2 hbw2 Hnum
  go_wp2_with fail
  go_loopw [6, 18] (fun lv i wr => ∃ (k : Nat) (acc : List Vol) (F : Nat → Prop) (s4 : St), k ≤ N ∧ i = .int .u64 (k : Nat) ∧ lv = .string ⟨(lastV acc).toArray⟩ ∧ SetL wr F s acc ∧ Hid (∀ b, F b → p < b) ∧ PInL w.heap.size wr p s4.1 s4.2 ∧ Hid (finV (volsS (N - k) (acc, s4)) = R) ∧ Hid (RiseV acc ∧ acc.length = k) ∧ Below w.heap.size w wr) (fun _ i _ => N - (Go.RowKit.intOf i).toNat)
  case atStart => exact ⟨0, [], F2, s1, Nat.zero_le _, rfl, rfl, hS3, Lib.hid hF2, hP3, Lib.hid HRv.out, Lib.hid ⟨List.Pairwise.nil, rfl⟩, hbw3⟩
  case round =>
    clear hS3 hF2 hP3 hbw3
    obtain ⟨k, acc, F, s4, hk, rfl, rfl, hS, HF, hP, Hrun, Hrl, hbw⟩ := hrel
    have hpr := hP.lt
    by_cases hlt : k < N
    · have hd1 : decide ((k : Int) < (N : Int)) = true := by simp; omega
      have hd2 : decide (k < N) = true := by simp; omega
      have hrun := Hrun.out
      rw [show N - k = (N - (k + 1)) + 1 by omega] at hrun
      unfold volsS at hrun
      dsimp only at hrun
      have hnl := nm_lenD s4
      have Hby := Lib.hid (bytes_fl p s4 wr hP)
      obtain ⟨nm, hnm⟩ : ∃ z, (nmV s4).1 = z := ⟨_, rfl⟩
      obtain ⟨s5, hs5⟩ : ∃ z, (nmV s4).2 = z := ⟨_, rfl⟩
      rw [hnm, hs5] at hrun Hby
      rw [hnm] at hnl
      obtain ⟨ln, hln⟩ : ∃ z, nm.length = z := ⟨_, rfl⟩
      rw [hln] at Hby hnl
      have Hln := Lib.hid hln
      have Hr := Lib.hid hrun
      have Htk := Lib.hid (fun (w' : World) (h : PInL w.heap.size w' p s5.1 s5.2) => take_any w.heap.size p s5 w' h)
      have HS := Lib.hid hS
      clear hrun Hrun hnm hs5 hP hln hS
      go_wp2_with fail
      refine Calls.mono Hby.out ?_
      rintro e w4 ⟨An, cn, rfl, hn1, hn2, hBs, hP4, ht4⟩
      have hcv := str_of_bs (P := Tryz.prog) cn hBs Hln.out 42 9 5 Tryz.underlying42 Tryz.underlying5 Tryz.underlying9
      go_upto_region 7 with (first | ((with_reducible refine wpList_at 22 (by rfl) ?_); refine wpList_convertD rfl _ _ _ rfl _ _ rfl hcv ?_))
      clear hcv hBs Hby
      go_wp2_with fail
      refine Calls.mono (Htk.out w4 hP4) ?_
      rintro e w5 ⟨ht5, hcase⟩
      have ht5w := ht4.trans ht5
      have HS5 := Lib.hid (HS.out.only (R := fun k => k = p) ⟨ht5w.os, ht5w.tape, ht5w.output, ht5w.size, fun i hi hn => ht5w.block i hi (fun e => by injection e with e; exact hn (by omega))⟩ fun k hk e => by have := HF.out k hk; omega)
      have hbw5 : Below w.heap.size w w5 := hbw.trans (ht5w.below hbw.size hp1)
      have HS4 := Lib.hid (HS.out.only (R := fun k => k = p) ⟨ht4.os, ht4.tape, ht4.output, ht4.size, fun i hi hn => ht4.block i hi (fun e => by injection e with e; exact hn (by omega))⟩ fun k hk e => by have := HF.out k hk; omega)
      have H45 := Lib.hid (show ∀ b, F b → b < w4.heap.size → w5.heap[b]? = w4.heap[b]? from fun b hb hlt => ht5.block b hlt fun e => by injection e with e; have := HF.out b hb; omega)
      have hs45 : w4.heap.size ≤ w5.heap.size := ht5.size
      have hp4 : p < w4.heap.size := hP4.lt
      clear ht4 ht5 hP4 hbw Htk HS5
      obtain ⟨lv, hlv⟩ : ∃ z, lastV acc = z := ⟨_, rfl⟩
      rw [hlv] at Hr ⊢
      have Hlv := Lib.hid hlv
      clear hlv
      rcases hcase with ⟨htn, x, rfl⟩ | ⟨q, f, cs, t, vb, bb, htk, rfl, hvb, hmb, hvl, hbl, hP5⟩
      · have Hno := Lib.hid (show R = none by rw [← Hr.out, htn]; rfl)
        clear htn Hr
        go_wp2_with fail
        go_ret2
        exact ⟨hbw5, .inl ⟨by rw [HR.out]; exact Hno.out, rfl⟩⟩
      · have Htv := Lib.hid htk
        rw [htk] at Hr
        dsimp only at Hr
        have hsz20 : (⟨nm.toArray⟩ : ByteArray).size ≤ maxLen := by
          have e : (⟨nm.toArray⟩ : ByteArray).size = nm.length := by simp [ByteArray.size]
          rw [e, Hln.out]; unfold maxLen; omega
        obtain ⟨nb, hnb⟩ : ∃ z, namedB nm = z := ⟨_, rfl⟩
        have Hmay := Lib.hid (mayName_any ⟨nm.toArray⟩ hsz20 w5 nb (by rw [← hnb]))
        obtain ⟨bf, hbf⟩ : ∃ z, bytesBefore lv nm = z := ⟨_, rfl⟩
        have hcmp : (Op.bytesLess nm lv || nm == lv) = !bf := by rw [bytesLess_beforeD, ← hbf]; exact before_leq nm lv
        rw [hnb, hbf] at Hr
        have Hnb := Lib.hid hnb
        have Hbf := Lib.hid hbf
        have Hszm := Lib.hid hsz20
        have Hvb := Lib.hid hvb
        have Hmb := Lib.hid hmb
        clear htk hnb hbf hsz20 hvb hmb
        go_wp2_with fail
        refine Calls.mono Hmay.out ?_
        rintro e w6 ⟨rfl, hwx⟩
        subst hwx
        cases nb with
        | false =>
          have Hno := Lib.hid (show R = none by rw [← Hr.out, if_pos (.inl rfl)]; rfl)
          clear Hr
          go_wp2_with fail
          go_ret2
          exact ⟨hbw5, .inl ⟨by rw [HR.out]; exact Hno.out, rfl⟩⟩
        | true =>
          cases bf with
          | false =>
            have Hno := Lib.hid (show R = none by rw [← Hr.out, if_pos (.inr rfl)]; rfl)
            clear Hr
            go_wp2_with fail
            go_ret2
            exact ⟨hbw5, .inl ⟨by rw [HR.out]; exact Hno.out, rfl⟩⟩
          | true =>
            have Hnx := Lib.hid (show finV (volsS (N - (k + 1)) (acc ++ [⟨⟨nm.toArray⟩, q, f, cs⟩], t)) = R by rw [← Hr.out, if_neg (by simp)])
            obtain ⟨k1, k2, k3, k4, k5, k6, k7⟩ := takeV_sound Htv.out
            have hvok : VolOk ⟨⟨nm.toArray⟩, q, f, cs⟩ := ⟨k4, k5, k6, k7, Hnb.out⟩
            have Hrs := Lib.hid (riseV_snoc (v := ⟨⟨nm.toArray⟩, q, f, cs⟩) Hrl.out.1 (by rw [Hlv.out]; exact Hbf.out))
            have Hlast := Lib.hid (show lastV (acc ++ [⟨⟨nm.toArray⟩, q, f, cs⟩]) = nm by rw [lastV_snoc]; rfl)
            have Hins := Lib.hid (insV_last acc ⟨⟨nm.toArray⟩, q, f, cs⟩ (rise_all Hrs.out))
            obtain ⟨M, ⟨mb, hQ⟩, hvs⟩ := HS4.out
            have hh : hasM M ⟨nm.toArray⟩ = false := by
              rw [← vs_has, hvs]
              cases hhv : hasV acc ⟨nm.toArray⟩ with
              | false => rfl
              | true =>
                unfold hasV at hhv
                obtain ⟨u, hu, e⟩ := List.any_eq_true.1 hhv
                have h1 := rise_all Hrs.out u hu
                have h2 : vkey u = nm := by simpa using e
                rw [h2] at h1
                have h3 : bytesBefore nm nm = true := h1
                rw [bytesBefore_lt] at h3
                exact absurd h3 (List.lt_irrefl _)
            have hvk : VmOk w5 ⟨⟨⟨nm.toArray⟩, q, f, cs⟩, vb, bb⟩ := ⟨Hvb.out, Hmb.out, hvok⟩
            have hFb : ∀ b, F b → w5.heap[b]? = w4.heap[b]? := fun b hb => H45.out b hb (hQ.Flt b hb)
            have hmbp : p < mb := HF.out mb hQ.Fm
            have hown : w5.ownsMap Tryz.prog 9 ptrR mb M.length (ptrD M) := World.ownsMap.at_ hQ.hm (hFb mb hQ.Fm)
            have hroom : M.length < maxLen := by have h1 := Hrl.out.2; rw [← hvs, vs_length] at h1; unfold maxLen; omega
            have hs5 : Arr w5 s 52 [.map (some mb)] := (hFb s hQ.Fs).trans hQ.hs
            have hc0 := hs5.cell 0
            simp only [List.getElem?_cons_zero] at hc0
            have Hadd := Lib.hid (fun (w8 : World) (n8 : Nat) h1 h2 => SetQ.addT (w2 := w8) (n := n8) hQ hvk hs45 hFb hvl hbl hh h1 h2)
            have Hvs := Lib.hid hvs
            have Hkey := Lib.hid (keyOf_name Hszm.out)
            clear hQ hvs hFb hvk hh hvok k1 k2 k3 k4 k5 k6 k7 hs5 Hr
            go_wp2_with (at_mapUpdate; refine wpList_mapUpdate_own _ rfl _ _ _ 50 rfl 9 62 strKeyed Tryz.underlying50 ptrR mb M.length (ptrD M) rfl hown hroom _ _ _ rfl rfl Hkey.out _ [] (ptrR_mk _) ?_)
            intro w8 hown8 hg8
            have hfin := Hadd.out w8 _ hown8 hg8
            have hP8 : PInL w.heap.size w8 p t.1 t.2 := hP5.kept fun i hi => hg8.block i (by omega) (fun e => by injection e; omega)
            have hb8 : Below w.heap.size w w8 := hbw5.grown hg8 hbw5.size fun g hg => by injection hg with hg; omega
            have hS8 : SetL w8 (newF F w4 w8) s (acc ++ [⟨⟨nm.toArray⟩, q, f, cs⟩]) := ⟨_, ⟨mb, hfin⟩, by rw [vs_ins, Hvs.out]; exact Hins.out⟩
            have hF8 : ∀ b, newF F w4 w8 b → p < b := fun b h => h.elim (HF.out b) fun h => by have := h.1; omega
            obtain ⟨F8, hFe⟩ : ∃ z, z = newF F w4 w8 := ⟨_, rfl⟩
            rw [← hFe] at hS8 hF8
            clear hown8 hg8 hfin hFe hown hc0 hP5
            go_wp2_with fail
            go_roundw
            case rel => exact ⟨k + 1, _, F8, t, by omega, by go_num, by rw [Hlast.out], hS8, Lib.hid hF8, hP8, Hnx, Lib.hid ⟨Hrs.out, by rw [List.length_append, Hrl.out.2]; rfl⟩, hb8⟩
            case measure => simp [Go.RowKit.intOf]; omega
    · obtain rfl : k = N := by omega
      have hd1 : decide ((k : Int) < (k : Int)) = false := by simp
      have hd2 : decide (k < k) = false := by simp
      have Hfin := Lib.hid (show finV (some (acc, s4)) = R by have h := Hrun.out; rw [Nat.sub_self] at h; exact h)
      go_wp2_with fail
      refine Calls.mono (done_in p s4.1 s4.2 wr hP) ?_
      rintro e w7 ⟨rfl, hwx⟩
      subst hwx
      by_cases hdn : s4.2 = true ∨ 0 < s4.1.length
      · have Hno := Lib.hid (show R = none by rw [← Hfin.out]; unfold finV; exact if_pos hdn)
        have hdf : doneF s4.1 s4.2 = 3 := if_pos hdn
        rw [hdf]
        clear hdn hdf
        go_wp2_with fail
        go_ret2
        exact ⟨hbw, .inl ⟨by rw [HR.out]; exact Hno.out, rfl⟩⟩
      · have Hyes := Lib.hid (show R = some acc by rw [← Hfin.out]; unfold finV; exact if_neg hdn)
        have hdf : doneF s4.1 s4.2 = 0 := if_neg hdn
        rw [hdf]
        clear hdn hdf
        go_wp2_with fail
        go_ret2
        exact ⟨hbw, .inr ⟨acc, s, F, by rw [HR.out]; exact Hyes.out, rfl, hS, fun b hb => by have := HF.out b hb; omega⟩⟩

end Go.Proofs.YtcajhndhjlfmaaaGreat

namespace Go.Proofs.YtcajhndhjlfmaaaGreat
open Go.RowKit
set_option linter.unusedVariables false
set_option linter.unusedSimpArgs false


theorem lastC_lt {acc cs : List Cl} {c : Cl} (h : Rise (acc ++ c :: cs)) : lastC acc < ((c.1 : Nat) : Int) := by
  rcases List.eq_nil_or_concat acc with rfl | ⟨l, x, rfl⟩
  · rw [lastC_nil]; omega
  · rw [List.concat_eq_append] at h ⊢
    rw [lastC_snoc]
    unfold Rise at h
    rw [List.pairwise_append] at h
    have := h.2.2 x (by simp) c List.mem_cons_self
    omega
theorem cellS_back (c : Cl) (t : List UInt8) (h1 : c.1 < 1048576) (h2 : c.2.length = 32) : cellS (encCl c ++ t, false) = (c, (t, false)) := by
  have e1 := (takes_num 1048575 (by omega)).back c.1 (c.2 ++ t) ⟨by omega, by omega⟩
  have e2 := takes_dig.back c.2 t h2
  unfold cellS encCl
  rw [List.append_assoc, e1]
  dsimp only
  rw [show (c.2 ++ t, false) = (id c.2 ++ t, false) from rfl, e2]
theorem cellsS_back : ∀ (cs acc : List Cl) (t : List UInt8), (∀ c ∈ cs, c.1 < 1048576 ∧ c.2.length = 32) → Rise (acc ++ cs) → cellsS cs.length (acc, (cs.flatMap encCl ++ t, false)) = some (acc ++ cs, (t, false))
  | [], acc, t, _, _ => by
    show cellsS 0 _ = _
    unfold cellsS
    simp
  | c :: cs, acc, t, h, hr => by
    have hc := h c List.mem_cons_self
    rw [List.flatMap_cons, List.append_assoc]
    show cellsS (cs.length + 1) _ = _
    unfold cellsS
    dsimp only
    rw [cellS_back c _ hc.1 hc.2]
    dsimp only
    have hl := lastC_lt hr
    rw [if_neg (by simp only [Bool.false_eq_true, false_or]; omega), cellsS_back cs (acc ++ [c]) t (fun x hx => h x (List.mem_cons_of_mem _ hx)) (by rw [List.append_assoc]; exact hr), List.append_assoc]
    rfl
theorem takeV_back (v : Vol) (hv : VolOk v) (t : List UInt8) : takeV ((Lib.uvarint (markV v) ++ encCs v.cells) ++ t, false) = some ((v.quota, v.frozen, v.cells), (t, false)) := by
  have hq := hv.q
  have hl := hv.le
  have hm : markV v ≤ 2097153 := by unfold markV; split <;> omega
  have hm2 : markV v / 2 = v.quota := by unfold markV; split <;> omega
  have hm3 : decide (markV v % 2 = 1) = v.frozen := by
    unfold markV
    cases hf : v.frozen with
    | true => simp
    | false => simp
  have e1 := (takes_num 2097153 (by omega)).back (markV v) (encCs v.cells ++ t) ⟨hm, by omega⟩
  have e2 := (takes_num v.quota (by omega)).back v.cells.length (v.cells.flatMap encCl ++ t) ⟨hl, by omega⟩
  have e3 := cellsS_back v.cells [] t hv.c (by rw [List.nil_append]; exact hv.rs)
  unfold takeV
  rw [List.append_assoc, e1]
  dsimp only
  rw [hm2, hm3]
  unfold encCs
  rw [List.append_assoc, e2]
  dsimp only
  rw [e3]
  unfold takeG
  dsimp only
  rw [if_neg (by simp), List.nil_append]
theorem lastV_lt {acc L : List Vol} {v : Vol} (h : RiseV (acc ++ v :: L)) (hv : namedB (vkey v) = true) : bytesBefore (lastV acc) (vkey v) = true := by
  rcases List.eq_nil_or_concat acc with rfl | ⟨l, x, rfl⟩
  · unfold lastV
    dsimp only [List.getLast?_nil]
    cases hk : vkey v with
    | nil => rw [hk] at hv; cases hv
    | cons y r => rfl
  · rw [List.concat_eq_append] at h ⊢
    rw [lastV_snoc]
    unfold RiseV at h
    rw [List.pairwise_append] at h
    exact h.2.2 x (by simp) v List.mem_cons_self
theorem volsS_back : ∀ (L acc : List Vol) (t : List UInt8), (∀ v ∈ L, VolOk v) → RiseV (acc ++ L) → volsS L.length (acc, (L.flatMap encVl ++ t, false)) = some (acc ++ L, (t, false))
  | [], acc, t, _, _ => by
    show volsS 0 _ = _
    unfold volsS
    simp
  | v :: L, acc, t, h, hr => by
    have hv := h v List.mem_cons_self
    have hlen : (vkey v).length ≤ 20 := by
      have := namedB_size (v := v.name) hv.nm
      have e : (vkey v).length = v.name.size := rfl
      omega
    have e1 := takes_nm.back (vkey v) ((Lib.uvarint (markV v) ++ encCs v.cells) ++ (L.flatMap encVl ++ t)) hlen
    have e0 : nmV ((v :: L).flatMap encVl ++ t, false) = (vkey v, ((Lib.uvarint (markV v) ++ encCs v.cells) ++ (L.flatMap encVl ++ t), false)) := by
      unfold nmV
      rw [List.flatMap_cons]
      unfold encVl at *
      rw [← e1]
      simp only [List.append_assoc]
    show volsS (L.length + 1) _ = _
    unfold volsS
    dsimp only
    rw [e0]
    dsimp only
    rw [takeV_back v hv]
    dsimp only
    have hnn : ¬ (namedB (vkey v) = false ∨ bytesBefore (lastV acc) (vkey v) = false) := by
      rw [lastV_lt hr hv.nm, show namedB (vkey v) = true from hv.nm]
      rintro (h | h) <;> cases h
    rw [if_neg hnn]
    have e4 : (⟨⟨(vkey v).toArray⟩, v.quota, v.frozen, v.cells⟩ : Vol) = v := by
      unfold vkey
      cases v with
      | mk nm q f cs => cases nm; simp
    rw [e4, volsS_back L (acc ++ [v]) t (fun x hx => h x (List.mem_cons_of_mem _ hx)) (by rw [List.append_assoc]; exact hr), List.append_assoc]
    rfl
theorem encCl_le {c : Cl} (h1 : c.1 < 1048576) (h2 : c.2.length = 32) : (encCl c).length ≤ 42 := by
  unfold encCl
  have := Lib.uvarint_length64 (x := c.1) (by omega)
  rw [List.length_append]
  omega
theorem flat_le {α : Type} {f : α → List UInt8} {m : Nat} : ∀ {l : List α}, (∀ x ∈ l, (f x).length ≤ m) → (l.flatMap f).length ≤ l.length * m
  | [], _ => by simp
  | x :: l, h => by
    have h1 := h x List.mem_cons_self
    have h2 := flat_le (l := l) fun y hy => h y (List.mem_cons_of_mem _ hy)
    rw [List.flatMap_cons, List.length_append, List.length_cons, Nat.succ_mul]
    omega
theorem encVl_le {v : Vol} (h : VolOk v) : (encVl v).length ≤ 45000000 := by
  have h1 := namedB_size h.nm
  have e : (vkey v).length = v.name.size := rfl
  have h2 := h.le
  have h3 := h.q
  have h4 : (v.cells.flatMap encCl).length ≤ v.cells.length * 42 := flat_le fun c hc => encCl_le (h.c c hc).1 (h.c c hc).2
  have h5 := Lib.uvarint_length64 (x := (vkey v).length) (by omega)
  have h6 := Lib.uvarint_length64 (x := markV v) (by unfold markV; split <;> omega)
  have h7 := Lib.uvarint_length64 (x := v.cells.length) (by omega)
  unfold encVl encCs
  simp only [List.length_append]
  omega
theorem encV_le {L : List Vol} (h : ∀ v ∈ L, VolOk v) (hl : L.length ≤ 100) : (encV L).length ≤ 10000000000 := by
  have h1 := flat_le (f := encVl) (m := 45000000) fun v hv => encVl_le (h v hv)
  have h2 := Lib.uvarint_length64 (x := L.length) (by omega)
  unfold encV
  rw [List.length_append]
  omega
theorem decV_back {L : List Vol} (hok : ∀ v ∈ L, VolOk v) (hr : RiseV L) (n : Nat) (hn : (encV L).length = n) (hl : n < 18446744073709551616) : decV n (encV L) = some L := by
  have hp := flat_pos L
  have hle : L.length ≤ n := by rw [← hn]; unfold encV; rw [List.length_append]; omega
  have e1 := (takes_num n hl).back L.length (L.flatMap encVl) ⟨hle, by omega⟩
  have e2 := volsS_back L [] [] hok (by rw [List.nil_append]; exact hr)
  rw [List.append_nil] at e2
  unfold decV
  rw [show encV L = Lib.uvarint L.length ++ L.flatMap encVl from rfl, e1]
  dsimp only
  rw [e2]
  unfold finV
  dsimp only
  rw [if_neg (by simp), List.nil_append]

end Go.Proofs.YtcajhndhjlfmaaaGreat

namespace Go.Proofs.YtcajhndhjlfmaaaGreat
open Go.RowKit Go.Maps Go.Sort Go.Shelf
set_option linter.unusedVariables false

shelf_lay_g SlLaysZI.n7 Ggz 7 at Tryz 56 as Tryz.keysI
shelf_lay_g SlLaysZI.n6 Ggz 6 at Tryz 55 as Tryz.sortedI
shelf_lay_g SlLaysM.n5 Slgm 5 at Tryz 71 as Tryz.sortI
shelf_lay_g SlLaysZ.n7 Ggz 7 at Tryz 30 as Tryz.keysS
shelf_lay_g SlLaysZ.n6 Ggz 6 at Tryz 29 as Tryz.sortedS
shelf_lay_g SlLaysM.n6 Slgm 6 at Tryz 53 as Tryz.sortS

theorem Tryz.sortsI (m : Nat) : AnyZI.SortsIn Tryz.prog Tryz.sortedI_ren Fence.wide m :=
  ⟨fun blk off cap ss W hH hblk hsz => callsIn_wide.2 (AnyM.slices_Sort_int Tryz.sortI blk off cap ss W hH hblk hsz),
   fun p cap W => callsIn_wide.2 (AnyM.slices_Sort_int_none Tryz.sortI p cap W)⟩
theorem Tryz.sortsS (m : Nat) : AnyZ.SortsIn Tryz.prog Tryz.sortedS_ren Fence.wide m :=
  ⟨fun blk off cap ss W hH hblk hsz => callsIn_wide.2 (AnyM.slices_Sort_string Tryz.sortS blk off cap ss W hH hblk hsz),
   fun p cap W => callsIn_wide.2 (AnyM.slices_Sort_string_none Tryz.sortS p cap W)⟩

theorem keysI_any (b : Nat) (w : World) : Calls Tryz.prog 56 #[.map (some b)] w fun e w' =>
    e = .returned (.func (.func 72) #[] #[.pointer (some ⟨w.heap.size, 0, none⟩)]) ∧ w' = w.alloc (.cells #[.map (some b)] 66) :=
  callsIn_wide.1 (AnyZI.keys_in Tryz.keysI Fence.wide 5 trivial rfl (some b) w)
theorem keysS_any (b : Nat) (w : World) : Calls Tryz.prog 30 #[.map (some b)] w fun e w' =>
    e = .returned (.func (.func 54) #[] #[.pointer (some ⟨w.heap.size, 0, none⟩)]) ∧ w' = w.alloc (.cells #[.map (some b)] 50) :=
  callsIn_wide.1 (AnyZ.keys_in Tryz.keysS Fence.wide 5 trivial rfl (some b) w)

/-- The numbers of a volume's blocks, rising. -/
theorem sortedI_any (m : Vm) (w : World) (h : VmOk w m) : Calls Tryz.prog 55 #[.func (.func 72) #[] #[.pointer (some ⟨w.heap.size, 0, none⟩)]] (w.alloc (.cells #[.map (some m.bb)] 66)) fun e w' =>
    ∃ v, e = .returned v ∧ w'.ownsRow (w.heap.size + 1) 3 1 v m.v.cells.length (m.v.cells.map fun c => .int .i64 (c.1 : Nat)) ∧ Below w.heap.size w w' := by
  have hown := h.hc
  have hbl := World.ownsMap.lt hown
  have hsz := cellsD_size m.v.cells
  have hle := h.ok.le
  have hq := h.ok.q
  have hseq : SeqGives Fence.wide 2 Tryz.prog 72 #[.pointer (some ⟨w.heap.size, 0, none⟩)] encZ (fun ss => ss.Perm (intKeys (cellsD m.v.cells))) (Maps.size (cellsD m.v.cells)) (w.alloc (.cells #[.map (some m.bb)] 66)) :=
    AnyZI.keys_gives (ρ := Tryz.keysI_ren) { Tryz.keysI with } Fence.wide _ trivial rfl (by omega) w.heap.size m.bb m.v.cells.length (cellsD m.v.cells) _ (by simp) (by simp) (World.ownsMap.alloc hown _)
  have cS := AnyZI.sorted_in Tryz.sortedI Fence.wide 5 trivial trivial trivial trivial rfl (by omega) (Tryz.sortsI _) (enters_of Tryz.func71 (by kernel_rfl) rfl) 72 #[.pointer (some ⟨w.heap.size, 0, none⟩)] trivial (enters_of Tryz.func72 (by kernel_rfl) rfl) _ _ (by unfold maxLen; omega) (by omega) _ hseq
  change CallsIn _ _ Tryz.prog 55 _ _ _ at cS
  refine (callsIn_wide.1 cS).mono ?_
  rintro e w' ⟨v, ss, rfl, hS, hrow, hnil, hb⟩
  have hso := sorted_ints h.ok.rs hS
  have hlen : ss.length = m.v.cells.length := by
    have := congrArg List.length hso
    simpa using this
  refine ⟨v, rfl, ?_, ((Below.refl _ w).alloc (Nat.le_refl _) _).trans (hb.mono (by simp))⟩
  rw [hso, hlen] at hrow
  rw [List.map_map] at hrow
  change w'.ownsRow _ 3 1 v _ _ at hrow
  simpa [Function.comp_def, encZ] using hrow

/-- The names of a set's volumes, rising. -/
theorem sortedS_any (s mb : Nat) (F : Nat → Prop) (M : List Vm) (w : World) (h : SetQ w F s mb M) (hM : M.length ≤ 100000) : Calls Tryz.prog 29 #[.func (.func 54) #[] #[.pointer (some ⟨w.heap.size, 0, none⟩)]] (w.alloc (.cells #[.map (some mb)] 50)) fun e w' =>
    ∃ v, e = .returned v ∧ w'.ownsRow (w.heap.size + 1) 9 1 v M.length (M.map fun m => .string m.v.name) ∧ Below w.heap.size w w' := by
  have hown := h.hm
  have hbl := World.ownsMap.lt hown
  have hsz := ptrD_size M
  have hseq : SeqGives Fence.wide 2 Tryz.prog 54 #[.pointer (some ⟨w.heap.size, 0, none⟩)] encStr (fun ss => ss.Perm (strKeys (ptrD M))) (Maps.size (ptrD M)) (w.alloc (.cells #[.map (some mb)] 50)) :=
    AnyZ.keys_gives (ρ := Tryz.keysS_ren) { Tryz.keysS with } Fence.wide _ trivial rfl (by omega) w.heap.size mb M.length (ptrD M) _ (by simp) (by simp) (World.ownsMap.alloc hown _)
  have cS := AnyZ.sorted_in Tryz.sortedS Fence.wide 5 trivial trivial trivial trivial rfl (by omega) (Tryz.sortsS _) (enters_of Tryz.func53 (by kernel_rfl) rfl) 54 #[.pointer (some ⟨w.heap.size, 0, none⟩)] trivial (enters_of Tryz.func54 (by kernel_rfl) rfl) _ _ (by unfold maxLen; omega) (by omega) _ hseq
  change CallsIn _ _ Tryz.prog 29 _ _ _ at cS
  refine (callsIn_wide.1 cS).mono ?_
  rintro e w' ⟨v, ss, rfl, hS, hrow, hnil, hb⟩
  have hso := sorted_names h.rs hS
  have hlen : ss.length = M.length := by
    have := congrArg List.length hso
    simpa using this
  refine ⟨v, rfl, ?_, ((Below.refl _ w).alloc (Nat.le_refl _) _).trans (hb.mono (by simp))⟩
  rw [hso, hlen] at hrow
  rw [List.map_map] at hrow
  have e1 : (M.map (encStr ∘ key)) = M.map fun m => .string m.v.name := by
    apply List.map_congr_left
    intro m _
    simp [encStr, key]
  rw [e1] at hrow
  change w'.ownsRow _ 9 1 v _ _ at hrow
  simpa using hrow

end Go.Proofs.YtcajhndhjlfmaaaGreat

namespace Go.Proofs.YtcajhndhjlfmaaaGreat
open Go.RowKit
set_option linter.unusedVariables false
set_option linter.unusedSimpArgs false

theorem row_formV {w : World} {B : Nat} {e : TypeId} {sz : Nat} {v : Value} {n m : Nat} {xs : List Value} (h : w.ownsRow B e sz v n xs) (hn : n = m) : ∃ A c, v = .slice A m c ∧ m ≤ c := by
  subst hn
  rcases h.2 with ⟨e, h0⟩ | ⟨g, cap, cur, e, _, _, h, _⟩
  · exact ⟨none, 0, by rw [e, h0], by omega⟩
  · exact ⟨_, cap, e, h⟩
theorem row_cellV {w : World} {B : Nat} {e : TypeId} {A : Option Addr} {n c : Nat} {xs : List Value} (h : w.ownsRow B e 1 (.slice A n c) n xs) {k : Nat} {x : Value} (hk : k < n) (hx : xs[k]? = some x) : ∃ g, A = some ⟨g, 0, none⟩ ∧ g < w.heap.size ∧ w.cell? ⟨g, k, none⟩ = some x := by
  rcases h.2 with ⟨e, h0⟩ | ⟨g, cap, cur, e, _, hg, _⟩
  · omega
  · injection e with e1 e2 e3
    subst e1
    refine ⟨g, rfl, (Array.getElem?_eq_some_iff.1 hg).1, ?_⟩
    have := World.ownsRow.cells h (g := g) rfl k x hx
    have hadd : (⟨g, 0, none⟩ : Addr).add k = ⟨g, 0 + k, none⟩ := by unfold Addr.add; split <;> simp_all
    rwa [hadd, Nat.zero_add] at this
theorem getC_at {cs : List Cl} (hr : Rise cs) {k : Nat} {c : Cl} (hk : cs[k]? = some c) : atC cs (c.1 : Nat) = c.2 := by
  unfold atC
  rw [getC_of hr (f := c.2) (List.mem_of_getElem? hk)]
  rfl

set_option maxHeartbeats 4000000 in
set_option maxRecDepth 100000 in
theorem cells_any (m : Vm) (w : World) (h : VmOk w m) : Calls Tryz.prog 31 #[.pointer (some ⟨m.vb, 0, none⟩)] w fun e w' =>
    ∃ v, e = .returned v ∧ CRow w' w.heap.size v m.v.cells ∧ Below w.heap.size w w' := by
  obtain ⟨i0, hi, hz0, hz1, hz2⟩ := info_partsV clAll
  have hle := h.ok.le
  have hq := h.ok.q
  have hc2 := h.hv.cell 2
  simp only [List.getElem?_cons_succ, List.getElem?_cons_zero] at hc2
  have hlen := h.len 3
  obtain ⟨n, hn⟩ : ∃ n, m.v.cells.length = n := ⟨_, rfl⟩
  rw [hn] at hlen
  have hnb : n ≤ 1048576 := by omega
  obtain ⟨w1, hmk, hrow1, hg1⟩ := run_make_own (P := Tryz.prog) w w.heap.size 69 73 i0 _ 33 Tryz.underlying69 hi hz0 hz1 .i64 .i64 n (by rw [hz2]; omega) (by unfold maxLen; omega) (Nat.le_refl _)
  have hb1 : Below w.heap.size w w1 := (Below.refl _ w).grown hg1 (Nat.le_refl _) (by intro k hk; cases hk)
  have h1 : VmOk w1 m := h.kept (hb1.block _ h.hv.lt) (hb1.block _ (World.ownsMap.lt h.hc))
  have hC1 : CRow w1 w.heap.size (.slice (some ⟨w.heap.size, 0, none⟩) 0 n) [] := ⟨by simp, hrow1⟩
  have hd2 := h1.hv.cell 2
  simp only [List.getElem?_cons_succ, List.getElem?_cons_zero] at hd2
  have Hh := Lib.hid h
  have Hn := Lib.hid hn
  have Hh1 := Lib.hid h1
  have HC1 := Lib.hid hC1
  have Hb1 := Lib.hid hb1
  have hz1' := hb1.size
  clear h h1 hn hi hz0 hz1 hz2 hrow1 hg1 hC1 hb1
  go_enter Tryz.func31, Tryz.ntmps31
  go_upto_region 2 with fail
  clear hmk hlen hc2
  go_wp2_with fail
  refine Calls.mono (keysI_any m.bb w1) ?_
  rintro e w2 ⟨rfl, rfl⟩
  clear hd2
  go_wp2_with fail
  refine Calls.mono (sortedI_any m w1 Hh1.out) ?_
  rintro e w3 ⟨v, rfl, hrow3, hb3⟩
  obtain ⟨A, c, rfl, hnc⟩ := row_formV hrow3 Hn.out
  have hC3 : CRow w3 w.heap.size (.slice (some ⟨w.heap.size, 0, none⟩) 0 n) [] := by
    refine ⟨by simp, HC1.out.2.1, ?_⟩
    rcases HC1.out.2.2 with h0 | ⟨g, cap, cur, e, e1, e2, e3⟩
    · exact .inl h0
    · exact .inr ⟨g, cap, cur, e, e1, (hb3.block g (Array.getElem?_eq_some_iff.1 e2).1).trans e2, e3⟩
  have hb13 : Below w.heap.size w w3 := Hb1.out.trans (hb3.mono Hb1.out.size)
  rw [Hn.out] at hrow3
  have Hrow3 := Lib.hid hrow3
  clear hrow3 hb3
  go_wp2_with fail
  go_loopw [3, 19] (fun t i wr => ∃ k : Nat, k ≤ n ∧ i = .int .i64 k ∧ CRow wr w.heap.size t (m.v.cells.take k) ∧ wr.ownsRow (w1.heap.size + 1) 3 1 (.slice A n c) n (m.v.cells.map fun c => .int .i64 (c.1 : Nat)) ∧ Below w.heap.size w wr) (fun _ i _ => n - (Go.RowKit.intOf i).toNat)
  case atStart => exact ⟨0, Nat.zero_le _, rfl, by rw [List.take_zero]; exact hC3, Hrow3.out, hb13⟩
  case round =>
    clear hC3 hb13
    obtain ⟨k, hk, rfl, hC, hrow, hbr⟩ := hrel
    by_cases hlt : k < n
    · have hd1 : decide ((k : Int) < (n : Int)) = true := by simp; omega
      obtain ⟨y, hy⟩ : ∃ y, m.v.cells[k]? = some y := ⟨m.v.cells[k]'(by rw [Hn.out]; exact hlt), List.getElem?_eq_getElem _⟩
      obtain ⟨g, rfl, hglt, hcell⟩ := row_cellV hrow hlt (x := .int .i64 (y.1 : Nat)) (by rw [List.getElem?_map, hy]; rfl)
      have hvr : VmOk wr m := Hh.out.kept (hbr.block _ Hh.out.hv.lt) (hbr.block _ (World.ownsMap.lt Hh.out.hc))
      have hyo := hvr.ok.c y (List.mem_of_getElem? hy)
      have hcr := hvr.hv.cell 2
      simp only [List.getElem?_cons_succ, List.getElem?_cons_zero] at hcr
      have hlook := hvr.look1 (n := (y.1 : Nat)) (by omega) (by omega)
      rw [getC_at hvr.ok.rs hy] at hlook
      obtain ⟨DL, hDL⟩ : ∃ DL, DL = Lib.byteCells y.2 := ⟨_, rfl⟩
      rw [← hDL] at hlook
      have hDl : DL.length = 32 := by rw [hDL, Lib.byteCells_length]; exact hyo.2
      obtain ⟨yn, hyn⟩ : ∃ yn, y.1 = yn := ⟨_, rfl⟩
      rw [hyn] at hlook hcell
      have HBt := Lib.hid (cl_built (yn : Nat) DL hDl)
      have HVL : Hid ((Value.int .i64 (yn : Nat) :: DL) = cellC y) := by rw [hDL, ← hyn]; rfl
      have HVl := Lib.hid (show (Value.int .i64 (yn : Nat) :: DL).length = 33 by rw [List.length_cons, hDl])
      obtain ⟨VL, hVLe⟩ : ∃ VL, VL = (Value.int .i64 (yn : Nat) :: DL) := ⟨_, rfl⟩
      rw [← hVLe] at HBt HVL HVl
      have Hy := Lib.hid hy
      have Hyo := Lib.hid hyo.2
      have HDL := Lib.hid hDL
      have htl : (m.v.cells.take k).length ≤ 2000000 := by rw [List.length_take]; have := Hh.out.ok.le; have := Hh.out.ok.q; omega
      have hbrs := hbr.size
      have Hts := Lib.hid (show m.v.cells.take (k + 1) = m.v.cells.take k ++ [y] from by
        obtain ⟨hl, he⟩ := List.getElem?_eq_some_iff.1 hy
        rw [List.take_succ_eq_append_getElem hl, he])
      have hne := rows_apart hC.2 hrow (by decide)
      have hlt3 := hC.lt
      have hba : Below wr.heap.size wr (wr.alloc (.cells VL.toArray 73)) := (Below.refl _ _).alloc (Nat.le_refl _) _
      have hCa := hC.up hba
      have hrowa := World.ownsRow.alloc hrow (.cells VL.toArray 73)
      have hbra : Below w.heap.size w (wr.alloc (.cells VL.toArray 73)) := hbr.trans (hba.mono hbrs)
      have Ha := Lib.hid (Arr.new wr 73 VL)
      have hsza : w.heap.size ≤ (wr.alloc (.cells VL.toArray 73)).heap.size := hbra.size
      clear hy hyo hyn hDl hDL hVLe hvr hC hrow hbr hba
      go_wp2_with (first
        | (refine wpList_builtV rfl _ _ rfl _ rfl VL.toArray HBt.out ?_)
        | (refine wpList_build_cl rfl _ rfl VL HVl.out rfl ?_)
        | (refine wpList_append_cl rfl _ _ rfl hCa hsza rfl _ _ rfl y Hyo.out VL HVL.out Ha.out htl ?_))
      intro v' w' hC' hg'
      rw [← Hts.out] at hC'
      have hrow' := World.ownsRow.kept hrowa hg' (by
        rcases hob : u3.ownBlock with _ | g'
        · exact .inr (by simp [Value.ownBlock])
        · exact .inr fun e => hne g' hob e)
      have hb' : Below w.heap.size w w' := hbra.grown hg' hsza fun g' hg => (hlt3 g' hg).1
      clear hg' hrowa hCa hbra Ha hsza hne hlt3
      go_wp2_with fail
      go_roundw
      case rel => exact ⟨k + 1, by omega, by go_num, hC', hrow', hb'⟩
      case measure => simp [Go.RowKit.intOf]; omega
    · obtain rfl : k = n := by omega
      have hd1 : decide (k < k) = false := by simp
      have hfin : CRow wr w.heap.size u3 m.v.cells := by
        have := hC
        rwa [List.take_of_length_le (by rw [Hn.out]; exact Nat.le_refl _)] at this
      clear hC hrow
      go_wp2_with fail
      go_ret
      exact ⟨_, rfl, hfin, hbr⟩

end Go.Proofs.YtcajhndhjlfmaaaGreat

namespace Go.Proofs.YtcajhndhjlfmaaaGreat
open Go.RowKit
set_option linter.unusedVariables false
set_option linter.unusedSimpArgs false

set_option maxHeartbeats 4000000 in
set_option maxRecDepth 100000 in
theorem all_anyM (s mb : Nat) (w : World) (F : Nat → Prop) (M : List Vm) (h : SetQ w F s mb M) (hM : M.length ≤ 100000) : Calls Tryz.prog 11 #[.pointer (some ⟨s, 0, none⟩)] w fun e w' =>
    ∃ v xs, e = .returned v ∧ VRow w' w.heap.size (fun b => w.heap.size ≤ b) v xs ∧ xs.map (·.v) = vs M ∧ Below w.heap.size w w' := by
  obtain ⟨i0, hi, hz0, hz1, hz2⟩ := info_partsV vlAll
  have hslt := h.Flt s h.Fs
  have hc0 := h.hs.cell 0
  simp only [List.getElem?_cons_zero] at hc0
  have hlen := h.len 3
  obtain ⟨n, hn⟩ : ∃ n, M.length = n := ⟨_, rfl⟩
  rw [hn] at hlen
  have hnb : n ≤ 100000 := by omega
  obtain ⟨w1, hmk, hrow1, hg1⟩ := run_make_own (P := Tryz.prog) w w.heap.size 27 71 i0 _ 4 Tryz.underlying27 hi hz0 hz1 .i64 .i64 n (by rw [hz2]; omega) (by unfold maxLen; omega) (Nat.le_refl _)
  have hb1 : Below w.heap.size w w1 := (Below.refl _ w).grown hg1 (Nat.le_refl _) (by intro k hk; cases hk)
  have hQ1 : SetQ w1 F s mb M := h.kept (fun b hF => hb1.block b (h.Flt b hF)) (fun _ h => h) fun b hF => Nat.lt_of_lt_of_le (h.Flt b hF) hb1.size
  have hV1 : VRow w1 w.heap.size (fun b => w.heap.size ≤ b) (.slice (some ⟨w.heap.size, 0, none⟩) 0 n) [] := ⟨by simp, hrow1⟩
  have hd0 := hQ1.hs.cell 0
  simp only [List.getElem?_cons_zero] at hd0
  have Hh := Lib.hid h
  have Hn := Lib.hid hn
  have HM := Lib.hid hM
  have HQ1 := Lib.hid hQ1
  have HV1 := Lib.hid hV1
  have Hb1 := Lib.hid hb1
  have hz1' := hb1.size
  clear h hQ1 hn hi hz0 hz1 hz2 hrow1 hg1 hV1 hb1 hM
  go_enter Tryz.func11, Tryz.ntmps11
  go_upto_region 2 with fail
  clear hmk hlen hc0
  go_wp2_with fail
  refine Calls.mono (keysS_any mb w1) ?_
  rintro e w2 ⟨rfl, rfl⟩
  clear hd0
  go_wp2_with fail
  refine Calls.mono (sortedS_any s mb F M w1 HQ1.out HM.out) ?_
  rintro e w3 ⟨v, rfl, hrow3, hb3⟩
  obtain ⟨A, c, rfl, hnc⟩ := row_formV hrow3 Hn.out
  have hV3 : VRow w3 w.heap.size (fun b => w.heap.size ≤ b) (.slice (some ⟨w.heap.size, 0, none⟩) 0 n) [] := HV1.out.up hb3
  have hb13 : Below w.heap.size w w3 := Hb1.out.trans (hb3.mono Hb1.out.size)
  rw [Hn.out] at hrow3
  have Hrow3 := Lib.hid hrow3
  clear hrow3 hb3
  go_wp2_with fail
  go_loopw [3, 20] (fun t i wr => ∃ k : Nat, k ≤ n ∧ i = .int .i64 k ∧ (∃ xs, VRow wr w.heap.size (fun b => w.heap.size ≤ b) t xs ∧ Hid (xs.map (·.v) = (vs M).take k)) ∧ wr.ownsRow (w1.heap.size + 1) 9 1 (.slice A n c) n (M.map fun m => .string m.v.name) ∧ Below w.heap.size w wr) (fun _ i _ => n - (Go.RowKit.intOf i).toNat)
  case atStart => exact ⟨0, Nat.zero_le _, rfl, ⟨[], hV3, by rw [List.take_zero]; rfl⟩, Hrow3.out, hb13⟩
  case round =>
    clear hV3 hb13
    obtain ⟨k, hk, rfl, ⟨xs, hV, Hxs⟩, hrow, hbr⟩ := hrel
    by_cases hlt : k < n
    · have hd1 : decide ((k : Int) < (n : Int)) = true := by simp; omega
      obtain ⟨m, hm⟩ : ∃ m, M[k]? = some m := ⟨M[k]'(by rw [Hn.out]; exact hlt), List.getElem?_eq_getElem _⟩
      obtain ⟨g, rfl, hglt, hcell⟩ := row_cellV hrow hlt (x := .string m.v.name) (by rw [List.getElem?_map, hm]; rfl)
      have hQr : SetQ wr F s mb M := Hh.out.kept (fun b hF => hbr.block b (Hh.out.Flt b hF)) (fun _ h => h) fun b hF => Nat.lt_of_lt_of_le (Hh.out.Flt b hF) hbr.size
      have hmm := List.mem_of_getElem? hm
      have hvr := hQr.vm m hmm
      have hcr := hQr.hs.cell 0
      simp only [List.getElem?_cons_zero] at hcr
      have hnm20 := namedB_size hvr.ok.nm
      have hlook := hQr.look_yes (nm := m.v.name) (by unfold maxLen; omega) (findM_of hQr.rs hmm rfl)
      have Hcl := Lib.hid (fun j => cells_any m (wr.drewN j) (hvr.kept rfl rfl))
      have Hv := Lib.hid hvr.hv
      have Hok := Lib.hid hvr.ok
      have hxl : xs.length = k := by
        have := congrArg List.length Hxs.out
        rw [List.length_map, List.length_take, vs_length, Hn.out] at this
        omega
      have Hxl := Lib.hid hxl
      have Hts := Lib.hid (show (vs M).take (k + 1) = (vs M).take k ++ [m.v] from by
        have hk' : (vs M)[k]? = some m.v := by unfold vs; rw [List.getElem?_map, hm]; rfl
        obtain ⟨hl, he⟩ := List.getElem?_eq_some_iff.1 hk'
        rw [List.take_succ_eq_append_getElem hl, he])
      have hvlt : m.vb < wr.heap.size := hvr.hv.lt
      obtain ⟨vb, hvb⟩ : ∃ x, m.vb = x := ⟨_, rfl⟩
      obtain ⟨nm, hnm⟩ : ∃ x, m.v.name = x := ⟨_, rfl⟩
      obtain ⟨q, hq⟩ : ∃ x, m.v.quota = x := ⟨_, rfl⟩
      obtain ⟨fr, hfr⟩ : ∃ x, m.v.frozen = x := ⟨_, rfl⟩
      rw [hvb] at hlook hvlt Hv Hcl
      rw [hnm] at hlook hcell
      rw [hq, hfr] at Hv
      have Hnm := Lib.hid hnm
      have Hqe := Lib.hid hq
      have Hfr := Lib.hid hfr
      have HV := Lib.hid hV
      have Hrow := Lib.hid hrow
      have hne := rows_apart hV.2 hrow (by decide)
      have hlt3 := hV.lt
      have Hbr := Lib.hid hbr
      have hbrs := hbr.size
      clear hV hrow hm hQr hmm hvr hxl hvb hnm hq hfr hbr
      go_upto_region 6 with fail
      clear hcr hlook hcell
      refine wp_region_held_drew (S := fun w' => Arr w' vb 68 [.int .i64 (q : Nat), .bool fr, .map (some m.bb)]) (by kernel_rfl) Hv.out (fun hHeld => ?_)
      refine anyH_take (i := 0) (v := u3) (some 30) rfl rfl (by kernel_rfl) (by kernel_rfl) (by kernel_rfl) (fun _ _ _ h => h) (Or.inl ⟨by rfl, fun w' hw => by rfl⟩) (by assumption) ?_
      simp only [Act.put, List.setIfInBounds_toArray, List.set_cons_zero, List.set_cons_succ]
      refine anyH_take (i := 1) (v := .string nm) (some 31) rfl rfl (by kernel_rfl) (by kernel_rfl) (by kernel_rfl) (fun _ _ _ h => h) (Or.inl ⟨by rfl, fun w' hw => by rfl⟩) (by assumption) ?_
      simp only [Act.put, List.setIfInBounds_toArray, List.set_cons_zero, List.set_cons_succ]
      refine anyH_take (i := 2) (v := .pointer (some ⟨vb, 0, none⟩)) (some 32) rfl rfl (by kernel_rfl) (by kernel_rfl) (by kernel_rfl) (fun _ _ _ h => h) (Or.inl ⟨by rfl, fun w' hw => by rfl⟩) (by assumption) ?_
      simp only [Act.put, List.setIfInBounds_toArray, List.set_cons_zero, List.set_cons_succ]
      refine anyH_take (i := 3) (v := .pointer (some ⟨vb, 0, none⟩)) (some 33) rfl rfl (by kernel_rfl) (by kernel_rfl) (by kernel_rfl) (fun _ _ _ h => h) (Or.inl ⟨by rfl, fun w' hw => by (go_simp)⟩) (by assumption) ?_
      simp only [Act.put, List.setIfInBounds_toArray, List.set_cons_zero, List.set_cons_succ]
      refine anyH_take (i := 4) (v := .pointer (some ⟨vb, 0, none⟩)) (some 34) rfl rfl (by kernel_rfl) (by kernel_rfl) (by kernel_rfl) (fun _ _ _ h => h) (Or.inl ⟨by rfl, fun w' hw => by (go_simp)⟩) (by assumption) ?_
      simp only [Act.put, List.setIfInBounds_toArray, List.set_cons_zero, List.set_cons_succ]
      refine anyH_take (i := 5) (v := .int .i64 (q : Nat)) (some 35) rfl rfl (by kernel_rfl) (by kernel_rfl) (by kernel_rfl) (fun _ _ _ h => h) (Or.inl ⟨by rfl, fun w' hw => by (have hcc := hw.cell 0; simp only [List.getElem?_cons_zero] at hcc; go_simp)⟩) (by assumption) ?_
      simp only [Act.put, List.setIfInBounds_toArray, List.set_cons_zero, List.set_cons_succ]
      refine anyH_take (i := 6) (v := .pointer (some ⟨vb, 0, none⟩)) (some 36) rfl rfl (by kernel_rfl) (by kernel_rfl) (by kernel_rfl) (fun _ _ _ h => h) (Or.inl ⟨by rfl, fun w' hw => by rfl⟩) (by assumption) ?_
      simp only [Act.put, List.setIfInBounds_toArray, List.set_cons_zero, List.set_cons_succ]
      refine anyH_take (i := 7) (v := .pointer (some ⟨vb, 0, none⟩)) (some 37) rfl rfl (by kernel_rfl) (by kernel_rfl) (by kernel_rfl) (fun _ _ _ h => h) (Or.inl ⟨by rfl, fun w' hw => by (go_simp)⟩) (by assumption) ?_
      simp only [Act.put, List.setIfInBounds_toArray, List.set_cons_zero, List.set_cons_succ]
      refine anyH_take (i := 8) (v := .pointer (some ⟨vb, 1, none⟩)) (some 38) rfl rfl (by kernel_rfl) (by kernel_rfl) (by kernel_rfl) (fun _ _ _ h => h) (Or.inl ⟨by rfl, fun w' hw => by (go_simp)⟩) (by assumption) ?_
      simp only [Act.put, List.setIfInBounds_toArray, List.set_cons_zero, List.set_cons_succ]
      refine anyH_take (i := 9) (v := .bool fr) (some 39) rfl rfl (by kernel_rfl) (by kernel_rfl) (by kernel_rfl) (fun _ _ _ h => h) (Or.inl ⟨by rfl, fun w' hw => by (have hcc := hw.cell 1; simp only [List.getElem?_cons_succ, List.getElem?_cons_zero] at hcc; go_simp)⟩) (by assumption) ?_
      simp only [Act.put, List.setIfInBounds_toArray, List.set_cons_zero, List.set_cons_succ]
      refine anyH_take (i := 10) (v := .pointer (some ⟨vb, 0, none⟩)) (some 40) rfl rfl (by kernel_rfl) (by kernel_rfl) (by kernel_rfl) (fun _ _ _ h => h) (Or.inl ⟨by rfl, fun w' hw => by rfl⟩) (by assumption) ?_
      simp only [Act.put, List.setIfInBounds_toArray, List.set_cons_zero, List.set_cons_succ]
      refine wpAnyH_ready (rs := [11]) (by kernel_rfl) (by simp) ?_
      refine AllReadyH.cons rfl (fun K hK => ?_) AllReadyH.nil
      go_simp
      go_at_call 31
      refine Calls.mono (Hcl.out _) ?_
      rintro e w5 ⟨v5, rfl, hC5, hb5⟩
      have hb5 : Below wr.heap.size wr w5 := (Below.dN (Below.refl _ wr) 1).trans hb5
      have hC5 : CRow w5 wr.heap.size v5 m.v.cells := hC5
      obtain ⟨A5, c5, rfl, h5c, h5m, h5at⟩ := hC5.slice
      obtain ⟨n5, hn5⟩ : ∃ x, m.v.cells.length = x := ⟨_, rfl⟩
      rw [hn5] at h5c ⊢
      have Hn5 := Lib.hid hn5
      clear hn5 hC5
      go_wp2_with fail
      refine hK.out _ _ ((Hv.out).below hb5 hvlt) (fun hHeldx => ?_)
      clear hK K
      try simp only [Act.put, List.setIfInBounds_toArray, List.set_cons_zero, List.set_cons_succ]
      refine anyH_take (i := 12) (v := .agg #[.string nm, .int .i64 (q : Nat), .bool fr, .slice A5 n5 c5]) (some 42) rfl rfl (by kernel_rfl) (by kernel_rfl) (by kernel_rfl) (fun _ _ _ h => h) (Or.inl ⟨by rfl, fun w' hw => by (have hb := vl_built nm (q : Nat) fr A5 n5 c5; go_simp)⟩) (by assumption) ?_
      simp only [Act.put, List.setIfInBounds_toArray, List.set_cons_zero, List.set_cons_succ]
      obtain ⟨VL, hVL⟩ : ∃ VL, VL = [Value.string nm, .int .i64 (q : Nat), .bool fr, .slice A5 n5 c5] := ⟨_, rfl⟩
      have hVl : VL.length = 4 := by rw [hVL]; rfl
      have hVa : (Value.agg #[.string nm, .int .i64 (q : Nat), .bool fr, .slice A5 n5 c5]) = .agg VL.toArray := by rw [hVL]
      refine wpAnyH_ready (rs := [13]) (by kernel_rfl) (by simp) ?_
      refine AllReadyH.cons rfl (fun K hK => ?_) AllReadyH.nil
      rw [if_pos (by rfl)]
      refine wp_build_vl (some 43) rfl _ rfl VL hVl hVa ?_
      simp only [Act.put, List.setIfInBounds_toArray, List.set_cons_zero, List.set_cons_succ]
      have hb6 : Below wr.heap.size wr (w5.alloc (.cells VL.toArray 71)) := hb5.alloc hb5.size _
      refine hK.out _ _ ((Hv.out).below hb6 hvlt) (fun hHeldy => ?_)
      clear hK K
      try simp only [Act.put, List.setIfInBounds_toArray, List.set_cons_zero, List.set_cons_succ]
      have hA6 := Arr.new w5 71 VL
      have hV6 := HV.out.up hb6
      have hat6 : CsAt (w5.alloc (.cells VL.toArray 71)) (fun b => w.heap.size ≤ b ∧ u3.ownBlock ≠ some b) A5 m.v.cells := h5at.keep (by simp) (fun b _ hlt => Below.heap_alloc _ _ _ hlt) fun b _ hb => ⟨Nat.le_trans hbrs hb, fun e => by have := (hlt3 b e).2; omega⟩
      have hrow6 : (w5.alloc (.cells VL.toArray 71)).ownsRow (w1.heap.size + 1) 9 1 (.slice (some ⟨g, 0, none⟩) n c) n (M.map fun m => .string m.v.name) := by
        refine ⟨Hrow.out.1, ?_⟩
        rcases Hrow.out.2 with h0 | ⟨g', cap, cur, e, e1, e2, e3⟩
        · exact .inl h0
        · exact .inr ⟨g', cap, cur, e, e1, (hb6.block g' (Array.getElem?_eq_some_iff.1 e2).1).trans e2, e3⟩
      have hb6w : Below w.heap.size w (w5.alloc (.cells VL.toArray 71)) := Hbr.out.trans (hb6.mono hbrs)
      obtain ⟨w6, hw6⟩ : ∃ x, x = w5.alloc (.cells VL.toArray 71) := ⟨_, rfl⟩
      rw [← hw6] at hb6 hA6 hV6 hat6 hrow6 hb6w ⊢
      clear hw6
      refine wpAnyH_ready (rs := [14]) (by kernel_rfl) (by simp) ?_
      refine AllReadyH.cons rfl (fun K hK => ?_) AllReadyH.nil
      rw [if_pos (by rfl)]
      refine wp_append_vl (some 44) rfl _ _ rfl hV6 hb6w.size rfl ⟨w5.heap.size, 0, none⟩ 1 1 rfl [⟨m.v, A5, c5⟩] rfl ?_ (one_vl (by rw [hVL]; unfold volC; rw [Hnm.out, Hqe.out, Hfr.out, Hn5.out]) hA6) (by rw [Hxl.out]; omega) ?_
      · intro x hx
        rw [List.mem_singleton] at hx
        subst hx
        exact ⟨by show m.v.cells.length ≤ c5; rw [Hn5.out]; exact h5c, h5m, hat6, by have := namedB_size Hok.out.nm; unfold maxLen; show m.v.name.size ≤ _; omega, Hok.out.q, Nat.le_trans Hok.out.le Hok.out.q⟩
      intro v7 w7 hV7 hg7
      simp only [Act.put, List.setIfInBounds_toArray, List.set_cons_zero, List.set_cons_succ]
      have hv7 : Arr w7 vb 68 [.int .i64 (q : Nat), .bool fr, .map (some m.bb)] := (hg7.block vb (by have := hb6.size; omega) (fun e => by
        rcases HV.out.2.2 with ⟨e2, _⟩ | ⟨g', cap, cur, e2, _, hg', _⟩
        · rw [e2] at e; cases e
        · rw [e2] at e
          simp only [Value.ownBlock, Option.some.injEq] at e
          rw [← e] at hg'
          have := hg'.symm.trans Hv.out
          simp only [Option.some.injEq, Obj.cells.injEq] at this
          exact absurd this.2.1 (by decide))).trans ((Hv.out).below hb6 hvlt)
      refine hK.out _ _ hv7 (fun hHeldz => ?_)
      clear hK K
      try simp only [Act.put, List.setIfInBounds_toArray, List.set_cons_zero, List.set_cons_succ]
      have hrow7 := World.ownsRow.kept hrow6 hg7 (by
        rcases hob : u3.ownBlock with _ | g'
        · exact .inr (by simp [Value.ownBlock])
        · exact .inr fun e => hne g' hob e)
      have hb7 : Below w.heap.size w w7 := hb6w.grown hg7 hb6w.size fun g' hg => (hlt3 g' hg).1
      have hm7 := Lib.hid (show (xs ++ [(⟨m.v, A5, c5⟩ : Vx)]).map (·.v) = (vs M).take (k + 1) by rw [List.map_append, Hxs.out, Hts.out]; rfl)
      clear hg7 hrow6 hV6 hb6w hb6 hA6 hat6 h5at hb5 hVL hVl hVa hHeld hHeldx hHeldy hHeldz hne hlt3
      refine anyH_take (i := 15) (v := v7) (some 3) rfl rfl (by kernel_rfl) (by kernel_rfl) (by kernel_rfl) (fun _ _ _ h => h) (Or.inl ⟨by rfl, fun w' hw => by rfl⟩) (by assumption) ?_
      simp only [Act.put, List.setIfInBounds_toArray, List.set_cons_zero, List.set_cons_succ]
      refine wpAnyH_done (by kernel_rfl) ?_ _
      go_wp2_with fail
      go_roundw
      case rel => exact ⟨k + 1, by omega, by go_num, ⟨_, hV7, hm7⟩, hrow7, hb7⟩
      case measure => simp [Go.RowKit.intOf]; omega
    · obtain rfl : k = n := by omega
      have hd1 : decide (k < k) = false := by simp
      have Hfin := Lib.hid (show xs.map (·.v) = vs M by rw [Hxs.out, List.take_of_length_le (by rw [vs_length, Hn.out]; exact Nat.le_refl _)])
      have HV := Lib.hid hV
      clear hV hrow
      go_wp2_with fail
      go_ret
      exact ⟨_, xs, rfl, HV.out, Hfin.out, hbr⟩

/-- All volumes: a new row. -/
theorem all_any (s : Nat) (w : World) (F : Nat → Prop) (L : List Vol) (h : SetL w F s L) (hL : L.length ≤ 100000) : Calls Tryz.prog 11 #[.pointer (some ⟨s, 0, none⟩)] w fun e w' =>
    ∃ A c xs, e = .returned (.slice A xs.length c) ∧ xs.length ≤ c ∧ c ≤ maxLen ∧ VsAt w' (fun b => w.heap.size ≤ b) A xs ∧ xs.map (·.v) = L ∧ Below w.heap.size w w' := by
  obtain ⟨M, ⟨mb, hQ⟩, rfl⟩ := h
  rw [vs_length] at hL
  refine (all_anyM s mb w F M hQ hL).mono ?_
  rintro e w' ⟨v, xs, rfl, hV, hx, hb⟩
  obtain ⟨A, c, rfl, h1, h2, h3⟩ := hV.slice
  exact ⟨A, c, xs, rfl, h1, h2, h3.keep (Nat.le_refl _) (fun _ _ _ => rfl) (fun b _ h => h.elim id id), hx, hb⟩

end Go.Proofs.YtcajhndhjlfmaaaGreat

namespace Go.Proofs.YtcajhndhjlfmaaaGreat
open Go.RowKit
set_option linter.unusedVariables false
set_option linter.unusedSimpArgs false

set_option maxHeartbeats 4000000 in
set_option maxRecDepth 100000 in
theorem bytes_anyO (B : Nat) (sv : Value) (out bs : List UInt8) (A : Option Addr) (c : Nat) (w : World) (hown : Owns w B 5 sv out) (hB : B ≤ w.heap.size) (hb : Bs w w.heap.size A bs) (hne : ∀ b off, A = some ⟨b, off, none⟩ → sv.ownBlock ≠ some b) (hc : bs.length ≤ c)
    (hlim : out.length + bs.length + 20 ≤ 140737488355328) :
    Calls Tryz.prog 33 #[sv, .slice A bs.length c] w (BytesPost B sv (out ++ (Lib.uvarint bs.length ++ bs)) w) := by
  have hk1 := Lib.uvarint_pos bs.length
  have hk2 := Lib.uvarint_length64 (x := bs.length) (by omega)
  obtain ⟨i0, hi, hz0, hz1, hz2⟩ := info_parts byteInfo
  have hlt := hown.lt
  obtain ⟨A0, c0, rfl, hoc, hom, _⟩ := hown.slice
  go_enter Tryz.func33, Tryz.ntmps33
  go_wp2_with (at_make; refine wpList_make_own _ rfl _ _ 42 rfl w.heap.size 5 i0 (.int .u8 0) 1 Tryz.underlying42 hi hz0 hz1 _ _ _ 10 rfl rfl rfl (by rw [hz2]; decide) (by unfold maxLen; omega) (Nat.le_refl _) ?_; intro w1 hmk hg1)
  have hs1 := hg1.size
  refine (number_any w.heap.size bs.length (by omega) _ [] w1 hmk hs1 (by simp)).mono ?_
  rintro e w2 ⟨v1, rfl, hcnt, hgr⟩
  rw [List.nil_append] at hcnt
  have hU : Hid (∃ U, Lib.uvarint bs.length = U) := ⟨_, rfl⟩
  obtain ⟨U, hU⟩ := hU.out
  rw [hU] at hcnt hk1 hk2 ⊢
  have HU := Lib.hid hU
  clear hU
  have hB2 : Below w.heap.size w w2 := ((Below.refl _ w).grown hg1 (Nat.le_refl _) (by simp)).trans (hgr.below hs1 (by simp [Value.ownBlock]))
  have hown2 := hown.below hB2 (fun k hk => (hlt k hk).2)
  have hclt := hcnt.lt
  obtain ⟨A1, c1, rfl, hcc, hcm, _⟩ := hcnt.slice
  go_wp2_with fail
  rw [show ((U.length : Int) + (bs.length : Int)) = ((U.length + bs.length : Nat) : Int) from by omega]
  refine (grow_any B (U.length + bs.length) _ out w2 hown2 (Nat.le_trans hB hB2.size) (by omega) (by omega)).mono ?_
  rintro e w3 ⟨g, c3, rfl, hroom, hown3, hgr3⟩
  have hr := hroom.out
  obtain ⟨_, hBg, hg3, _, hc3m, cur, hcur, hcl, hct⟩ := hown3.row
  have hBw3 : Below B w w3 := (hB2.mono hB).trans (hgr3.below (Nat.le_trans hB hB2.size) (fun k hk => (hlt k hk).1))
  have hb3 : Bs w3 w3.heap.size A bs := fun hp => by
    obtain ⟨b, off, e, hlt', hcc⟩ := hb hp
    have h1 : w3.heap[b]? = w.heap[b]? := (hgr3.1.block b (by have := hB2.size; omega) (fun e' => hne b off e e'.symm)).trans (hB2.block b hlt')
    exact ⟨b, off, e, by have := hB2.size; have := hgr3.1.size; omega, fun j hj => (World.cell?_of_block h1).trans (hcc j hj)⟩
  have hcnt3 : Owns w3 w.heap.size 5 (.slice A1 U.length c1) U := hcnt.apart hgr3.1 (fun k hk e => by have := (hclt k hk).1; have := (hlt k e).2; omega)
  have hc3m' : c3 ≤ 9223372036854775807 := by unfold maxLen at hc3m; omega
  have hXl : (Lib.byteCells bs).length = bs.length := by simp [Lib.byteCells]
  have hUl : (Lib.byteCells U).length = U.length := by simp [Lib.byteCells]
  have hXp := hb3.cells
  have hX1 := byteCells_one bs
  have hU1 := byteCells_one U
  have hUp : ∀ w4, Wrote g w3 w4 → 0 < (Lib.byteCells U).length → ∃ ad, A1 = some ad ∧ ∀ j v, (Lib.byteCells U)[j]? = some v → w4.cell? (ad.add j) = some v := by
    intro w4 hw4 hp
    have hne : ∀ k, (Value.slice A1 U.length c1).ownBlock = some k → some g ≠ some k := by
      intro k hk e
      injection e with e
      subst e
      rcases hgr3.2 with h | ⟨k, h, hk3⟩
      · have h1 := (hlt g (by simpa [Value.ownBlock] using h.symm)).2
        have h2 := (hclt g hk).1
        omega
      · have h1 := (hclt g hk).2
        have h2 : g = k := by simpa [Value.ownBlock] using h
        omega
    exact ((hcnt3.apart hw4.1 hne).bs).2.cells hp
  have hinfo : (Tryz.prog.info? 5).map (·.size) = some 1 := by kernel_rfl
  have hg0 : (⟨g, 0, none⟩ : Addr).add out.length = ⟨g, out.length, none⟩ := by unfold Addr.add; split <;> simp_all
  by_cases hcap : c3 = out.length + U.length
  · have hn0 : bs.length = 0 := by omega
    obtain rfl : bs = [] := List.eq_nil_of_length_eq_zero hn0
    obtain ⟨w5, hr5, hcur5, hw5⟩ := run_copy_any (P := Tryz.prog) w3 42 42 3 5 Tryz.underlying42 hinfo (some ⟨g, out.length, none⟩) A1 U.length U.length U.length c1 g out.length _ 5 hcur
      (Lib.byteCells U) (by rw [hUl]; exact (Nat.min_self _).symm) (fun hp => ⟨rfl, hUp w3 (Wrote.refl _ _) hp⟩) (by omega) hU1
    have hr4 := run_copy_none (P := Tryz.prog) w3 42 42 3 5 (some ⟨g, 0, none⟩) A 0 0 0 c Tryz.underlying42 hinfo (Nat.min_self _)
    have hown5 : Owns w5 B 5 (.slice (some ⟨g, 0, none⟩) (out.length + U.length) c3) (out ++ (U ++ [])) := by
      have := splice_two (cur := cur) (O := Lib.byteCells out) (X := []) (Y := Lib.byteCells U) (n := 0) hct (by simp [Lib.byteCells]) rfl hUl (by simp only [Nat.add_zero]; omega)
      have h0 : splice cur (out.length + U.length) [] = cur := by simp [splice]
      rw [h0] at this
      have h1 := Owns.of_row (l := out ++ (U ++ [])) hBg (by simp only [List.length_append, List.length_nil]; omega) hc3m hcur5.out (by rw [length_splice _ _ _ (by omega)]; exact hcl)
        (by simp only [List.length_append, Lib.byteCells_append, List.length_nil]; rw [Nat.add_zero]; rw [Nat.add_zero] at this; rw [this]; simp [Lib.byteCells])
      simpa using h1
    have hgrf : Grew w w5 (.slice A0 out.length c0) (.slice (some ⟨g, 0, none⟩) (out.length + U.length) c3) := by
      refine Grew.wrote ?_ rfl hw5
      exact (Below.grew hB2 _).trans hgr3
    clear hXl hUl hXp hUp hcl hct hX1 hU1 hcur hz0 hz1 hz2 hi hg0 hcur5
    subst hcap
    go_wp2_with fail
    · exfalso
      simp_all
    · go_ret
      exact ⟨_, rfl, by rw [HU.out]; exact hown5, hgrf⟩
  · have hcap' : out.length + U.length < c3 := by omega
    clear hcap
    obtain ⟨w4, hr4, hcur4, hw4⟩ := run_copy_any (P := Tryz.prog) w3 42 42 3 5 Tryz.underlying42 hinfo (some ⟨g, out.length + U.length, none⟩) A bs.length (c3 - (out.length + U.length)) bs.length c g (out.length + U.length) cur 5 hcur
      (Lib.byteCells bs) (by rw [hXl]; exact (Nat.min_self _).symm) (fun hp => ⟨rfl, hXp hp⟩) (by omega) hX1
    obtain ⟨w5, hr5, hcur5, hw5⟩ := run_copy_any (P := Tryz.prog) w4 42 42 3 5 Tryz.underlying42 hinfo (some ⟨g, out.length, none⟩) A1 (out.length + U.length + bs.length - out.length) (c3 - out.length) U.length c1 g out.length _ 5 hcur4.out
      (Lib.byteCells U) (by rw [hUl]; exact (Nat.min_eq_left (by omega)).symm) (fun hp => ⟨rfl, hUp w4 hw4 hp⟩) (by rw [length_splice _ _ _ (by omega)]; omega) hU1
    have hown5 : Owns w5 B 5 (.slice (some ⟨g, 0, none⟩) (out.length + U.length + bs.length) c3) (out ++ (U ++ bs)) := by
      have := splice_two (cur := cur) (O := Lib.byteCells out) (X := Lib.byteCells bs) (Y := Lib.byteCells U) hct (by simp [Lib.byteCells]) hXl hUl (by omega)
      have h1 := Owns.of_row (l := out ++ (U ++ bs)) hBg (by simp only [List.length_append]; omega) hc3m hcur5.out (by rw [length_splice _ _ _ (by rw [length_splice _ _ _ (by omega)]; omega), length_splice _ _ _ (by omega)]; exact hcl)
        (by simp only [List.length_append, Lib.byteCells_append]; rw [← Nat.add_assoc, this, List.append_assoc])
      simpa only [List.length_append, ← Nat.add_assoc] using h1
    have hgrf : Grew w w5 (.slice A0 out.length c0) (.slice (some ⟨g, 0, none⟩) (out.length + U.length + bs.length) c3) := by
      refine Grew.wrote (Grew.wrote ?_ rfl hw4) rfl hw5
      exact (Below.grew hB2 _).trans hgr3
    clear hXl hUl hXp hUp hcl hct hX1 hU1 hcur hz0 hz1 hz2 hi hg0 hcur4 hcur5
    go_wp2_with fail
    go_ret
    exact ⟨_, rfl, by rw [HU.out]; exact hown5, hgrf⟩

end Go.Proofs.YtcajhndhjlfmaaaGreat

namespace Go.Proofs.YtcajhndhjlfmaaaGreat
open Go.RowKit
set_option linter.unusedVariables false
set_option linter.unusedSimpArgs false

set_option maxRecDepth 100000
theorem wpList_atE {P : Program} {ops : Array Oper} {rest : List Oper} {o : Oper} {a : Act} {w : World} {Q : Exit → Act → World → Prop} (n : Nat) (hd : o.dst = some n) (h : wpList P ops Q (o :: rest) a w) : wpList P ops Q (o :: rest) a w := h
theorem owns_down {w : World} {B B' : Nat} {T : TypeId} {v : Value} {l : List UInt8} (h : Owns w B T v l) (hB : B' ≤ B) : Owns w B' T v l := by
  refine ⟨h.1, ?_⟩
  rcases h.2 with h0 | ⟨g, cap, cur, e, e1, e2, e3⟩
  · exact .inl h0
  · exact .inr ⟨g, cap, cur, e, Nat.le_trans hB e1, e2, e3⟩

theorem vlZeroE (w : World) : (zeroValue 71).run Tryz.prog w = .ok (.agg #[.string ⟨#[]⟩, .int .i64 0, .bool false, .slice none 0 0]) w := by kernel_rfl
theorem clZeroE (w : World) : (zeroValue 73).run Tryz.prog w = .ok (.agg clZ.toArray) w := by kernel_rfl
theorem wpList_allocZE {P : Program} {ops : Array Oper} {rest : List Oper} {o : Oper} {a : Act} {w : World} {Q : Exit → Act → World → Prop} (hg : o.guard = none) (t : TypeId) (ho : o.op = .alloc t) (Z : Array Value) (hz : (zeroValue t).run P w = .ok (.agg Z) w)
    (h : wpList P ops Q rest (a.put o.dst (.pointer (some ⟨w.heap.size, 0, none⟩))) (w.alloc (.cells Z t))) : wpList P ops Q (o :: rest) a w := by
  refine wpList_plain hg fun K hK => ?_
  unfold Oper.wp execOp
  simp only [ho, Instr.alloc, Sem.run_bind, hz, Result.andThen_ok]
  exact hK _ _ h
set_option maxHeartbeats 1000000 in
theorem mark_any (x : Vx) (hq : x.v.quota ≤ 1048576) (VL : List Value) (hVL : VL = volC x) (w : World) : Calls Tryz.prog 34 #[.agg VL.toArray] w fun e w' => e = .returned (.int .u64 ((markV x.v : Nat) : Int)) ∧ Below w.heap.size w w' := by
  obtain ⟨q, hqq⟩ : ∃ z, x.v.quota = z := ⟨_, rfl⟩
  obtain ⟨fr, hfr⟩ : ∃ z, x.v.frozen = z := ⟨_, rfl⟩
  obtain ⟨W1, hW1⟩ : ∃ z, z = w.alloc (.cells VL.toArray 71) := ⟨_, rfl⟩
  have hb1 : Below w.heap.size w W1 := by rw [hW1]; exact (Below.refl _ _).alloc (Nat.le_refl _) _
  have hA1 : Arr W1 w.heap.size 71 VL := by rw [hW1]; exact Arr.new w _ _
  have c1 : W1.cell? ⟨w.heap.size, 1, none⟩ = some (.int .i64 (q : Nat)) := by rw [hA1.cell, hVL, ← hqq]; rfl
  have c2 : W1.cell? ⟨w.heap.size, 2, none⟩ = some (.bool fr) := by rw [hA1.cell, hVL, ← hfr]; rfl
  have Hm := Lib.hid (show markV x.v = 2 * q + (if fr = true then 1 else 0) by unfold markV; rw [hqq, hfr])
  rw [hqq] at hq
  have HW1 := Lib.hid hW1
  have Hb1 := Lib.hid hb1
  clear hqq hfr hW1 hb1 hA1 hVL
  go_enter Tryz.func34, Tryz.ntmps34
  go_upto_region 1 with fail
  rw [← HW1.out]
  clear HW1
  cases fr with
  | true =>
    go_wp2_with fail
    go_ret
    exact ⟨by rw [Hm.out]; simp, Hb1.out⟩
  | false =>
    go_wp2_with fail
    go_ret
    exact ⟨by rw [Hm.out]; simp, Hb1.out⟩

theorem grew_ne {w w' : World} {v v' : Value} {g : Nat} (h : Grew w w' v v') (hne : v.ownBlock ≠ some g) (hl : g < w.heap.size) : v'.ownBlock ≠ some g := fun e => by
  rcases h.2 with e1 | ⟨k, e1, hk⟩
  · rw [e1] at e; exact hne e
  · rw [e1] at e; injection e with e; omega
theorem arr_grew {w w' : World} {v v' : Value} {g : Nat} {T : TypeId} {cs : List Value} (h : Arr w g T cs) (hg : Grew w w' v v') (hne : v.ownBlock ≠ some g) : Arr w' g T cs := (hg.1.block g h.lt (fun e => hne e.symm)).trans h
theorem byteCells_getE {d : List UInt8} {j : Nat} (hj : j < d.length) : (Lib.byteCells d)[j]? = some (.int .u8 (d[j].toNat : Nat)) := by
  unfold Lib.byteCells
  rw [List.getElem?_map, List.getElem?_eq_getElem hj]
  rfl

set_option maxHeartbeats 8000000 in
theorem encode_any (s : Nat) (w : World) (F : Nat → Prop) (L : List Vol) (h : SetL w F s L) (hL : L.length ≤ 100000) (hokc : ∀ v ∈ L, VolOk v) (E : List UInt8) (hE : encV L = E) (hEl : E.length ≤ 10000000000) :
    Calls Tryz.prog 13 #[.pointer (some ⟨s, 0, none⟩)] w fun e w' => ∃ v, e = .returned v ∧ Owns w' w.heap.size 5 v E ∧ Below w.heap.size w w' := by
  obtain ⟨i0, hi, hz0, hz1, hz2⟩ := info_parts byteInfo
  obtain ⟨VZ, hVZ⟩ : ∃ CZ, CZ = [Value.string ⟨#[]⟩, .int .i64 0, .bool false, .slice none 0 0] := ⟨_, rfl⟩
  have HVZ := Lib.hid (fun w : World => show (zeroValue 71).run Tryz.prog w = .ok (.agg VZ.toArray) w by rw [hVZ]; exact vlZeroE w)
  have HVZl := Lib.hid (show VZ.length = 4 by rw [hVZ]; rfl)
  obtain ⟨KZ, hKZ⟩ : ∃ CZ, CZ = clZ := ⟨_, rfl⟩
  have HKZ := Lib.hid (fun w : World => show (zeroValue 73).run Tryz.prog w = .ok (.agg KZ.toArray) w by rw [hKZ]; exact clZeroE w)
  have HKl := Lib.hid (show KZ.length = 33 by rw [hKZ]; rfl)
  have Hall := Lib.hid (all_any s w F L h hL)
  have HE := Lib.hid hE
  have Hokc := Lib.hid hokc
  clear hVZ hKZ h hE hokc
  go_enter Tryz.func13, Tryz.ntmps13
  go_wp2_with fail
  refine Calls.mono Hall.out ?_
  rintro e w1 ⟨Aa, ca, xs, rfl, hx1, hx2, hVa, hxm, hb1⟩
  obtain ⟨nx, hnx⟩ : ∃ z, xs.length = z := ⟨_, rfl⟩
  have hnL : L.length = nx := by rw [← hxm, List.length_map, hnx]
  rw [hnx] at hx1 ⊢
  rw [hnL] at hL
  obtain ⟨B, hB⟩ : ∃ z, z = w1.heap.size := ⟨_, rfl⟩
  have Hn0 := Lib.hid (number_any B nx (by omega) (.slice none 0 0) [] w1 (Owns.nil _ _ _) (by omega) (by simp))
  have hca : ca ≤ 9223372036854775807 := by unfold maxLen at hx2; omega
  have HVa := Lib.hid hVa
  have Hxm := Lib.hid hxm
  have Hnx := Lib.hid hnx
  have HnL := Lib.hid hnL
  have HB := Lib.hid hB
  have Hb1 := Lib.hid hb1
  clear hVa hxm hnx hnL hB hb1 Hall hx2
  go_wp2_with fail
  refine Calls.mono Hn0.out ?_
  rintro e w2 ⟨v2, rfl, hO2, hg2⟩
  have hb2 : Below B w1 w2 := hg2.below (by have := HB.out; omega) fun k hk => by cases hk
  have HO2 := Lib.hid hO2
  clear hg2 hO2 Hn0
  go_wp2_with fail
  go_loopw [4, 17] (fun v i wr => ∃ (k : Nat) (pre : List UInt8), k ≤ nx ∧ i = .int .i64 (k : Nat) ∧ Owns wr B 5 v pre ∧ Hid (pre ++ (L.drop k).flatMap encVl = E) ∧ Below B w1 wr) (fun _ i _ => nx - (Go.RowKit.intOf i).toNat)
  case atStart => exact ⟨0, _, Nat.zero_le _, rfl, HO2.out, Lib.hid (by rw [← HE.out]; unfold encV; rw [HnL.out, List.drop_zero]; rfl), hb2⟩
  case round =>
    clear hb2
    obtain ⟨k, pre, hk, rfl, hO, Hpre, hbr⟩ := hrel
    have hBr : B ≤ wr.heap.size := Nat.le_trans (by have := HB.out; omega) hbr.size
    by_cases hlt : k < nx
    · have hd1 : decide ((k : Int) < (nx : Int)) = true := by simp; omega
      obtain ⟨x, hx⟩ : ∃ x, xs[k]? = some x := ⟨xs[k]'(by rw [Hnx.out]; exact hlt), List.getElem?_eq_getElem _⟩
      obtain ⟨ob, off, hAa, hG, hoblt, hrow⟩ := HVa.out.1 (by rw [Hnx.out]; omega)
      subst hAa
      have hxo := HVa.out.2 x (List.mem_of_getElem? hx)
      have hxL : L[k]? = some x.v := by rw [← Hxm.out, List.getElem?_map, hx]; rfl
      have hdrop : L.drop k = x.v :: L.drop (k + 1) := by
        obtain ⟨hl, he⟩ := List.getElem?_eq_some_iff.1 hxL
        rw [List.drop_eq_getElem_cons hl, he]
      obtain ⟨REST, hREST⟩ : ∃ z, z = (L.drop (k + 1)).flatMap encVl := ⟨_, rfl⟩
      have hpre := Hpre.out
      rw [hdrop, List.flatMap_cons, ← hREST] at hpre
      obtain ⟨VL, hVL⟩ : ∃ VL, VL = volC x := ⟨_, rfl⟩
      have hrg : wr.rangeAt ob (off + k * 4) VL := fun j v hj => by
        rw [hVL] at hj
        rw [← hrow k x hx j v hj]
        exact World.cell?_of_block (hbr.block ob (by have := HB.out; omega))
      have HVi := Lib.hid (show (Tryz.prog.info? 71).map (·.size) = some VL.length by rw [hVL]; exact vlSize)
      have HVj := Lib.hid (show (Tryz.prog.info? 71).map (·.size) = some VL.toArray.size ∧ VZ.toArray.size = VL.toArray.size by rw [hVL, List.size_toArray, List.size_toArray, HVZl.out]; exact ⟨vlSize, rfl⟩)
      have HV1 := Lib.hid (show VL.toArray.all (·.oneCell') = true by rw [hVL]; exact all_oneCell_toArray (volC_one x))
      obtain ⟨wa, hwa⟩ : ∃ W, W = (wr.alloc (.cells VZ.toArray 71)).setRow wr.heap.size VL.toArray := ⟨_, rfl⟩
      obtain ⟨hXa, hba⟩ := alloc_row wr 71 VZ.toArray VL
      rw [← hwa] at hXa hba
      obtain ⟨gv, hgv⟩ : ∃ z, z = wr.heap.size := ⟨_, rfl⟩
      rw [← hgv] at hXa
      have hOa : Owns wa B 5 u4 pre := hO.below hba fun k hk => (hO.lt k hk).2
      have hne : u4.ownBlock ≠ some gv := fun e => by have := (hO.lt gv e).2; omega
      have hbaw : Below B w1 wa := hbr.trans (hba.mono hBr)
      have Hwa := Lib.hid hwa
      have HVL := Lib.hid hVL
      have Hpr := Lib.hid hpre
      have HREST := Lib.hid hREST
      have Hxo := Lib.hid hxo
      have Hgv := Lib.hid hgv
      have Hxk := Lib.hid hxL
      clear hwa hVL hpre hREST hxo hrow hx hxL hdrop hgv hO hba hbr Hpre
      go_upto_region 6 with (first | ((with_reducible refine wpList_atE 20 (by rfl) ?_); refine wpList_load_mid rfl _ _ rfl ob (off + k * 4) rfl VL _ hrg Tryz.underlying71 rfl HVi.out ?_) | ((with_reducible refine wpList_atE 6 (by rfl) ?_); refine wpList_allocZE rfl 71 rfl VZ.toArray (HVZ.out _) ?_) | (refine wpList_store_row rfl _ _ _ rfl wr.heap.size VL.toArray rfl rfl 71 VZ.toArray (heap_alloc_new wr _) HVj.out.1 HVj.out.2 HV1.out ?_; rw [← Hwa.out]))
      rw [← Hgv.out]
      clear hrg
      obtain ⟨a, ha⟩ : ∃ z, z = x.v.name := ⟨_, rfl⟩
      obtain ⟨bs, hbs⟩ : ∃ z, z = a.data.toList := ⟨_, rfl⟩
      have hal : bs.length = a.size := by rw [hbs]; rfl
      have hvk : vkey x.v = bs := by rw [hbs, ha]; rfl
      obtain ⟨mk, hmk⟩ : ∃ z, markV x.v = z := ⟨_, rfl⟩
      have hmk2 : mk < 4000000 := by rw [← hmk]; unfold markV; have := Hxo.out.q; split <;> omega
      have Hpr2 := Lib.hid (show pre ++ (((Lib.uvarint bs.length ++ bs) ++ (Lib.uvarint mk ++ (Lib.uvarint x.v.cells.length ++ x.v.cells.flatMap encCl))) ++ REST) = E by
        rw [← Hpr.out]; unfold encVl encCs; rw [hvk, hmk])
      have Hln := Lib.hid (show pre.length + (bs.length + 1) ≤ 10000000000 by
        have h := congrArg List.length Hpr2.out
        simp only [List.length_append] at h
        have := Lib.uvarint_pos bs.length
        omega)
      obtain ⟨cp, hcp⟩ : ∃ z, z = grownCap wa a.size 0 5 := ⟨_, rfl⟩
      have hcge : a.size ≤ cp := by rw [hcp]; exact grownCap_ge wa a.size 0 5
      obtain ⟨wc, hwc⟩ : ∃ z, z = Lib.bytesWorld wa 5 a := ⟨_, rfl⟩
      have hcv : (convert 9 42 (.string a)).run Tryz.prog wa = .ok (.slice (some ⟨wa.heap.size, 0, none⟩) bs.length cp) wc := by
        rw [hal, hcp, hwc]
        exact Lib.run_convert_string_bytes wa _ _ 5 a Tryz.underlying9 Tryz.underlying42 Tryz.underlying5
      have hbc : Below wa.heap.size wa wc := by
        rw [hwc]
        exact ⟨rfl, rfl, rfl, by rw [Lib.bytesWorld_size]; omega, fun i hi => Lib.bytesWorld_at_old wa _ a i hi⟩
      have hbb : Bs wc wc.heap.size (some ⟨wa.heap.size, 0, none⟩) bs := fun hp => ⟨wa.heap.size, 0, rfl, by rw [hwc, Lib.bytesWorld_size]; omega, fun j hj => by
        rw [hwc, Nat.zero_add, hbs]
        exact Lib.bytesWorld_cell wa _ a j (by rw [← hal]; exact hj)⟩
      have hOc : Owns wc B 5 u4 pre := hOa.below hbc fun k hk => (hOa.lt k hk).2
      have hBa : B ≤ wa.heap.size := Nat.le_trans hBr (by have := hXa.lt; have := Hgv.out; omega)
      have Hn := Lib.hid (bytes_anyO B u4 pre bs (some ⟨wa.heap.size, 0, none⟩) cp wc hOc (Nat.le_trans hBa hbc.size) hbb (fun b off e e2 => by injection e with e; injection e with e; have := (hOa.lt b e2).2; omega) (by omega) (by have := Hln.out; omega))
      have HOc := Lib.hid hOc
      have hXc := hXa.up hbc
      have hbcw : Below B w1 wc := hbaw.trans (hbc.mono hBa)
      have c0 : wa.cell? ⟨gv, 0, none⟩ = some (.string a) := by rw [hXa.cell, HVL.out, ha]; rfl
      have Hhid := Lib.hid (show bs = a.data.toList ∧ markV x.v = mk from ⟨hbs, hmk⟩)
      clear hcp hwc hbc hbb hOc hOa hal hvk hbs ha hmk hXa hcge hbaw
      go_wp2_with fail
      refine Calls.mono Hn.out ?_
      rintro e w3 ⟨v3, rfl, hO3, hg3⟩
      have hX3 := arr_grew hXc hg3 hne
      have hne3 := grew_ne hg3 hne hXc.lt
      have hb3 : Below B w1 w3 := hbcw.trans (hg3.below (Nat.le_trans (by have := HB.out; omega) hbcw.size) fun k hk => (HOc.out.lt k hk).1)
      have hB3 : B ≤ w3.heap.size := Nat.le_trans (by have := HB.out; omega) hb3.size
      obtain ⟨p3, hp3⟩ : ∃ z, z = pre ++ (Lib.uvarint bs.length ++ bs) := ⟨_, rfl⟩
      rw [← hp3] at hO3
      obtain ⟨lc, hlc⟩ : ∃ z, x.v.cells.length = z := ⟨_, rfl⟩
      have Hpr3 := Lib.hid (show p3 ++ (Lib.uvarint mk ++ (Lib.uvarint lc ++ (x.v.cells.flatMap encCl ++ REST))) = E by
        rw [← Hpr2.out, hp3, hlc]; simp only [List.append_assoc])
      have hll : p3.length + 1 ≤ 10000000000 := by
        have h := congrArg List.length Hpr3.out
        simp only [List.length_append] at h
        have := Lib.uvarint_pos mk
        omega
      have hlcm : lc ≤ 1048576 := by rw [← hlc]; exact Hxo.out.len
      have Hlc := Lib.hid hlc
      have HO3 := Lib.hid hO3
      have Hmark := Lib.hid (mark_any x Hxo.out.q VL HVL.out w3)
      rw [Hhid.out.2] at Hmark
      clear hXc hg3 hne hbcw hp3 HOc Hn c0 hlc hO3 Hpr Hpr2 Hln
      go_wp2_with (first | ((with_reducible refine wpList_atE 27 (by rfl) ?_); refine wpList_load_row rfl _ _ rfl gv rfl 71 VL.toArray (0, 0) _ hX3 Tryz.underlying71 rfl HVj.out.1 ?_))
      refine Calls.mono Hmark.out ?_
      rintro e w4 ⟨rfl, hb34⟩
      have hX4 := hX3.up hb34
      have hO4 : Owns w4 B 5 v3 p3 := HO3.out.below hb34 fun k hk => (HO3.out.lt k hk).2
      have hB4 : B ≤ w4.heap.size := Nat.le_trans hB3 hb34.size
      have hb4 : Below B w1 w4 := hb3.trans (hb34.mono hB3)
      have HO4 := Lib.hid hO4
      have Hn4 := Lib.hid (number_any B mk (by omega) v3 p3 w4 hO4 hB4 (by omega))
      clear hX3 hb3 hb34 hO4 Hmark HO3
      go_wp2_with fail
      refine Calls.mono Hn4.out ?_
      rintro e w5 ⟨v5, rfl, hO5, hg5⟩
      have hX5 := arr_grew hX4 hg5 hne3
      have hne5 := grew_ne hg5 hne3 hX4.lt
      have hb5 : Below B w1 w5 := hb4.trans (hg5.below hB4 fun k hk => (HO4.out.lt k hk).1)
      have hB5 : B ≤ w5.heap.size := Nat.le_trans hB4 hg5.1.size
      obtain ⟨Ac, hAc⟩ : ∃ z, x.adr = z := ⟨_, rfl⟩
      obtain ⟨cc, hcc⟩ : ∃ z, x.cap = z := ⟨_, rfl⟩
      have hclc : lc ≤ cc ∧ cc ≤ 9223372036854775807 := by
        have h1 := Hxo.out.le
        have h2 := Hxo.out.lim
        rw [hcc] at h1 h2
        have h3 := Hlc.out
        unfold maxLen at h2
        omega
      have c3 : w5.cell? ⟨gv, 3, none⟩ = some (.slice Ac lc cc) := by rw [hX5.cell, HVL.out, ← hAc, ← hcc, ← Hlc.out]; rfl
      have hl5 : (p3 ++ Lib.uvarint mk).length + 1 ≤ 10000000000 := by
        have h := congrArg List.length Hpr3.out
        simp only [List.length_append] at h ⊢
        have := Lib.uvarint_pos lc
        omega
      have HO5 := Lib.hid hO5
      have HAc := Lib.hid hAc
      have Hn5 := Lib.hid (number_any B lc (by omega) v5 (p3 ++ Lib.uvarint mk) w5 hO5 hB5 (by omega))
      clear hX4 hg5 hb4 Hn4 HO4 hO5 hAc hcc hll hne3
      go_wp2_with fail
      refine Calls.mono Hn5.out ?_
      rintro e w6 ⟨v6, rfl, hO6, hg6⟩
      have hX6 := arr_grew hX5 hg6 hne5
      have hb6 : Below B w1 w6 := hb5.trans (hg6.below hB5 fun k hk => (HO5.out.lt k hk).1)
      have c3' : w6.cell? ⟨gv, 3, none⟩ = some (.slice Ac lc cc) := (World.cell?_of_block (hX6.trans hX5.symm)).trans c3
      have Hpr6 := Lib.hid (show ((p3 ++ Lib.uvarint mk) ++ Lib.uvarint lc) ++ (x.v.cells.flatMap encCl ++ REST) = E by rw [← Hpr3.out]; simp only [List.append_assoc])
      have HO6 := Lib.hid hO6
      clear hX5 hg6 hb5 Hn5 HO5 hO6 c3 hne5 hl5 hX6
      go_wp2_with fail
      clear c3'
      go_loopw [4, 39] (fun v i wr => ∃ (j : Nat) (pr : List UInt8), j ≤ lc ∧ i = .int .i64 (j : Nat) ∧ Owns wr B 5 v pr ∧ Hid (pr ++ ((x.v.cells.drop j).flatMap encCl ++ REST) = E) ∧ Below B w1 wr) (fun _ i _ => lc - (Go.RowKit.intOf i).toNat)
      case atStart => exact ⟨0, _, Nat.zero_le _, rfl, HO6.out, Lib.hid (by rw [List.drop_zero]; exact Hpr6.out), hb6⟩
      case round =>
        clear hb6
        obtain ⟨j, pr, hj, rfl, hO, Hpj, hbr⟩ := hrel
        have hBr2 : B ≤ wr.heap.size := Nat.le_trans (by have := HB.out; omega) hbr.size
        by_cases hjl : j < lc
        · have hd2 : decide ((j : Int) < (lc : Int)) = true := by simp; omega
          obtain ⟨d, hdj⟩ : ∃ z, x.v.cells[j]? = some z := ⟨_, List.getElem?_eq_getElem (by rw [Hlc.out]; exact hjl)⟩
          obtain ⟨cb, coff, hax, hcb, hx32, hrx⟩ := Hxo.out.cell hdj
          rw [HAc.out] at hax
          have hdrop : x.v.cells.drop j = d :: x.v.cells.drop (j + 1) := by
            obtain ⟨hl, he⟩ := List.getElem?_eq_some_iff.1 hdj
            rw [List.drop_eq_getElem_cons hl, he]
          obtain ⟨nn, hnn⟩ : ∃ z, d.1 = z := ⟨_, rfl⟩
          obtain ⟨f, hf⟩ : ∃ z, d.2 = z := ⟨_, rfl⟩
          have hnn20 : nn < 1048576 := by
            have h1 := (Hokc.out x.v (List.mem_of_getElem? Hxk.out)).c d (List.mem_of_getElem? hdj)
            rw [hnn] at h1; exact h1.1
          have hpj := Hpj.out
          rw [hdrop, List.flatMap_cons] at hpj
          have Hp2 := Lib.hid (show ((pr ++ Lib.uvarint nn) ++ f) ++ ((x.v.cells.drop (j + 1)).flatMap encCl ++ REST) = E by
            rw [← hpj]; unfold encCl; rw [hnn, hf]; simp only [List.append_assoc])
          have hlj : pr.length + (Lib.uvarint nn).length + f.length ≤ 10000000000 := by
            have h := congrArg List.length Hp2.out
            simp only [List.length_append] at h
            omega
          obtain ⟨XL, hXL⟩ : ∃ z, z = cellC d := ⟨_, rfl⟩
          have hXl : XL.length = 33 := by rw [hXL, cellC_length hx32]
          have hrX : wr.rangeAt cb (coff + j * 33) XL := fun t u ht => by
            rw [hXL] at ht
            exact (World.cell?_of_block (hbr.block cb (by have := HB.out; omega))).trans (hrx t u ht)
          have HXi := Lib.hid (show (Tryz.prog.info? 73).map (·.size) = some XL.length by rw [hXl]; exact clSize)
          have HXj := Lib.hid (show (Tryz.prog.info? 73).map (·.size) = some XL.toArray.size ∧ KZ.toArray.size = XL.toArray.size by rw [List.size_toArray, List.size_toArray, hXl, HKl.out]; exact ⟨clSize, rfl⟩)
          have HX1 := Lib.hid (show XL.toArray.all (·.oneCell') = true by rw [hXL]; exact all_oneCell_toArray (cellC_one _))
          obtain ⟨wa, hwa⟩ : ∃ W, W = (wr.alloc (.cells KZ.toArray 73)).setRow wr.heap.size XL.toArray := ⟨_, rfl⟩
          obtain ⟨hXa, hba⟩ := alloc_row wr 73 KZ.toArray XL
          rw [← hwa] at hXa hba
          obtain ⟨gc, hgc⟩ : ∃ z, z = wr.heap.size := ⟨_, rfl⟩
          rw [← hgc] at hXa
          have hOa : Owns wa B 5 u4 pr := hO.below hba fun k hk => (hO.lt k hk).2
          have hnec : u4.ownBlock ≠ some gc := fun e => by have := (hO.lt gc e).2; omega
          have hbaw : Below B w1 wa := hbr.trans (hba.mono hBr2)
          have hBa2 : B ≤ wa.heap.size := Nat.le_trans hBr2 hba.size
          have x0 : wa.cell? ⟨gc, 0, none⟩ = some (.int .i64 (nn : Nat)) := by rw [hXa.cell, hXL, ← hnn]; rfl
          have Hf := Lib.hid (show f.length = 32 ∧ ∀ (w' : World), Arr w' gc 73 XL → Bs w' w'.heap.size (some ⟨gc, 1, none⟩) f from ⟨by rw [← hf]; exact hx32, fun w' h => fun _ => ⟨gc, 1, rfl, h.lt, fun t ht => by
            rw [h.cell, hXL]
            show (Value.int IntKind.i64 (d.1 : Nat) :: Lib.byteCells d.2)[1 + t]? = _
            rw [Nat.add_comm 1 t, List.getElem?_cons_succ, hf]
            have hh := byteCells_getE ht
            rw [hh]
            simp [List.getD, ht]⟩⟩)
          have HOa := Lib.hid hOa
          have Hna := Lib.hid (number_any B nn (by omega) u4 pr wa hOa hBa2 (by have := Lib.uvarint_pos nn; omega))
          have Hwa := Lib.hid hwa
          have Hgc := Lib.hid hgc
          subst hax
          clear hwa hXL hXl hrx hdj hdrop hpj hnn hf hx32 hO hba hbr hgc hOa Hpj
          go_upto_region 12 with (first | ((with_reducible refine wpList_atE 42 (by rfl) ?_); refine wpList_load_mid rfl _ _ rfl cb (coff + j * 33) rfl XL _ hrX Tryz.underlying73 rfl HXi.out ?_) | ((with_reducible refine wpList_atE 8 (by rfl) ?_); refine wpList_allocZE rfl 73 rfl KZ.toArray (HKZ.out _) ?_) | (refine wpList_store_row rfl _ _ _ rfl wr.heap.size XL.toArray rfl rfl 73 KZ.toArray (heap_alloc_new wr _) HXj.out.1 HXj.out.2 HX1.out ?_; rw [← Hwa.out]))
          rw [← Hgc.out]
          clear hrX
          go_wp2_with fail
          refine Calls.mono Hna.out ?_
          rintro e w7 ⟨v7, rfl, hO7, hg7⟩
          have hX7 := arr_grew hXa hg7 hnec
          have hb7 : Below B w1 w7 := hbaw.trans (hg7.below hBa2 fun k hk => (HOa.out.lt k hk).1)
          have hB7 : B ≤ w7.heap.size := Nat.le_trans hBa2 hg7.1.size
          have Hbs7 := Lib.hid (Hf.out.2 w7 hX7)
          clear hXa hg7 hbaw x0 hnec hX7 Hna HOa
          go_wp2_with (refine wpList_append_bs rfl _ _ 42 rfl B 5 i0 (.int .u8 0) Tryz.underlying42 hi hz0 hz1 hz2 rfl v7 (pr ++ Lib.uvarint nn) rfl hO7 w7.heap.size (some ⟨gc, 1, none⟩) 32 32 f rfl Hf.out.1 Hbs7.out (by rw [List.length_append]; omega) hB7 ?_; intro v9 w9 hO9 hg9)
          have hb9 : Below B w1 w9 := hb7.trans (hg9.below hB7 fun k hk => (hO7.lt k hk).1)
          clear hg9 hO7 hb7
          go_wp2_with fail
          go_roundw
          case rel => exact ⟨j + 1, _, by omega, by go_num, hO9, Hp2, hb9⟩
          case measure => (simp [Go.RowKit.intOf]; try omega)
        · obtain rfl : j = lc := by omega
          have hd2 : decide ((j : Int) < (j : Int)) = false := by simp
          have Hnx2 := Lib.hid (show pr ++ (L.drop (k + 1)).flatMap encVl = E by
            have h := Hpj.out
            rw [List.drop_of_length_le (by rw [Hlc.out]; exact Nat.le_refl _)] at h
            rw [← HREST.out]
            simpa using h)
          go_wp2_with fail
          go_roundw
          case rel => exact ⟨k + 1, pr, by omega, by go_num, hO, Hnx2, hbr⟩
          case measure => (simp [Go.RowKit.intOf]; try omega)
    · obtain rfl : k = nx := by omega
      have hd1 : decide ((k : Int) < (k : Int)) = false := by simp
      have Hfin := Lib.hid (show pre = E by have h := Hpre.out; rw [List.drop_of_length_le (by rw [HnL.out]; exact Nat.le_refl _)] at h; simpa using h)
      go_wp2_with fail
      go_ret
      refine ⟨_, rfl, ?_, Hb1.out.trans (hbr.mono (by rw [HB.out]; exact Hb1.out.size))⟩
      rw [← Hfin.out]
      exact owns_down hO (by rw [HB.out]; exact Hb1.out.size)

end Go.Proofs.YtcajhndhjlfmaaaGreat

namespace Go.Proofs.YtcajhndhjlfmaaaGreat
open Go.RowKit
set_option linter.unusedVariables false

def RefPost (B : Nat) (sv : Value) (l : List UInt8) (w : World) (e : Ending) (w' : World) : Prop :=
  ∃ v', e = .returned v' ∧ Owns w' B 5 v' l ∧ Grew w w' sv v'

set_option maxHeartbeats 4000000 in
set_option maxRecDepth 100000 in
theorem rnumber_any (B x : Nat) (hx : x < 18446744073709551616) (sv : Value) (bs : List UInt8) (w : World) (hown : Owns w B 5 sv bs) (hBw : B ≤ w.heap.size) (hlim : bs.length + 10 ≤ 140737488355328) :
    Calls Tryz.prog 35 #[sv, .int .u64 x] w (RefPost B sv (bs ++ Lib.uvarint x) w) := by
  obtain ⟨i0, hi, hz0, hz1, hz2⟩ := info_parts byteInfo
  have hlen := Lib.uvarint_length64 hx
  go_enter Tryz.func35, Tryz.ntmps35
  go_wp2
  go_loopw [0, 1, 5] (fun vb vx vi wr => ∃ (y i : Nat) (pre : List UInt8), vx = .int .u64 y ∧ vi = .int .i64 i ∧ i ≤ 9 ∧ pre.length = i ∧ y ≤ x ∧ Hid (Lib.uvarint x = pre ++ Lib.uvarint y) ∧ Owns wr B 5 vb (bs ++ pre) ∧ Grew w wr sv vb)
    (fun _ vx _ _ => (intOf vx).toNat)
  case atStart => exact ⟨x, 0, [], rfl, rfl, by omega, rfl, Nat.le_refl _, rfl, by simpa using hown, Grew.refl _ _⟩
  case round =>
    obtain ⟨y, i, pre, rfl, rfl, hi9, hpi, hy, Hs, hown1, hgr⟩ := hrel
    have hpl : pre.length + (Lib.uvarint y).length ≤ 10 := by
      have h2 := congrArg List.length Hs.out
      rw [List.length_append] at h2
      omega
    have hyp := Lib.uvarint_pos y
    have hsz := hgr.1.size
    have hle : (bs ++ pre).length + 1 ≤ 140737488355328 := by rw [List.length_append]; omega
    have Hpi := Lib.hid hpi
    by_cases h128 : 128 ≤ y
    · have hi8 : i + 1 ≤ 9 := by
        rw [Lib.uvarint_big h128, List.length_cons] at hpl
        have := Lib.uvarint_pos (y / 128)
        omega
      have hq : (((y : Int) / 128) == 0) = false := by rw [beq_eq_false_iff_ne]; omega
      clear hpi
      go_wp2_with (at_builtin; refine wpList_append_own_at _ rfl _ _ 42 rfl B 5 i0 (.int .u8 0) 1 1 Tryz.underlying42 hi hz0 hz1 hz2 rfl (by decide) _ _ _ rfl (World.ownsRow.alloc hown1 _) ⟨wr.heap.size, 0, none⟩ 1 1 [Value.int .u8 ((y % 128 + 128 : Nat) : Int)] rfl rfl ?c1 ?c2 ?c3 ?c4 ?c5 ?_)
      case c1 =>
        intro j u hj
        match j, hj with
        | 0, hj => simp at hj; subst hj; simp [Addr.add]
      case c2 => intro u hu; simp at hu; subst hu; rfl
      case c3 => unfold maxLen; omega
      case c4 => omega
      case c5 => simp; omega
      intro v' w1 hown' hgrow _ hplace
      have hgr1 : Grew w w1 sv v' := (hgr.alloc _).step hgrow (by simpa using hplace)
      go_wp2
      go_roundw
      case rel =>
        refine ⟨y / 128, i + 1, pre ++ [(y % 128 + 128).toUInt8], by go_num, by go_num, hi8, by rw [List.length_append, Hpi.out]; rfl, by omega, (show _ = _ by rw [Hs.out, Lib.uvarint_big h128]; simp), ?_, hgr1⟩
        rw [← List.append_assoc]
        exact Owns.snoc (by omega) (by rw [List.length_append]) (by omega) hown'
      case measure => simp [intOf]; omega
    · have Hm := Lib.hid (Lib.uvarint_small (x := y) (by omega))
      have hq : (((y : Int) / 128) == 0) = true := by rw [beq_iff_eq]; omega
      have hy1 : y < 128 := by omega
      clear hpi h128
      go_wp2_with (at_builtin; refine wpList_append_own_at _ rfl _ _ 42 rfl B 5 i0 (.int .u8 0) 1 1 Tryz.underlying42 hi hz0 hz1 hz2 rfl (by decide) _ _ _ rfl (World.ownsRow.alloc hown1 _) ⟨wr.heap.size, 0, none⟩ 1 1 [Value.int .u8 ((y : Int) % 128)] rfl rfl ?c1 ?c2 ?c3 ?c4 ?c5 ?_)
      case c1 =>
        intro j u hj
        match j, hj with
        | 0, hj => simp at hj; subst hj; simp [Addr.add]
      case c2 => intro u hu; simp at hu; subst hu; rfl
      case c3 => unfold maxLen; omega
      case c4 => omega
      case c5 => simp; omega
      intro v' w1 hown' hgrow _ hplace
      have hgr1 : Grew w w1 sv v' := (hgr.alloc _).step hgrow (by simpa using hplace)
      go_wp2
      go_ret
      refine ⟨v', rfl, ?_, hgr1⟩
      rw [Hs.out, Hm.out, ← List.append_assoc]
      exact Owns.snoc (by omega) (by rw [List.length_append]) (by omega) hown'

set_option maxHeartbeats 4000000 in
set_option maxRecDepth 100000 in
theorem rbytes_any (B : Nat) (sv : Value) (out bs : List UInt8) (A : Option Addr) (c : Nat) (w : World) (hown : Owns w B 5 sv out) (hB : B ≤ w.heap.size) (hb : Bs w B A bs)
    (hlim : out.length + bs.length + 20 ≤ 140737488355328) :
    Calls Tryz.prog 36 #[sv, .slice A bs.length c] w (RefPost B sv (out ++ (Lib.uvarint bs.length ++ bs)) w) := by
  obtain ⟨i0, hi, hz0, hz1, hz2⟩ := info_parts byteInfo
  have hlt := hown.lt
  have hk2 := Lib.uvarint_length64 (x := bs.length) (by omega)
  go_enter Tryz.func36, Tryz.ntmps36
  go_wp2_with fail
  refine (rnumber_any B bs.length (by omega) sv out w hown hB (by omega)).mono ?_
  rintro e w1 ⟨v1, rfl, hown1, hg1⟩
  have hB1 := Nat.le_trans hB hg1.1.size
  have hb1 := hb.below (hg1.below hB (fun k hk => (hlt k hk).1)) (Nat.le_refl _)
  have hX1 := Lib.hid (byteCells_one bs)
  have hl1 := Lib.hid (show (Lib.byteCells bs).length = bs.length * 1 by simp [Lib.byteCells])
  have hln : (out ++ Lib.uvarint bs.length).length + bs.length ≤ 140737488355328 := by rw [List.length_append]; omega
  rcases A with _ | ad
  · have hl0 : bs.length = 0 := by
      rcases Nat.eq_zero_or_pos bs.length with e | e
      · exact e
      · obtain ⟨_, _, e, _⟩ := hb e; cases e
    obtain rfl : bs = [] := List.eq_nil_of_length_eq_zero hl0
    clear hl0
    have hrun : ∀ c ty, (Builtin.append_ #[42, 42] ty #[v1, .slice none 0 c]).run Tryz.prog w1 = .ok v1 w1 := by
      intro c ty
      exact run_append_nothing w1 B _ ty _ i0 1 Tryz.underlying42 hi v1 _ _ hown1 c
    go_wp2_with (at_builtin; refine Lib.wpList_append_run _ rfl _ _ _ _ rfl _ _ rfl rfl _ _ (hrun _ _) ?_)
    go_ret
    exact ⟨v1, rfl, by simpa using hown1, hg1⟩
  · have hcells : ∀ j v, (Lib.byteCells bs)[j]? = some v → w1.cell? (ad.add j) = some v := by
      intro j v hj
      obtain ⟨ad', e, hc⟩ := hb1.cells (by have := (List.getElem?_eq_some_iff.1 hj).1; omega)
      injection e with e
      subst e
      exact hc j v hj
    have Hc := Lib.hid hcells
    clear hcells
    go_wp2_with (at_builtin; refine wpList_append_own_at _ rfl _ _ 42 rfl B 5 i0 (.int .u8 0) 1 1 Tryz.underlying42 hi hz0 hz1 hz2 rfl (by decide) _ _ _ rfl hown1 ad bs.length c (Lib.byteCells bs) rfl hl1.out Hc.out hX1.out ?c3 ?c4 hB1 ?_)
    case c3 => unfold maxLen; omega
    case c4 => omega
    intro v' w2 hown' hgrow _ hplace
    go_wp2
    go_ret
    refine ⟨v', rfl, ?_, hg1.step hgrow hplace⟩
    have : out ++ (Lib.uvarint bs.length ++ bs) = (out ++ Lib.uvarint bs.length) ++ bs := by simp
    rw [this]
    unfold Owns
    rw [Lib.byteCells_append, List.length_append (bs := bs)]
    simpa using hown'

end Go.Proofs.YtcajhndhjlfmaaaGreat

namespace Go.Proofs.YtcajhndhjlfmaaaGreat
open Go.RowKit
set_option linter.unusedVariables false
set_option linter.unusedSimpArgs false

set_option maxRecDepth 100000
theorem wpList_atR {P : Program} {ops : Array Oper} {rest : List Oper} {o : Oper} {a : Act} {w : World} {Q : Exit → Act → World → Prop} (n : Nat) (hd : o.dst = some n) (h : wpList P ops Q (o :: rest) a w) : wpList P ops Q (o :: rest) a w := h
theorem owns_downR {w : World} {B B' : Nat} {T : TypeId} {v : Value} {l : List UInt8} (h : Owns w B T v l) (hB : B' ≤ B) : Owns w B' T v l := by
  refine ⟨h.1, ?_⟩
  rcases h.2 with h0 | ⟨g, cap, cur, e, e1, e2, e3⟩
  · exact .inl h0
  · exact .inr ⟨g, cap, cur, e, Nat.le_trans hB e1, e2, e3⟩
theorem owns_emptyR (w : World) (B : Nat) (hB : B ≤ w.heap.size) : Owns (w.alloc (.cells #[] 5)) B 5 (.slice (some ⟨w.heap.size, 0, none⟩) 0 0) [] :=
  ⟨rfl, .inr ⟨w.heap.size, 0, #[], rfl, hB, heap_alloc_new w _, Nat.le_refl _, by unfold maxLen; omega, rfl, rfl⟩⟩
set_option maxHeartbeats 4000000 in
set_option maxRecDepth 100000 in
theorem rbytes_anyO (B : Nat) (sv : Value) (out bs : List UInt8) (A : Option Addr) (c : Nat) (w : World) (hown : Owns w B 5 sv out) (hB : B ≤ w.heap.size) (hb : Bs w w.heap.size A bs) (hne : ∀ b off, A = some ⟨b, off, none⟩ → sv.ownBlock ≠ some b)
    (hlim : out.length + bs.length + 20 ≤ 140737488355328) :
    Calls Tryz.prog 36 #[sv, .slice A bs.length c] w (RefPost B sv (out ++ (Lib.uvarint bs.length ++ bs)) w) := by
  obtain ⟨i0, hi, hz0, hz1, hz2⟩ := info_parts byteInfo
  have hlt := hown.lt
  have hk2 := Lib.uvarint_length64 (x := bs.length) (by omega)
  go_enter Tryz.func36, Tryz.ntmps36
  go_wp2_with fail
  refine (rnumber_any B bs.length (by omega) sv out w hown hB (by omega)).mono ?_
  rintro e w1 ⟨v1, rfl, hown1, hg1⟩
  have hB1 := Nat.le_trans hB hg1.1.size
  have hb1 : Bs w1 w1.heap.size A bs := fun hp => by
    obtain ⟨b, off, e, hlt', hcc⟩ := hb hp
    have h1 : w1.heap[b]? = w.heap[b]? := hg1.1.block b hlt' (fun e' => hne b off e e'.symm)
    exact ⟨b, off, e, by have := hg1.1.size; omega, fun j hj => (World.cell?_of_block h1).trans (hcc j hj)⟩
  have hln : (out ++ Lib.uvarint bs.length).length + bs.length ≤ 140737488355328 := by rw [List.length_append]; omega
  have Hln := Lib.hid hln
  have Hb1 := Lib.hid hb1
  have Hg1 := Lib.hid hg1
  clear hb hb1 hln hg1 hne hlim
  go_wp2_with (refine wpList_append_bs rfl _ _ 42 rfl B 5 i0 (.int .u8 0) Tryz.underlying42 hi hz0 hz1 hz2 rfl v1 _ rfl hown1 w1.heap.size A bs.length c bs rfl rfl Hb1.out Hln.out hB1 ?_; intro v2 w2 hown2 hg2)
  have e : out ++ (Lib.uvarint bs.length ++ bs) = (out ++ Lib.uvarint bs.length) ++ bs := by simp
  have H2 := Lib.hid hown2
  have Hg := Lib.hid (Hg1.out.trans hg2)
  have E := Lib.hid e
  clear hown2 hg2 e
  go_wp2
  go_ret
  exact ⟨v2, rfl, by rw [E.out]; exact H2.out, Hg.out⟩

theorem byteCells_getR {d : List UInt8} {j : Nat} (hj : j < d.length) : (Lib.byteCells d)[j]? = some (.int .u8 (d[j].toNat : Nat)) := by
  unfold Lib.byteCells
  rw [List.getElem?_map, List.getElem?_eq_getElem hj]
  rfl
set_option maxHeartbeats 8000000 in
theorem rencode_any (A : Option Addr) (n c : Nat) (L : List Vol) (w : World) (G : Nat → Prop) (h : VSl w G A n c L) (hn : n ≤ 100000) (hokc : ∀ v ∈ L, VolOk v) (E : List UInt8) (hE : encV L = E) (hEl : E.length ≤ 10000000000) :
    Calls Tryz.prog 14 #[.slice A n c] w fun e w' => ∃ v, e = .returned v ∧ Owns w' w.heap.size 5 v E ∧ Below w.heap.size w w' := by
  obtain ⟨i0, hi, hz0, hz1, hz2⟩ := info_parts byteInfo
  obtain ⟨xs, hxs, hxn, hnc, hcm, hVa, _⟩ := h
  have hc63 : c ≤ 9223372036854775807 := by unfold maxLen at hcm; omega
  have hnL : L.length = n := by rw [← hxs, List.length_map, hxn]
  obtain ⟨B, hB⟩ : ∃ z, z = w.heap.size := ⟨_, rfl⟩
  obtain ⟨W1, hW1⟩ : ∃ z, z = w.alloc (.cells #[] 5) := ⟨_, rfl⟩
  have hb1 : Below B w W1 := by rw [hW1, hB]; exact (Below.refl _ _).alloc (Nat.le_refl _) _
  have hO1 : Owns W1 B 5 (.slice (some ⟨w.heap.size, 0, none⟩) 0 0) [] := by rw [hW1]; exact owns_emptyR w B (by omega)
  have hB1 : B ≤ W1.heap.size := Nat.le_trans (by omega) hb1.size
  have Hn1 := Lib.hid (rnumber_any B n (by omega) (.slice (some ⟨w.heap.size, 0, none⟩) 0 0) [] W1 hO1 hB1 (by simp))
  have HO1 := Lib.hid hO1
  have Hb1 := Lib.hid hb1
  have HVa := Lib.hid hVa
  have Hxs := Lib.hid hxs
  have Hxn := Lib.hid hxn
  have HnL := Lib.hid hnL
  have HB := Lib.hid hB
  have HE := Lib.hid hE
  have Hokc := Lib.hid hokc
  have HW1 := Lib.hid hW1
  clear hVa hxs hxn hnL hB hE hokc hW1 hO1 hb1 hcm
  go_enter Tryz.func14, Tryz.ntmps14
  go_wp2_with fail
  change Calls _ _ _ (w.alloc (.cells #[] 5)) _
  rw [← HW1.out]
  refine Calls.mono Hn1.out ?_
  rintro e w2 ⟨v2, rfl, hO2, hg2⟩
  have hb2 : Below B w w2 := Hb1.out.trans (hg2.below hB1 fun k hk => (HO1.out.lt k hk).1)
  have HO2 := Lib.hid hO2
  clear hg2 hO2 Hn1 HW1
  go_wp2_with fail
  go_loopw [3, 4] (fun v i wr => ∃ (k : Nat) (pre : List UInt8), k ≤ n ∧ i = .int .i64 (k : Nat) ∧ Owns wr B 5 v pre ∧ Hid (pre ++ (L.drop k).flatMap encVl = E) ∧ Below B w wr) (fun _ i _ => n - (Go.RowKit.intOf i).toNat)
  case atStart => exact ⟨0, _, Nat.zero_le _, rfl, HO2.out, Lib.hid (by rw [← HE.out]; unfold encV; rw [HnL.out, List.drop_zero]; rfl), hb2⟩
  case round =>
    clear hb2
    obtain ⟨k, pre, hk, rfl, hO, Hpre, hbr⟩ := hrel
    have hBr : B ≤ wr.heap.size := Nat.le_trans (by have := HB.out; omega) hbr.size
    by_cases hlt : k < n
    · have hd1 : decide ((k : Int) < (n : Int)) = true := by simp; omega
      obtain ⟨x, hx⟩ : ∃ x, xs[k]? = some x := ⟨xs[k]'(by rw [Hxn.out]; exact hlt), List.getElem?_eq_getElem _⟩
      obtain ⟨ob, off, hAa, hG, hoblt, hrow⟩ := HVa.out.1 (by rw [Hxn.out]; omega)
      subst hAa
      have hxo := HVa.out.2 x (List.mem_of_getElem? hx)
      have hxL : L[k]? = some x.v := by rw [← Hxs.out, List.getElem?_map, hx]; rfl
      have hdrop : L.drop k = x.v :: L.drop (k + 1) := by
        obtain ⟨hl, he⟩ := List.getElem?_eq_some_iff.1 hxL
        rw [List.drop_eq_getElem_cons hl, he]
      obtain ⟨REST, hREST⟩ : ∃ z, z = (L.drop (k + 1)).flatMap encVl := ⟨_, rfl⟩
      have hpre := Hpre.out
      rw [hdrop, List.flatMap_cons, ← hREST] at hpre
      obtain ⟨a, ha⟩ : ∃ z, z = x.v.name := ⟨_, rfl⟩
      obtain ⟨q, hq⟩ : ∃ z, x.v.quota = z := ⟨_, rfl⟩
      obtain ⟨fr, hfr⟩ : ∃ z, x.v.frozen = z := ⟨_, rfl⟩
      obtain ⟨lc, hlc⟩ : ∃ z, x.v.cells.length = z := ⟨_, rfl⟩
      obtain ⟨Ac, hAc⟩ : ∃ z, x.adr = z := ⟨_, rfl⟩
      obtain ⟨cc, hcc⟩ : ∃ z, x.cap = z := ⟨_, rfl⟩
      have hr4 := hrow k x hx
      have Hc := Lib.hid (fun (w' : World) (hb : Below B w w') => show w'.cell? ⟨ob, off + k * 4, none⟩ = some (.string a) ∧ w'.cell? ⟨ob, off + k * 4 + 1, none⟩ = some (.int .i64 (q : Nat)) ∧ w'.cell? ⟨ob, off + k * 4 + 2, none⟩ = some (.bool fr) ∧ w'.cell? ⟨ob, off + k * 4 + 3, none⟩ = some (.slice Ac lc cc) from by
        have hob : ob < B := by have := HB.out; omega
        rw [ha, ← hq, ← hfr, ← hlc, ← hAc, ← hcc]
        exact ⟨(World.cell?_of_block (hb.block ob hob)).trans (hr4 0 _ rfl), (World.cell?_of_block (hb.block ob hob)).trans (hr4 1 _ rfl), (World.cell?_of_block (hb.block ob hob)).trans (hr4 2 _ rfl), (World.cell?_of_block (hb.block ob hob)).trans (hr4 3 _ rfl)⟩)
      obtain ⟨bs, hbs⟩ : ∃ z, z = a.data.toList := ⟨_, rfl⟩
      have hal : bs.length = a.size := by rw [hbs]; rfl
      have hvk : vkey x.v = bs := by rw [hbs, ha]; rfl
      obtain ⟨mk, hmk⟩ : ∃ z, markV x.v = z := ⟨_, rfl⟩
      have hq20 : q ≤ 1048576 := by rw [← hq]; exact hxo.q
      have Hmk := Lib.hid (show mk = 2 * q + (if fr = true then 1 else 0) by rw [← hmk]; unfold markV; rw [hq, hfr])
      have hmk2 : mk < 4000000 := by rw [Hmk.out]; split <;> omega
      have Hpr2 := Lib.hid (show pre ++ (((Lib.uvarint bs.length ++ bs) ++ (Lib.uvarint mk ++ (Lib.uvarint lc ++ x.v.cells.flatMap encCl))) ++ REST) = E by
        rw [← hpre]; unfold encVl encCs; rw [hvk, hmk, hlc])
      have hlcm : lc ≤ 1048576 := by rw [← hlc]; exact hxo.len
      have hclc : lc ≤ cc ∧ cc ≤ 9223372036854775807 := by
        have h1 := hxo.le
        have h2 := hxo.lim
        rw [hcc, hlc] at h1
        rw [hcc] at h2
        unfold maxLen at h2
        omega
      have HREST := Lib.hid hREST
      have Hxo := Lib.hid hxo
      have Hxk := Lib.hid hxL
      have Hlc := Lib.hid hlc
      have HAc := Lib.hid hAc
      have Hbs := Lib.hid hbs
      have Hal := Lib.hid hal
      have hc0 := Hc.out wr hbr
      obtain ⟨_, c1, c2, _⟩ := hc0
      have HO := Lib.hid hO
      have Hbr := Lib.hid hbr
      clear hREST hpre hxo hrow hx hxL hdrop ha hq hfr hlc hAc hcc hr4 hvk hmk hbs hal hO hbr Hpre
      go_upto_if 29 with (fail)
      go_cut [5] (fun s wx => s = .int .u64 (mk : Nat) ∧ Owns wx B 5 u3 pre ∧ Below B w wx)
      case first =>
        cases fr with
        | true =>
          have hmq : (2 : Int) * (q : Int) + 1 = (mk : Int) := by have := Hmk.out; rw [if_pos rfl] at this; omega
          go_wp2_with fail
          go_meet
          exact ⟨by first | rfl | (congr 1 <;> omega), HO.out, Hbr.out⟩
        | false =>
          have hmq : (2 : Int) * (q : Int) = (mk : Int) := by have := Hmk.out; rw [if_neg (by simp)] at this; omega
          go_wp2_with fail
          go_meet
          exact ⟨by first | rfl | (congr 1 <;> omega), HO.out, Hbr.out⟩
      case rest =>
        obtain ⟨rfl, hO, hbr⟩ := hcut
        clear c1 c2 HO Hbr
        have hBc : B ≤ wc.heap.size := Nat.le_trans (by have := HB.out; omega) hbr.size
        obtain ⟨c0, _, _, _⟩ := Hc.out wc hbr
        obtain ⟨cp, hcp⟩ : ∃ z, z = grownCap wc a.size 0 5 := ⟨_, rfl⟩
        have hcge : a.size ≤ cp := by rw [hcp]; exact grownCap_ge wc a.size 0 5
        obtain ⟨wd, hwd⟩ : ∃ z, z = Lib.bytesWorld wc 5 a := ⟨_, rfl⟩
        have hcv : (convert 9 42 (.string a)).run Tryz.prog wc = .ok (.slice (some ⟨wc.heap.size, 0, none⟩) bs.length cp) wd := by
          rw [Hal.out, hcp, hwd]
          exact Lib.run_convert_string_bytes wc _ _ 5 a Tryz.underlying9 Tryz.underlying42 Tryz.underlying5
        have hbd : Below wc.heap.size wc wd := by
          rw [hwd]
          exact ⟨rfl, rfl, rfl, by rw [Lib.bytesWorld_size]; omega, fun i hi => Lib.bytesWorld_at_old wc _ a i hi⟩
        have hbb : Bs wd wd.heap.size (some ⟨wc.heap.size, 0, none⟩) bs := fun hp => ⟨wc.heap.size, 0, rfl, by rw [hwd, Lib.bytesWorld_size]; omega, fun j hj => by
          rw [hwd, Nat.zero_add, Hbs.out]
          exact Lib.bytesWorld_cell wc _ a j (by rw [← Hal.out]; exact hj)⟩
        have hOd : Owns wd B 5 u3 pre := hO.below hbd fun k hk => (hO.lt k hk).2
        have Hln := Lib.hid (show pre.length + (bs.length + 1) ≤ 10000000000 by
          have h := congrArg List.length Hpr2.out
          simp only [List.length_append] at h
          have := Lib.uvarint_pos bs.length
          omega)
        have Hn := Lib.hid (rbytes_anyO B u3 pre bs (some ⟨wc.heap.size, 0, none⟩) cp wd hOd (Nat.le_trans hBc hbd.size) hbb (fun b off e e2 => by injection e with e; injection e with e; have := (hO.lt b e2).2; omega) (by have := Hln.out; omega))
        have HOd := Lib.hid hOd
        have hbdw : Below B w wd := hbr.trans (hbd.mono hBc)
        clear hcp hwd hbd hbb hOd hO hbr hcge
        go_wp2_with fail
        refine Calls.mono Hn.out ?_
        rintro e w3 ⟨v3, rfl, hO3, hg3⟩
        have hb3 : Below B w w3 := hbdw.trans (hg3.below (Nat.le_trans (by have := HB.out; omega) hbdw.size) fun k hk => (HOd.out.lt k hk).1)
        have hB3 : B ≤ w3.heap.size := Nat.le_trans (by have := HB.out; omega) hb3.size
        obtain ⟨p3, hp3⟩ : ∃ z, z = pre ++ (Lib.uvarint bs.length ++ bs) := ⟨_, rfl⟩
        rw [← hp3] at hO3
        have Hpr3 := Lib.hid (show p3 ++ (Lib.uvarint mk ++ (Lib.uvarint lc ++ (x.v.cells.flatMap encCl ++ REST))) = E by
          rw [← Hpr2.out, hp3]; simp only [List.append_assoc])
        have hll : p3.length + 1 ≤ 10000000000 := by
          have h := congrArg List.length Hpr3.out
          simp only [List.length_append] at h
          have := Lib.uvarint_pos mk
          omega
        have HO3 := Lib.hid hO3
        have Hn4 := Lib.hid (rnumber_any B mk (by omega) v3 p3 w3 hO3 hB3 (by omega))
        clear hg3 hbdw hp3 HOd Hn c0 hcv hO3 Hpr2 Hln
        go_wp2_with fail
        refine Calls.mono Hn4.out ?_
        rintro e w5 ⟨v5, rfl, hO5, hg5⟩
        have hb5 : Below B w w5 := hb3.trans (hg5.below hB3 fun k hk => (HO3.out.lt k hk).1)
        have hB5 : B ≤ w5.heap.size := Nat.le_trans hB3 hg5.1.size
        obtain ⟨_, _, _, c3⟩ := Hc.out w5 hb5
        have hl5 : (p3 ++ Lib.uvarint mk).length + 1 ≤ 10000000000 := by
          have h := congrArg List.length Hpr3.out
          simp only [List.length_append] at h ⊢
          have := Lib.uvarint_pos lc
          omega
        have HO5 := Lib.hid hO5
        have Hn5 := Lib.hid (rnumber_any B lc (by omega) v5 (p3 ++ Lib.uvarint mk) w5 hO5 hB5 (by omega))
        clear hg5 hb3 Hn4 HO3 hO5 hll
        go_wp2_with fail
        refine Calls.mono Hn5.out ?_
        rintro e w6 ⟨v6, rfl, hO6, hg6⟩
        have hb6 : Below B w w6 := hb5.trans (hg6.below hB5 fun k hk => (HO5.out.lt k hk).1)
        have Hpr6 := Lib.hid (show ((p3 ++ Lib.uvarint mk) ++ Lib.uvarint lc) ++ (x.v.cells.flatMap encCl ++ REST) = E by rw [← Hpr3.out]; simp only [List.append_assoc])
        have HO6 := Lib.hid hO6
        clear hg6 hb5 Hn5 HO5 hO6 c3 hl5
        go_wp2_with fail
        go_loopw [3, 6] (fun v i wr => ∃ (j : Nat) (pr : List UInt8), j ≤ lc ∧ i = .int .i64 (j : Nat) ∧ Owns wr B 5 v pr ∧ Hid (pr ++ ((x.v.cells.drop j).flatMap encCl ++ REST) = E) ∧ Below B w wr) (fun _ i _ => lc - (Go.RowKit.intOf i).toNat)
        case atStart => exact ⟨0, _, Nat.zero_le _, rfl, HO6.out, Lib.hid (by rw [List.drop_zero]; exact Hpr6.out), hb6⟩
        case round =>
          clear hb6
          obtain ⟨j, pr, hj, rfl, hO, Hpj, hbr⟩ := hrel
          have hBr2 : B ≤ wr.heap.size := Nat.le_trans (by have := HB.out; omega) hbr.size
          obtain ⟨_, _, _, c3⟩ := Hc.out wr hbr
          by_cases hjl : j < lc
          · have hd2 : decide ((j : Int) < (lc : Int)) = true := by simp; omega
            obtain ⟨d, hdj⟩ : ∃ z, x.v.cells[j]? = some z := ⟨_, List.getElem?_eq_getElem (by rw [Hlc.out]; exact hjl)⟩
            obtain ⟨cb, coff, hax, hcb, hx32, hrx⟩ := Hxo.out.cell hdj
            rw [HAc.out] at hax
            have hdrop : x.v.cells.drop j = d :: x.v.cells.drop (j + 1) := by
              obtain ⟨hl, he⟩ := List.getElem?_eq_some_iff.1 hdj
              rw [List.drop_eq_getElem_cons hl, he]
            obtain ⟨nn, hnn⟩ : ∃ z, d.1 = z := ⟨_, rfl⟩
            obtain ⟨f, hf⟩ : ∃ z, d.2 = z := ⟨_, rfl⟩
            have hnn20 : nn < 1048576 := by
              have h1 := (Hokc.out x.v (List.mem_of_getElem? Hxk.out)).c d (List.mem_of_getElem? hdj)
              rw [hnn] at h1; exact h1.1
            have hpj := Hpj.out
            rw [hdrop, List.flatMap_cons] at hpj
            have Hp2 := Lib.hid (show ((pr ++ Lib.uvarint nn) ++ f) ++ ((x.v.cells.drop (j + 1)).flatMap encCl ++ REST) = E by
              rw [← hpj]; unfold encCl; rw [hnn, hf]; simp only [List.append_assoc])
            have hlj : pr.length + (Lib.uvarint nn).length + f.length ≤ 10000000000 := by
              have h := congrArg List.length Hp2.out
              simp only [List.length_append] at h
              omega
            have hcB : cb < B := by have := HB.out; omega
            have x0 : wr.cell? ⟨cb, coff + j * 33, none⟩ = some (.int .i64 (nn : Nat)) := by
              have h := (World.cell?_of_block (hbr.block cb hcB)).trans (hrx 0 _ rfl)
              rw [hnn] at h
              exact h
            have Hf := Lib.hid (show f.length = 32 ∧ ∀ (w' : World), Below B w w' → Bs w' w'.heap.size (some ⟨cb, coff + j * 33 + 1, none⟩) f from ⟨by rw [← hf]; exact hx32, fun w' hb => fun _ => ⟨cb, coff + j * 33 + 1, rfl, by have := hb.size; omega, fun t ht => by
              have h1 := (World.cell?_of_block (hb.block cb hcB)).trans (hrx (t + 1) (.int .u8 (f[t].toNat : Nat)) (by
                show (Value.int IntKind.i64 (d.1 : Nat) :: Lib.byteCells d.2)[t + 1]? = _
                rw [List.getElem?_cons_succ, hf]
                exact byteCells_getR ht))
              rw [Nat.add_assoc _ 1 t, Nat.add_comm 1 t, h1]
              simp [List.getD, ht]⟩⟩)
            have Hna := Lib.hid (rnumber_any B nn (by omega) u3 pr wr hO hBr2 (by have := Lib.uvarint_pos nn; omega))
            have HO := Lib.hid hO
            have Hbr := Lib.hid hbr
            subst hax
            clear hrx hdj hdrop hpj hnn hf hx32 hO hbr Hpj
            go_wp2_with fail
            refine Calls.mono Hna.out ?_
            rintro e w7 ⟨v7, rfl, hO7, hg7⟩
            have hb7 : Below B w w7 := Hbr.out.trans (hg7.below hBr2 fun k hk => (HO.out.lt k hk).1)
            have hB7 : B ≤ w7.heap.size := Nat.le_trans hBr2 hg7.1.size
            have Hbs7 := Lib.hid (Hf.out.2 w7 hb7)
            obtain ⟨_, _, _, c3⟩ := Hc.out w7 hb7
            clear hg7 x0 Hna HO Hbr
            go_wp2_with (refine wpList_append_bs rfl _ _ 42 rfl B 5 i0 (.int .u8 0) Tryz.underlying42 hi hz0 hz1 hz2 rfl v7 (pr ++ Lib.uvarint nn) rfl hO7 w7.heap.size (some ⟨cb, coff + j * 33 + 1, none⟩) 32 32 f rfl Hf.out.1 Hbs7.out (by rw [List.length_append]; omega) hB7 ?_; intro v9 w9 hO9 hg9)
            have hb9 : Below B w w9 := hb7.trans (hg9.below hB7 fun k hk => (hO7.lt k hk).1)
            clear hg9 hO7 hb7 c3
            go_wp2_with fail
            go_roundw
            case rel => exact ⟨j + 1, _, by omega, by go_num, hO9, Hp2, hb9⟩
            case measure => (simp [Go.RowKit.intOf]; try omega)
          · obtain rfl : j = lc := by omega
            have hd2 : decide ((j : Int) < (j : Int)) = false := by simp
            have Hnx2 := Lib.hid (show pr ++ (L.drop (k + 1)).flatMap encVl = E by
              have h := Hpj.out
              rw [List.drop_of_length_le (by rw [Hlc.out]; exact Nat.le_refl _)] at h
              rw [← HREST.out]
              simpa using h)
            go_wp2_with fail
            go_roundw
            case rel => exact ⟨k + 1, pr, by omega, by go_num, hO, Hnx2, hbr⟩
            case measure => (simp [Go.RowKit.intOf]; try omega)
    · obtain rfl : k = n := by omega
      have hd1 : decide ((k : Int) < (k : Int)) = false := by simp
      have Hfin := Lib.hid (show pre = E by have h := Hpre.out; rw [List.drop_of_length_le (by rw [HnL.out]; exact Nat.le_refl _)] at h; simpa using h)
      go_wp2_with fail
      go_ret
      refine ⟨_, rfl, ?_, by rw [← HB.out]; exact hbr⟩
      rw [← Hfin.out, ← HB.out]
      exact hO

end Go.Proofs.YtcajhndhjlfmaaaGreat

namespace Go.Proofs.YtcajhndhjlfmaaaGreat
open Go.RowKit
set_option linter.unusedVariables false
set_option linter.unusedSimpArgs false

set_option maxRecDepth 100000
set_option maxHeartbeats 4000000 in
theorem get_err (s : Nat) (nm : ByteArray) (hsz : nm.size ≤ maxLen) (n : Int) (w : World) (F : Nat → Prop) (M : List Vm) (h : SetW w F s M) (k : Int) (hk0 : k ≠ 0) (hk : askF M nm n = (.pointer none, k)) :
    Calls Tryz.prog 8 #[.pointer (some ⟨s, 0, none⟩), .string nm, .int .i64 n] w fun e w' => e = .returned (.tuple #[.agg (Lib.byteCells zeros).toArray, .bool false, .int .i64 k]) ∧ Below w.heap.size w w' := by
  obtain ⟨ZL, hZL⟩ : ∃ ZL, ZL = Lib.byteCells zeros := ⟨_, rfl⟩
  have HZi := Lib.hid (show (Tryz.prog.info? 29).map (·.size) = some ZL.toArray.size by rw [hZL]; simpa [Lib.byteCells, zeros] using digInfo)
  have HZ1 := Lib.hid (show ZL.toArray.all (·.oneCell') = true by rw [hZL]; exact dig_one _)
  have HZb := Lib.hid (show Tryz.prog.built 29 [] = some ZL.toArray by rw [hZL]; exact digBuilt)
  obtain ⟨W1, hW1⟩ : ∃ z, z = w.alloc (.cells (Lib.byteCells zeros).toArray 29) := ⟨_, rfl⟩
  have hb1 : Below w.heap.size w W1 := by rw [hW1]; exact (Below.refl _ w).alloc (Nat.le_refl _) _
  have hR1 : Arr W1 w.heap.size 29 ZL := by rw [hW1, hZL]; exact Arr.new w _ _
  have hM1 : SetW W1 F s M := h.below hb1
  have hq : (k != 0) = true := by simpa using hk0
  have HW1 := Lib.hid hW1
  have HZL := Lib.hid hZL
  have hset := hR1.setRow ZL
  have HE := Lib.hid (show Below w.heap.size w (W1.setRow w.heap.size ZL.toArray) from hb1.trans (((Only.refl (fun k => k = w.heap.size) W1).setRow (.inl rfl) _).below hb1.size (by rintro k rfl; exact Nat.le_refl _)))
  clear hZL hW1 hb1 h hk0
  go_enter Tryz.func8, Tryz.ntmps8
  go_upto_region 1 with fail
  change Code.wp _ _ _ _ (w.alloc (.cells (Lib.byteCells zeros).toArray 29))
  rw [← HW1.out]
  clear HW1
  go_wp2_with fail
  refine Calls.mono (toAsk_any s nm hsz n W1 F M hM1 _ _ hk) ?_
  rintro e w' ⟨rfl, rfl⟩
  clear hM1 hk
  go_wp2_with (first | (refine wpList_builtV rfl _ _ rfl [] rfl ZL.toArray HZb.out ?_) | (refine wpList_store_row rfl _ _ _ rfl w.heap.size ZL.toArray rfl rfl 29 ZL.toArray hR1 HZi.out rfl HZ1.out ?_))
  (try simp only [Exit.inBlock, Exit.then])
  obtain ⟨V, hV⟩ : ∃ V, V = Value.tuple #[.agg ZL.toArray, .bool false, .int .i64 k] := ⟨_, rfl⟩
  refine bodyPost_ret (v := V) ?hx1 ?h2 ?h3
  case hx1 => rw [hV]; exact results_cell3 (fn := Tryz.f8) (by rfl) _ _ w.heap.size 29 ZL.toArray (0, 0) _ (by rfl) _ _ (by rfl) (by rfl) hset Tryz.underlying29 rfl HZi.out
  case h2 => rfl
  case h3 => exact ⟨by rw [hV, HZL.out], HE.out⟩

set_option maxHeartbeats 4000000 in
theorem get_good (s : Nat) (nm : ByteArray) (hsz : nm.size ≤ maxLen) (n : Int) (w : World) (F : Nat → Prop) (M : List Vm) (h : SetW w F s M) (m : Vm) (hf : findM M nm = some m) (hn : numB n = true) :
    Calls Tryz.prog 8 #[.pointer (some ⟨s, 0, none⟩), .string nm, .int .i64 n] w fun e w' => e = .returned (.tuple #[.agg (Lib.byteCells (atC m.v.cells n)).toArray, .bool (hasC m.v.cells n), .int .i64 0]) ∧ Below w.heap.size w w' := by
  have hk : askF M nm n = (.pointer (some ⟨m.vb, 0, none⟩), 0) := by unfold askF; rw [hf]; simp [hn]
  have hnb := numB_yes hn
  have h1 : -9223372036854775808 ≤ n := by omega
  have h2 : n ≤ 9223372036854775807 := by omega
  have hmm := (findM_mem hf).1
  obtain ⟨ZL, hZL⟩ : ∃ ZL, ZL = Lib.byteCells zeros := ⟨_, rfl⟩
  have HZi := Lib.hid (show (Tryz.prog.info? 29).map (·.size) = some ZL.toArray.size by rw [hZL]; simpa [Lib.byteCells, zeros] using digInfo)
  have HZ1 := Lib.hid (show ZL.toArray.all (·.oneCell') = true by rw [hZL]; exact dig_one _)
  have HZb := Lib.hid (show Tryz.prog.built 29 [] = some ZL.toArray by rw [hZL]; exact digBuilt)
  obtain ⟨W1, hW1⟩ : ∃ z, z = w.alloc (.cells (Lib.byteCells zeros).toArray 29) := ⟨_, rfl⟩
  have hb1 : Below w.heap.size w W1 := by rw [hW1]; exact (Below.refl _ w).alloc (Nat.le_refl _) _
  have hR1 : Arr W1 w.heap.size 29 ZL := by rw [hW1, hZL]; exact Arr.new w _ _
  have hM1 : SetW W1 F s M := h.below hb1
  have hvm : VmOk W1 m := by obtain ⟨mb, hQ⟩ := hM1; exact hQ.vm m hmm
  have hlook := hvm.look h1 h2
  obtain ⟨OL, hOL⟩ : ∃ OL, OL = Lib.byteCells (atC m.v.cells n) := ⟨_, rfl⟩
  rw [← hOL] at hlook
  have hO32 : OL.length = 32 := by rw [hOL, Lib.byteCells_length]; exact atC_length hvm.ok n
  have HOi := Lib.hid (show (Tryz.prog.info? 29).map (·.size) = some OL.toArray.size by rw [List.size_toArray, hO32]; exact digInfo)
  have HO1 := Lib.hid (show OL.toArray.all (·.oneCell') = true by rw [hOL]; exact dig_one _)
  have HOz := Lib.hid (show (Lib.byteCells zeros).toArray.size = OL.toArray.size by rw [List.size_toArray, List.size_toArray, hO32]; rfl)
  have HOz2 := Lib.hid (show ZL.toArray.size = OL.toArray.size by rw [hZL, List.size_toArray, List.size_toArray, hO32]; rfl)
  obtain ⟨W2, hW2⟩ : ∃ x, x = (W1.alloc (.cells (Lib.byteCells zeros).toArray 29)).setRow W1.heap.size OL.toArray := ⟨_, rfl⟩
  obtain ⟨hP, hb2⟩ := alloc_row W1 29 (Lib.byteCells zeros).toArray OL
  rw [← hW2] at hP hb2
  have hR2 := hR1.up hb2
  have hb2w : Below w.heap.size w W2 := hb1.trans (hb2.mono hb1.size)
  have hset := hR2.setRow OL
  have HE := Lib.hid (show Below w.heap.size w (W2.setRow w.heap.size OL.toArray) from hb2w.trans (((Only.refl (fun k => k = w.heap.size) W2).setRow (.inl rfl) _).below hb2w.size (by rintro k rfl; exact Nat.le_refl _)))
  have hd2v := hvm.hv.cell 2
  simp only [List.getElem?_cons_succ, List.getElem?_cons_zero] at hd2v
  have HW1 := Lib.hid hW1
  have HW2 := Lib.hid hW2
  have HOL := Lib.hid hOL
  obtain ⟨hb, hhb⟩ : ∃ z, hasC m.v.cells n = z := ⟨_, rfl⟩
  rw [hhb] at hlook ⊢
  clear hZL hW1 hW2 hb1 hb2 h hf hn hvm hOL hO32 hR1 hb2w hmm hhb hnb
  go_enter Tryz.func8, Tryz.ntmps8
  go_upto_region 1 with fail
  change Code.wp _ _ _ _ (w.alloc (.cells (Lib.byteCells zeros).toArray 29))
  rw [← HW1.out]
  clear HW1
  go_wp2_with fail
  refine Calls.mono (toAsk_any s nm hsz n W1 F M hM1 _ _ hk) ?_
  rintro e w' ⟨rfl, rfl⟩
  clear hM1 hk
  go_upto_region 5 with (change wpList _ _ _ _ _ (W1.alloc (.cells (Lib.byteCells zeros).toArray 29)); refine wpList_store_row rfl _ _ _ rfl W1.heap.size OL.toArray rfl rfl 29 (Lib.byteCells zeros).toArray (heap_alloc_new W1 _) HOi.out HOz.out HO1.out ?_; rw [← HW2.out])
  go_wp2_with (first | (refine wpList_load_row rfl _ _ rfl W1.heap.size rfl 29 OL.toArray (0, 0) _ hP Tryz.underlying29 rfl HOi.out ?_) | (refine wpList_store_row rfl _ _ _ rfl w.heap.size OL.toArray rfl rfl 29 ZL.toArray hR2 HOi.out HOz2.out HO1.out ?_))
  (try simp only [Exit.inBlock, Exit.then])
  obtain ⟨V, hV⟩ : ∃ V, V = Value.tuple #[.agg OL.toArray, .bool hb, .int .i64 0] := ⟨_, rfl⟩
  refine bodyPost_ret (v := V) ?hx1 ?h2 ?h3
  case hx1 => rw [hV]; exact results_cell3 (fn := Tryz.f8) (by rfl) _ _ w.heap.size 29 OL.toArray (0, 0) _ (by rfl) _ _ (by rfl) (by rfl) hset Tryz.underlying29 rfl HOi.out
  case h2 => rfl
  case h3 => exact ⟨by rw [hV, HOL.out], HE.out⟩

theorem get_any (s : Nat) (nm : ByteArray) (hsz : nm.size ≤ maxLen) (n : Int) (w : World) (F : Nat → Prop) (L : List Vol) (h : SetL w F s L) (o : List UInt8) (b : Bool) (k : Int) (hk : getL L nm n = (o, b, k)) (OL : List Value) (hOL : OL = Lib.byteCells o) :
    Calls Tryz.prog 8 #[.pointer (some ⟨s, 0, none⟩), .string nm, .int .i64 n] w fun e w' => e = .returned (.tuple #[.agg OL.toArray, .bool b, .int .i64 k]) ∧ Below w.heap.size w w' := by
  obtain ⟨M, hM, rfl⟩ := h
  subst hOL
  unfold getL at hk
  rw [vs_find] at hk
  cases hf : findM M nm with
  | none =>
    rw [hf] at hk
    simp only [Option.map_none] at hk
    injection hk with e1 hk
    injection hk with e2 e3
    subst e1 e2 e3
    exact get_err s nm hsz n w F M hM 5 (by omega) (by unfold askF; rw [hf])
  | some m =>
    rw [hf] at hk
    simp only [Option.map_some] at hk
    cases hn : numB n with
    | false =>
      rw [hn, if_neg (by simp)] at hk
      injection hk with e1 hk
      injection hk with e2 e3
      subst e1 e2 e3
      exact get_err s nm hsz n w F M hM 2 (by omega) (by unfold askF; rw [hf]; simp [hn])
    | true =>
      rw [hn, if_pos rfl] at hk
      injection hk with e1 hk
      injection hk with e2 e3
      subst e1 e2 e3
      exact get_good s nm hsz n w F M hM m hf hn

end Go.Proofs.YtcajhndhjlfmaaaGreat

namespace Go.Proofs.YtcajhndhjlfmaaaGreat
open Go.RowKit
set_option linter.unusedVariables false

set_option maxHeartbeats 8000000 in
set_option maxRecDepth 100000 in
theorem rtagged_any (use : UInt8) (rs : List (List UInt8)) (A : Option Addr) (n c : Nat) (w : World) (hn : rs.length = n) (hn2 : n ≤ 1000000) (hr : RowsAt w w.heap.size A rs) (hlim : (tagF use rs).length ≤ 1000000) :
    Calls Tryz.prog 38 #[.int .u8 (use.toNat : Nat), .slice A n c] w (TagPost use rs w) := by
  have hul : use.toNat < 256 := UInt8.toNat_lt _
  obtain ⟨W1, hW1⟩ : ∃ W1, W1 = w.alloc (.cells (Lib.byteCells zeros).toArray 29) := ⟨_, rfl⟩
  have hW1s : W1.heap.size = w.heap.size + 1 := by rw [hW1]; simp
  have hR1 : Arr W1 w.heap.size 29 (Lib.byteCells zeros) := by rw [hW1]; exact Arr.new w _ _
  have hb1 : Below w.heap.size w W1 := by rw [hW1]; exact (Below.refl _ w).alloc (Nat.le_refl _) _
  have hown1 : Owns (W1.alloc (.cells #[.int .u8 (use.toNat : Nat)] 5)) W1.heap.size 5 (.slice (some ⟨W1.heap.size, 0, none⟩) 1 1) (tagF use (rs.take 0)) := by
    have h := Owns.of_row (w := W1.alloc (.cells #[.int .u8 (use.toNat : Nat)] 5)) (B := W1.heap.size) (T := 5) (g := W1.heap.size) (c := 1) (l := [use]) (cur := [.int .u8 (use.toNat : Nat)]) (Nat.le_refl _) (Nat.le_refl _) (by unfold maxLen; omega) (heap_alloc_new W1 _) rfl rfl
    simpa [tagF] using h
  have hb2 : Below W1.heap.size W1 (W1.alloc (.cells #[.int .u8 (use.toNat : Nat)] 5)) := (Below.refl _ W1).alloc (Nat.le_refl _) _
  have HW1 := Lib.hid hW1
  have Hn := Lib.hid hn
  obtain ⟨B1, hB1⟩ : ∃ B, B = w.heap.size + 1 := ⟨_, rfl⟩
  rw [hW1s, ← hB1] at hown1 hb2
  have hB1w : w.heap.size < B1 := by omega
  have hB1s : B1 ≤ W1.heap.size := by omega
  obtain ⟨u, hu⟩ : ∃ u, use.toNat = u := ⟨_, rfl⟩
  rw [hu] at hown1 hb2 hul ⊢
  have Hu := Lib.hid hu
  have HB1 := Lib.hid hB1
  clear hW1 hn hW1s hu hB1
  go_enter Tryz.func38, Tryz.ntmps38
  go_wp2_with fail
  change Code.wp _ _ _ _ ((w.alloc (.cells (Lib.byteCells zeros).toArray 29)).alloc (.cells #[.int .u8 (u : Nat)] 5))
  rw [← HW1.out, show w.heap.size + 1 = B1 from HB1.out.symm]
  go_loopw [5, 6] (fun v i wr => ∃ k : Nat, k ≤ n ∧ i = .int .i64 k ∧ Owns wr B1 5 v (tagF use (rs.take k)) ∧ Below B1 W1 wr) (fun _ i _ => n - (intOf i).toNat)
  case atStart => exact ⟨0, by omega, rfl, hown1, hb2⟩
  case round =>
    clear hown1 hb2
    obtain ⟨k, hk, rfl, hown, hbel⟩ := hrel
    have hbz := hbel.size
    by_cases hlt : k < n
    · have hkr : k < rs.length := by rw [Hn.out]; exact hlt
      have hrr : RowsAt wr w.heap.size A rs := (hr.below hb1 (Nat.le_refl _)).below hbel (by omega)
      obtain ⟨blk, off, rfl, hblk, hrow⟩ := hrr (by omega)
      obtain ⟨A', c', hcell, hlc, hcm, hbs⟩ := hrow k hkr
      have hsn := tagF_snoc use rs hkr
      have hle := tagF_le use rs (k + 1)
      rw [hsn] at hle
      obtain ⟨r, hre⟩ : ∃ r, rs.getD k [] = r := ⟨_, rfl⟩
      rw [hre] at hcell hlc hbs hsn hle
      obtain ⟨Y, hY⟩ : ∃ Y, tagF use (rs.take k) = Y := ⟨_, rfl⟩
      rw [hY] at hown hsn hle
      simp only [List.length_append] at hle
      have hki : (k : Int) < (n : Int) := by omega
      have hd1 : decide (k < n) = true := by simp; omega
      have Hsn := Lib.hid hsn
      have hlt1 := hown.lt
      clear hsn hre hY hrow
      go_wp2_with (go_at_call 36; refine Calls.mono (rbytes_any B1 _ Y r A' c' wr hown (by omega) (hbs.more (by omega)) (by omega)) ?_; rintro e w5 ⟨v5, rfl, hown5, hgr5⟩)
      have hb5 : Below B1 W1 w5 := hbel.trans (hgr5.below (by omega) (fun j hj => (hlt1 j hj).1))
      go_roundw
      case rel => exact ⟨k + 1, by omega, by go_num, by rw [Hsn.out]; exact hown5, hb5⟩
      case measure => simp [intOf]; omega
    · have hkn : k = n := by omega
      have hd1 : decide (k < n) = false := by simp; omega
      have htk : rs.take k = rs := List.take_of_length_le (by rw [Hn.out]; omega)
      rw [htk] at hown
      obtain ⟨A6, c6, rfl, h61, h62, h63⟩ := hown.slice
      obtain ⟨L, hL⟩ : ∃ L, tagF use rs = L := ⟨_, rfl⟩
      rw [hL] at hlim h61 h63 ⊢
      obtain ⟨m, hm⟩ : ∃ m, L.length = m := ⟨_, rfl⟩
      rw [hm] at hlim h61 ⊢
      have Hm := Lib.hid hm
      have HL := Lib.hid hL
      have hRr : Arr wr w.heap.size 29 (Lib.byteCells zeros) := hR1.below hbel (by omega)
      have hBw : Below w.heap.size w wr := hb1.trans (hbel.mono (by omega))
      obtain ⟨k0, rfl⟩ : ∃ x, x = k := ⟨_, rfl⟩
      clear hown htk hkn hm hL hR1 hlt
      obtain ⟨DV, hDV⟩ : ∃ DV, DV = (Lib.byteCells (shaF L)).toArray := ⟨_, rfl⟩
      have hDs : DV.size = 32 := by rw [hDV]; simp [Lib.byteCells, shaF_length]
      have HDi := Lib.hid (show (Tryz.prog.info? 29).map (·.size) = some DV.size by rw [hDs]; exact digInfo)
      have HD1 := Lib.hid (show DV.all (·.oneCell') = true by rw [hDV]; simpa using byteCells_one (shaF L))
      have Hzs := Lib.hid (show (Lib.byteCells zeros).toArray.size = DV.size by rw [hDs]; simp [Lib.byteCells, zeros])
      have HDV := Lib.hid hDV
      clear hDV hDs
      go_wp2_with fail
      refine Calls.mono (rsum_any L A6 c6 m wr Hm.out h63 h61 (by omega)) ?_
      rintro e w5 ⟨rfl, hb5⟩
      unfold digV
      rw [← HDV.out]
      have hR5 : Hid (w5.heap[w.heap.size]? = some (.cells (Lib.byteCells zeros).toArray 29 (0, 0))) := hRr.below hb5 (by omega)
      go_wp2_with (refine wpList_store_row rfl _ _ _ rfl w.heap.size DV rfl rfl 29 _ hR5.out HDi.out Hzs.out HD1.out ?_)
      have hset : Hid ((w5.setRow w.heap.size DV).heap[w.heap.size]? = some (.cells DV 29 (0, 0))) := setRow_heap w5 w.heap.size _ DV _ _ hR5.out
      have hbf : Below w.heap.size w (w5.setRow w.heap.size DV) := (hBw.trans (hb5.mono (by omega))).trans (((Only.refl (fun k => k = w.heap.size) w5).setRow (.inl rfl) DV).below (by have := hb5.size; omega) (by rintro k rfl; omega))
      exact bodyPost_ret (v := .agg DV) (results_cell_row (by rfl) _ _ w.heap.size 29 DV (0, 0) _ (by rfl) hset.out Tryz.underlying29 rfl HDi.out) rfl ⟨by unfold digV; rw [HDV.out, HL.out], hbf⟩

end Go.Proofs.YtcajhndhjlfmaaaGreat

namespace Go.Proofs.YtcajhndhjlfmaaaGreat
open Go.RowKit
set_option linter.unusedVariables false

theorem sum_at (l : List UInt8) (SL : List Value) (A : Option Addr) (c n : Nat) (w : World) (hS : SL = Lib.byteCells (shaF l)) (hn : l.length = n) (hb : Bs w w.heap.size A l) (hc : n ≤ c) (hcm : c ≤ maxLen) (hm : n ≤ 140737488355000) :
    Calls Tryz.prog 58 #[.slice A n c] w fun e w' => e = .returned (.agg SL.toArray) ∧ Below w.heap.size w w' := by
  subst hS; exact sum_any l A c n w hn hb hc hcm hm
theorem rsum_at (l : List UInt8) (SL : List Value) (A : Option Addr) (c n : Nat) (w : World) (hS : SL = Lib.byteCells (shaF l)) (hn : l.length = n) (hb : Bs w w.heap.size A l) (hc : n ≤ c) (hm : n ≤ 140737488355000) :
    Calls Tryz.prog 59 #[.slice A n c] w fun e w' => e = .returned (.agg SL.toArray) ∧ Below w.heap.size w w' := by
  subst hS; exact rsum_any l A c n w hn hb hc hm
theorem tag_at (use : UInt8) (u : Nat) (rs : List (List UInt8)) (SL : List Value) (A : Option Addr) (n c : Nat) (w : World) (hu : use.toNat = u) (hS : SL = Lib.byteCells (shaF (tagF use rs))) (hn : rs.length = n) (hn2 : n ≤ 1000000) (hr : RowsAt w w.heap.size A rs) (hlim : (tagF use rs).length ≤ 1000000) :
    Calls Tryz.prog 37 #[.int .u8 (u : Nat), .slice A n c] w fun e w' => e = .returned (.agg SL.toArray) ∧ Below w.heap.size w w' := by
  subst hS hu; exact tagged_any use rs A n c w hn hn2 hr hlim
theorem rtag_at (use : UInt8) (u : Nat) (rs : List (List UInt8)) (SL : List Value) (A : Option Addr) (n c : Nat) (w : World) (hu : use.toNat = u) (hS : SL = Lib.byteCells (shaF (tagF use rs))) (hn : rs.length = n) (hn2 : n ≤ 1000000) (hr : RowsAt w w.heap.size A rs) (hlim : (tagF use rs).length ≤ 1000000) :
    Calls Tryz.prog 38 #[.int .u8 (u : Nat), .slice A n c] w fun e w' => e = .returned (.agg SL.toArray) ∧ Below w.heap.size w w' := by
  subst hS hu; exact rtagged_any use rs A n c w hn hn2 hr hlim

theorem flat_bound : ∀ (rs : List (List UInt8)), (∀ r ∈ rs, r.length ≤ 300) → (rs.flatMap fun r => Lib.uvarint r.length ++ r).length ≤ 310 * rs.length
  | [], _ => by simp
  | r :: rs, h => by
    have h1 := flat_bound rs fun x hx => h x (by simp [hx])
    have h3 := h r (by simp)
    have h2 := Lib.uvarint_length64 (x := r.length) (by omega)
    simp only [List.flatMap_cons, List.length_append, List.length_cons]
    omega
theorem tagF_bound (use : UInt8) (rs : List (List UInt8)) (h : ∀ r ∈ rs, r.length ≤ 300) : (tagF use rs).length ≤ 310 * rs.length + 1 := by
  have := flat_bound rs h
  unfold tagF
  simp only [List.length_cons]
  omega

end Go.Proofs.YtcajhndhjlfmaaaGreat

namespace Go.Proofs.YtcajhndhjlfmaaaGreat
open Go.RowKit
set_option linter.unusedVariables false
set_option linter.unusedSimpArgs false

set_option maxRecDepth 100000
/-- A whole number, taken modulo 2^64. -/
def uF (a : Int) : Nat := (IntKind.u64.wrap a).toNat

theorem uF_wrap (a : Int) : IntKind.u64.wrap a = ((uF a : Nat) : Int) ∧ uF a < 18446744073709551616 := by
  unfold uF
  have h : IntKind.u64.wrap a = a % 18446744073709551616 := by rw [IntKind.wrap_u64]
  omega
theorem rows_two {w : World} {B : Nat} {A A' : Option Addr} {l l' : List UInt8} {n c n' c' : Nat} (T : TypeId) (hn : l.length = n) (hc : n ≤ c) (hm : c ≤ maxLen) (h : Bs w B A l) (hn' : l'.length = n') (hc' : n' ≤ c') (hm' : c' ≤ maxLen) (h' : Bs w B A' l') (hB : B ≤ w.heap.size) :
    RowsAt (w.alloc (.cells #[.slice A n c, .slice A' n' c'] T)) (w.heap.size + 1) (some ⟨w.heap.size, 0, none⟩) [l, l'] := fun _ => by
  subst hn hn'
  have ha := Arr.new w T [.slice A l.length c, .slice A' l'.length c']
  have hb : Below w.heap.size w (w.alloc (.cells #[.slice A l.length c, .slice A' l'.length c'] T)) := (Below.refl _ w).alloc (Nat.le_refl _) _
  refine ⟨w.heap.size, 0, rfl, by omega, fun i hi => ?_⟩
  have hi2 : i = 0 ∨ i = 1 := by simp at hi; omega
  rcases hi2 with rfl | rfl
  · exact ⟨A, c, ha.cell 0, hc, hm, (h.below hb hB).more (by omega)⟩
  · exact ⟨A', c', ha.cell 1, hc', hm', (h'.below hb hB).more (by omega)⟩
theorem owns_emptyK (w : World) (B : Nat) (hB : B ≤ w.heap.size) : Owns (w.alloc (.cells #[] 5)) B 5 (.slice (some ⟨w.heap.size, 0, none⟩) 0 0) [] :=
  ⟨rfl, .inr ⟨w.heap.size, 0, #[], rfl, hB, heap_alloc_new w _, Nat.le_refl _, by unfold maxLen; omega, rfl, rfl⟩⟩

def keyF (nm : ByteArray) (num : Int) : List UInt8 := shaF (tagF 7 [nm.data.toList, Lib.uvarint (uF num)])
set_option maxHeartbeats 8000000 in
theorem key_any (nm : ByteArray) (hs : nm.size ≤ 1000) (num : Int) (KL : List Value) (hKL : KL = Lib.byteCells (keyF nm num)) (w : World) :
    Calls Tryz.prog 15 #[.string nm, .int .i64 num] w fun e w' => e = .returned (.agg KL.toArray) ∧ Below w.heap.size w w' := by
  have hkl : KL.length = 32 := by rw [hKL, Lib.byteCells_length]; exact shaF_length _
  obtain ⟨bs, hbs⟩ : ∃ z, z = nm.data.toList := ⟨_, rfl⟩
  have hal : bs.length = nm.size := by rw [hbs]; rfl
  obtain ⟨x, hx⟩ : ∃ z, uF num = z := ⟨_, rfl⟩
  have hxw : IntKind.u64.wrap num = (x : Int) := by rw [← hx]; exact (uF_wrap num).1
  have hxl : x < 18446744073709551616 := by rw [← hx]; exact (uF_wrap num).2
  obtain ⟨ux, hux⟩ : ∃ z, z = Lib.uvarint x := ⟨_, rfl⟩
  have hul : ux.length ≤ 10 := by rw [hux]; exact Lib.uvarint_length64 hxl
  have hKL2 : KL = Lib.byteCells (shaF (tagF 7 [bs, ux])) := by rw [hKL, hux, hbs, ← hx]; rfl
  have hlim : (tagF 7 [bs, ux]).length ≤ 1000000 := by
    have h1 := Lib.uvarint_length64 (x := bs.length) (by omega)
    have h2 := Lib.uvarint_length64 (x := ux.length) (by omega)
    simp [tagF]
    omega
  obtain ⟨ZL, hZL⟩ : ∃ z, z = Lib.byteCells zeros := ⟨_, rfl⟩
  obtain ⟨W1, hW1⟩ : ∃ z, z = w.alloc (.cells (Lib.byteCells zeros).toArray 29) := ⟨_, rfl⟩
  have hb1 : Below w.heap.size w W1 := by rw [hW1]; exact (Below.refl _ w).alloc (Nat.le_refl _) _
  have hR1 : Arr W1 w.heap.size 29 ZL := by rw [hW1, hZL]; exact Arr.new w _ _
  obtain ⟨cp, hcp⟩ : ∃ z, z = grownCap W1 nm.size 0 5 := ⟨_, rfl⟩
  have hcge : nm.size ≤ cp := by rw [hcp]; exact grownCap_ge W1 nm.size 0 5
  have hcmx : cp ≤ maxLen := by rw [hcp]; exact grownCap_le_maxLen W1 nm.size 0 5 (by unfold maxLen; omega)
  obtain ⟨W2, hW2⟩ : ∃ z, z = Lib.bytesWorld W1 5 nm := ⟨_, rfl⟩
  have hcv : (convert 9 42 (.string nm)).run Tryz.prog W1 = .ok (.slice (some ⟨W1.heap.size, 0, none⟩) bs.length cp) W2 := by
    rw [hal, hcp, hW2]
    exact Lib.run_convert_string_bytes W1 _ _ 5 nm Tryz.underlying9 Tryz.underlying42 Tryz.underlying5
  have hb12 : Below W1.heap.size W1 W2 := by
    rw [hW2]
    exact ⟨rfl, rfl, rfl, by rw [Lib.bytesWorld_size]; omega, fun i hi => Lib.bytesWorld_at_old W1 _ nm i hi⟩
  have hbb : Bs W2 W2.heap.size (some ⟨W1.heap.size, 0, none⟩) bs := fun hp => ⟨W1.heap.size, 0, rfl, by rw [hW2, Lib.bytesWorld_size]; omega, fun j hj => by
    rw [hW2, Nat.zero_add, hbs]
    exact Lib.bytesWorld_cell W1 _ nm j (by rw [← hal]; exact hj)⟩
  have hbw2 : Below w.heap.size w W2 := hb1.trans (hb12.mono hb1.size)
  have hR2 : Arr W2 w.heap.size 29 ZL := hR1.up hb12
  obtain ⟨W3, hW3⟩ : ∃ z, z = W2 := ⟨_, rfl⟩
  have hb23 : Below W2.heap.size W2 W3 := by rw [hW3]; exact Below.refl _ _
  have hO3 : Owns W3 W2.heap.size 5 (.slice none 0 0) [] := Owns.nil _ _ _
  have Hn := Lib.hid (number_any W2.heap.size x hxl (.slice none 0 0) [] W3 hO3 hb23.size (by simp))
  have HW3 := Lib.hid hW3
  have HO3 := Lib.hid hO3
  clear hW3 hO3
  have Hki := Lib.hid (show (Tryz.prog.info? 29).map (·.size) = some KL.toArray.size ∧ ZL.toArray.size = KL.toArray.size by rw [List.size_toArray, List.size_toArray, hkl, hZL]; exact ⟨digInfo, rfl⟩)
  have Hs1 := Lib.hid (show KL.toArray.all (·.oneCell') = true by rw [hKL]; exact dig_one _)
  have HKL2 := Lib.hid hKL2
  have HW1 := Lib.hid hW1
  have Hux := Lib.hid hux
  have Hbw2 := Lib.hid hbw2
  have Hbb := Lib.hid hbb
  have Hb23 := Lib.hid hb23
  have HR2 := Lib.hid hR2
  have Hlim := Lib.hid hlim
  have Hlen := Lib.hid (show bs.length ≤ cp ∧ cp ≤ maxLen ∧ bs.length ≤ 1000 from ⟨by omega, hcmx, by omega⟩)
  clear hKL hkl hbs hx hux hKL2 hlim hZL hW1 hb1 hR1 hcp hcge hcmx hW2 hb12 hbb hbw2 hR2 hal hb23 hul
  go_enter Tryz.func15, Tryz.ntmps15
  go_upto_region 1 with fail
  change Code.wp _ _ _ _ (w.alloc (.cells (Lib.byteCells zeros).toArray 29))
  rw [← HW1.out]
  clear HW1
  go_wp2_with fail
  rw [← HW3.out]
  refine Calls.mono Hn.out ?_
  rintro e w4 ⟨v4, rfl, hO4, hg4⟩
  rw [List.nil_append, ← Hux.out] at hO4
  have hb24 : Below W2.heap.size W2 w4 := Hb23.out.trans (hg4.below Hb23.out.size fun k hk => (HO3.out.lt k hk).1)
  obtain ⟨A4, c4, rfl, hc4, hcm4, hbs4⟩ := Owns.slice hO4
  obtain ⟨nu, hnu⟩ : ∃ z, ux.length = z := ⟨_, rfl⟩
  rw [hnu] at hc4 ⊢
  obtain ⟨w5, hw5⟩ : ∃ z, z = w4.alloc (.cells #[.slice (some ⟨W1.heap.size, 0, none⟩) bs.length cp, .slice A4 nu c4] 42) := ⟨_, rfl⟩
  have hb45 : Below w4.heap.size w4 w5 := by rw [hw5]; exact (Below.refl _ _).alloc (Nat.le_refl _) _
  have hrw : RowsAt w5 w5.heap.size (some ⟨w4.heap.size, 0, none⟩) [bs, ux] := by
    rw [hw5]
    have h := rows_two (w := w4) (B := w4.heap.size) 42 (rfl : bs.length = bs.length) Hlen.out.1 Hlen.out.2.1 ((Hbb.out.below hb24 (Nat.le_refl _)).more hb24.size) hnu hc4 hcm4 hbs4 (Nat.le_refl _)
    simpa using h
  have Htag := Lib.hid (tag_at 7 7 [bs, ux] KL (some ⟨w4.heap.size, 0, none⟩) 2 2 w5 rfl HKL2.out rfl (by omega) hrw Hlim.out)
  have hbw5 : Below w.heap.size w w5 := (Hbw2.out.trans (hb24.mono Hbw2.out.size)).trans (hb45.mono (Hbw2.out.trans (hb24.mono Hbw2.out.size)).size)
  have HR5 := Lib.hid ((HR2.out.up hb24).up hb45)
  have Hw5 := Lib.hid hw5
  have hbl := Hlen.out.1
  have Hbw5 := Lib.hid hbw5
  clear hw5 hb45 hrw hO4 hg4 hb24 hbs4 hnu Hn hbw5 HR2
  go_wp2_with fail
  (try change Calls _ _ _ (w4.alloc (.cells #[.slice (some ⟨W1.heap.size, 0, none⟩) bs.length cp, .slice A4 nu c4] 42)) _)
  rw [← Hw5.out]
  refine Calls.mono Htag.out ?_
  rintro e w6 ⟨rfl, hb6⟩
  have HR6 := Lib.hid (HR5.out.up hb6)
  have Hset := Lib.hid (HR6.out.setRow KL)
  have hb66 : Below w.heap.size w w6 := Hbw5.out.trans (hb6.mono Hbw5.out.size)
  have Hb7 := Lib.hid (show Below w.heap.size w (w6.setRow w.heap.size KL.toArray) from hb66.trans (((Only.refl (fun k => k = w.heap.size) w6).setRow (.inl rfl) _).below hb66.size (by rintro k rfl; exact Nat.le_refl _)))
  clear hb6 hb66 Htag
  dsimp only
  go_wp2_with (refine wpList_store_row rfl _ _ _ rfl w.heap.size KL.toArray rfl rfl 29 ZL.toArray HR6.out Hki.out.1 Hki.out.2 Hs1.out ?_)
  exact bodyPost_ret (v := .agg KL.toArray) (results_cell_row (by rfl) _ _ w.heap.size 29 KL.toArray (0, 0) _ (by rfl) Hset.out Tryz.underlying29 rfl Hki.out.1) rfl ⟨rfl, Hb7.out⟩
set_option maxHeartbeats 8000000 in
theorem rkey_any (nm : ByteArray) (hs : nm.size ≤ 1000) (num : Int) (KL : List Value) (hKL : KL = Lib.byteCells (keyF nm num)) (w : World) :
    Calls Tryz.prog 16 #[.string nm, .int .i64 num] w fun e w' => e = .returned (.agg KL.toArray) ∧ Below w.heap.size w w' := by
  have hkl : KL.length = 32 := by rw [hKL, Lib.byteCells_length]; exact shaF_length _
  obtain ⟨bs, hbs⟩ : ∃ z, z = nm.data.toList := ⟨_, rfl⟩
  have hal : bs.length = nm.size := by rw [hbs]; rfl
  obtain ⟨x, hx⟩ : ∃ z, uF num = z := ⟨_, rfl⟩
  have hxw : IntKind.u64.wrap num = (x : Int) := by rw [← hx]; exact (uF_wrap num).1
  have hxl : x < 18446744073709551616 := by rw [← hx]; exact (uF_wrap num).2
  obtain ⟨ux, hux⟩ : ∃ z, z = Lib.uvarint x := ⟨_, rfl⟩
  have hul : ux.length ≤ 10 := by rw [hux]; exact Lib.uvarint_length64 hxl
  have hKL2 : KL = Lib.byteCells (shaF (tagF 7 [bs, ux])) := by rw [hKL, hux, hbs, ← hx]; rfl
  have hlim : (tagF 7 [bs, ux]).length ≤ 1000000 := by
    have h1 := Lib.uvarint_length64 (x := bs.length) (by omega)
    have h2 := Lib.uvarint_length64 (x := ux.length) (by omega)
    simp [tagF]
    omega
  obtain ⟨ZL, hZL⟩ : ∃ z, z = Lib.byteCells zeros := ⟨_, rfl⟩
  obtain ⟨W1, hW1⟩ : ∃ z, z = w.alloc (.cells (Lib.byteCells zeros).toArray 29) := ⟨_, rfl⟩
  have hb1 : Below w.heap.size w W1 := by rw [hW1]; exact (Below.refl _ w).alloc (Nat.le_refl _) _
  have hR1 : Arr W1 w.heap.size 29 ZL := by rw [hW1, hZL]; exact Arr.new w _ _
  obtain ⟨cp, hcp⟩ : ∃ z, z = grownCap W1 nm.size 0 5 := ⟨_, rfl⟩
  have hcge : nm.size ≤ cp := by rw [hcp]; exact grownCap_ge W1 nm.size 0 5
  have hcmx : cp ≤ maxLen := by rw [hcp]; exact grownCap_le_maxLen W1 nm.size 0 5 (by unfold maxLen; omega)
  obtain ⟨W2, hW2⟩ : ∃ z, z = Lib.bytesWorld W1 5 nm := ⟨_, rfl⟩
  have hcv : (convert 9 42 (.string nm)).run Tryz.prog W1 = .ok (.slice (some ⟨W1.heap.size, 0, none⟩) bs.length cp) W2 := by
    rw [hal, hcp, hW2]
    exact Lib.run_convert_string_bytes W1 _ _ 5 nm Tryz.underlying9 Tryz.underlying42 Tryz.underlying5
  have hb12 : Below W1.heap.size W1 W2 := by
    rw [hW2]
    exact ⟨rfl, rfl, rfl, by rw [Lib.bytesWorld_size]; omega, fun i hi => Lib.bytesWorld_at_old W1 _ nm i hi⟩
  have hbb : Bs W2 W2.heap.size (some ⟨W1.heap.size, 0, none⟩) bs := fun hp => ⟨W1.heap.size, 0, rfl, by rw [hW2, Lib.bytesWorld_size]; omega, fun j hj => by
    rw [hW2, Nat.zero_add, hbs]
    exact Lib.bytesWorld_cell W1 _ nm j (by rw [← hal]; exact hj)⟩
  have hbw2 : Below w.heap.size w W2 := hb1.trans (hb12.mono hb1.size)
  have hR2 : Arr W2 w.heap.size 29 ZL := hR1.up hb12
  obtain ⟨W3, hW3⟩ : ∃ z, z = W2.alloc (.cells #[] 5) := ⟨_, rfl⟩
  have hb23 : Below W2.heap.size W2 W3 := by rw [hW3]; exact (Below.refl _ _).alloc (Nat.le_refl _) _
  have hO3 : Owns W3 W2.heap.size 5 (.slice (some ⟨W2.heap.size, 0, none⟩) 0 0) [] := by rw [hW3]; exact owns_emptyK W2 _ (Nat.le_refl _)
  have Hn := Lib.hid (rnumber_any W2.heap.size x hxl (.slice (some ⟨W2.heap.size, 0, none⟩) 0 0) [] W3 hO3 hb23.size (by simp))
  have HW3 := Lib.hid hW3
  have HO3 := Lib.hid hO3
  clear hW3 hO3
  have Hki := Lib.hid (show (Tryz.prog.info? 29).map (·.size) = some KL.toArray.size ∧ ZL.toArray.size = KL.toArray.size by rw [List.size_toArray, List.size_toArray, hkl, hZL]; exact ⟨digInfo, rfl⟩)
  have Hs1 := Lib.hid (show KL.toArray.all (·.oneCell') = true by rw [hKL]; exact dig_one _)
  have HKL2 := Lib.hid hKL2
  have HW1 := Lib.hid hW1
  have Hux := Lib.hid hux
  have Hbw2 := Lib.hid hbw2
  have Hbb := Lib.hid hbb
  have Hb23 := Lib.hid hb23
  have HR2 := Lib.hid hR2
  have Hlim := Lib.hid hlim
  have Hlen := Lib.hid (show bs.length ≤ cp ∧ cp ≤ maxLen ∧ bs.length ≤ 1000 from ⟨by omega, hcmx, by omega⟩)
  clear hKL hkl hbs hx hux hKL2 hlim hZL hW1 hb1 hR1 hcp hcge hcmx hW2 hb12 hbb hbw2 hR2 hal hb23 hul
  go_enter Tryz.func16, Tryz.ntmps16
  go_upto_region 1 with fail
  change Code.wp _ _ _ _ (w.alloc (.cells (Lib.byteCells zeros).toArray 29))
  rw [← HW1.out]
  clear HW1
  go_wp2_with fail
  change Calls _ _ _ (W2.alloc (.cells #[] 5)) _
  rw [← HW3.out]
  refine Calls.mono Hn.out ?_
  rintro e w4 ⟨v4, rfl, hO4, hg4⟩
  rw [List.nil_append, ← Hux.out] at hO4
  have hb24 : Below W2.heap.size W2 w4 := Hb23.out.trans (hg4.below Hb23.out.size fun k hk => (HO3.out.lt k hk).1)
  obtain ⟨A4, c4, rfl, hc4, hcm4, hbs4⟩ := Owns.slice hO4
  obtain ⟨nu, hnu⟩ : ∃ z, ux.length = z := ⟨_, rfl⟩
  rw [hnu] at hc4 ⊢
  obtain ⟨w5, hw5⟩ : ∃ z, z = w4.alloc (.cells #[.slice (some ⟨W1.heap.size, 0, none⟩) bs.length cp, .slice A4 nu c4] 42) := ⟨_, rfl⟩
  have hb45 : Below w4.heap.size w4 w5 := by rw [hw5]; exact (Below.refl _ _).alloc (Nat.le_refl _) _
  have hrw : RowsAt w5 w5.heap.size (some ⟨w4.heap.size, 0, none⟩) [bs, ux] := by
    rw [hw5]
    have h := rows_two (w := w4) (B := w4.heap.size) 42 (rfl : bs.length = bs.length) Hlen.out.1 Hlen.out.2.1 ((Hbb.out.below hb24 (Nat.le_refl _)).more hb24.size) hnu hc4 hcm4 hbs4 (Nat.le_refl _)
    simpa using h
  have Htag := Lib.hid (rtag_at 7 7 [bs, ux] KL (some ⟨w4.heap.size, 0, none⟩) 2 2 w5 rfl HKL2.out rfl (by omega) hrw Hlim.out)
  have hbw5 : Below w.heap.size w w5 := (Hbw2.out.trans (hb24.mono Hbw2.out.size)).trans (hb45.mono (Hbw2.out.trans (hb24.mono Hbw2.out.size)).size)
  have HR5 := Lib.hid ((HR2.out.up hb24).up hb45)
  have Hw5 := Lib.hid hw5
  have hbl := Hlen.out.1
  have Hbw5 := Lib.hid hbw5
  clear hw5 hb45 hrw hO4 hg4 hb24 hbs4 hnu Hn hbw5 HR2
  go_wp2_with fail
  (try change Calls _ _ _ (w4.alloc (.cells #[.slice (some ⟨W1.heap.size, 0, none⟩) bs.length cp, .slice A4 nu c4] 42)) _)
  rw [← Hw5.out]
  refine Calls.mono Htag.out ?_
  rintro e w6 ⟨rfl, hb6⟩
  have HR6 := Lib.hid (HR5.out.up hb6)
  have Hset := Lib.hid (HR6.out.setRow KL)
  have hb66 : Below w.heap.size w w6 := Hbw5.out.trans (hb6.mono Hbw5.out.size)
  have Hb7 := Lib.hid (show Below w.heap.size w (w6.setRow w.heap.size KL.toArray) from hb66.trans (((Only.refl (fun k => k = w.heap.size) w6).setRow (.inl rfl) _).below hb66.size (by rintro k rfl; exact Nat.le_refl _)))
  clear hb6 hb66 Htag
  dsimp only
  go_wp2_with (refine wpList_store_row rfl _ _ _ rfl w.heap.size KL.toArray rfl rfl 29 ZL.toArray HR6.out Hki.out.1 Hki.out.2 Hs1.out ?_)
  exact bodyPost_ret (v := .agg KL.toArray) (results_cell_row (by rfl) _ _ w.heap.size 29 KL.toArray (0, 0) _ (by rfl) Hset.out Tryz.underlying29 rfl Hki.out.1) rfl ⟨rfl, Hb7.out⟩

end Go.Proofs.YtcajhndhjlfmaaaGreat

namespace Go.Proofs.YtcajhndhjlfmaaaGreat
open Go.RowKit
set_option linter.unusedVariables false

set_option maxHeartbeats 4000000 in
set_option maxRecDepth 100000 in
theorem same_any (B B' : Nat) (A A' : Option Addr) (c c' : Nat) (l m : List UInt8) (w : World) (hA : Bs w B A l) (hA' : Bs w B' A' m) (hl : l.length ≤ maxLen) (hm : m.length ≤ maxLen) :
    Calls Tryz.prog 12 #[.slice A l.length c, .slice A' m.length c'] w fun e w' => e = .returned (.bool (decide (l = m))) ∧ Drawn w w' := by
  unfold maxLen at hl hm
  by_cases hlen : l.length = m.length
  · have hb : ((l.length : Int) != (m.length : Int)) = false := by simp [hlen]
    have Hlen := Lib.hid hlen
    clear hlen
    go_enter Tryz.func12, Tryz.ntmps12
    go_wp2
    go_loopw [5] (fun i wr => ∃ k : Nat, i = .int .i64 k ∧ k ≤ l.length ∧ Hid (l.take k = m.take k) ∧ Drawn w wr) (fun i _ => l.length - (intOf i).toNat)
    case atStart => exact ⟨0, rfl, Nat.zero_le _, rfl, Drawn.refl _⟩
    case round =>
      obtain ⟨k, rfl, hk, htk, n, rfl⟩ := hrel
      by_cases hlt : k < l.length
      · have hlt' : k < m.length := by have := Hlen.out; omega
        obtain ⟨b, off, x, rfl, hbB, hc, hx, Hx⟩ := hA.at_ hlt
        obtain ⟨b', off', y, rfl, hbB', hc', hy, Hy⟩ := hA'.at_ hlt'
        have hci : ((k : Int) < (l.length : Int)) := by omega
        have hci' : ((k : Int) < (m.length : Int)) := by omega
        by_cases he : x = y
        · have ht := Lib.hid (take_succ_eq hlt hlt' htk.out (by rw [Hx.out, Hy.out, he]))
          subst he
          go_wp2
          go_quiet (fail)
          go_wp2
          go_roundw
          case rel => exact ⟨k + 1, by go_num, by omega, ht, _, rfl⟩
          case measure => simp [intOf]; omega
        · have heb : ((x : Int) != (y : Int)) = true := by rw [bne_iff_ne]; omega
          have hne := Lib.hid (ne_of_getD (l := l) (m := m) (k := k) (by rw [Hx.out, Hy.out]; exact he))
          clear he
          go_wp2
          go_quiet (fail)
          go_wp2
          go_ret
          exact ⟨ret_bool (decide_eq_false hne.out).symm, (Drawn.mk _ _).drewN _⟩
      · go_wp2
        go_ret
        obtain rfl : k = l.length := by omega
        have h1 := htk.out
        rw [List.take_length, Hlen.out, List.take_length] at h1
        exact ⟨ret_bool (decide_eq_true h1).symm, Drawn.mk _ _⟩
  · have hb : ((l.length : Int) != (m.length : Int)) = true := by rw [bne_iff_ne]; omega
    have hne : decide (l = m) = false := decide_eq_false fun e => hlen (by rw [e])
    have Hne := Lib.hid hne
    clear hne
    go_enter Tryz.func12, Tryz.ntmps12
    go_wp2
    go_ret
    exact ⟨ret_bool Hne.out.symm, Drawn.refl _⟩

/-- The same, the lengths and the answer under names of their own. -/
theorem same_n (B B' : Nat) (A A' : Option Addr) (c c' n n' : Nat) (l m : List UInt8) (w : World) (ans : Bool) (hA : Bs w B A l) (hA' : Bs w B' A' m) (hl : l.length = n) (hm : m.length = n') (hn : n ≤ maxLen) (hn' : n' ≤ maxLen) (ha : decide (l = m) = ans) :
    Calls Tryz.prog 12 #[.slice A n c, .slice A' n' c'] w fun e w' => e = .returned (.bool ans) ∧ ∃ k, w' = w.drewN k := by
  subst hl hm ha
  exact same_any B B' A A' c c' l m w hA hA' hn hn'

end Go.Proofs.YtcajhndhjlfmaaaGreat

namespace Go.Proofs.YtcajhndhjlfmaaaGreat
open Go.RowKit
set_option linter.unusedVariables false
set_option linter.unusedSimpArgs false

set_option maxRecDepth 100000
theorem VSl.nil_ (w : World) (G : Nat → Prop) : VSl w G none 0 0 [] := ⟨[], rfl, rfl, Nat.le_refl _, by unfold maxLen; omega, ⟨fun h => absurd h (by decide), fun x hx => by cases hx⟩, .inl ⟨rfl, rfl⟩⟩

theorem opL_len {L : List Vol} (h : RiseV L) (x : Cl12) : (opL L x).1.length ≤ L.length + 1 := by
  unfold opL
  split
  · exact (putL_ok h (L' := _) (o := _) (b := _) (k := _) rfl).len
  · split
    · exact (dropL_ok h (L' := _) (o := _) (b := _) (k := _) rfl).len
    · split
      · exact (createL_ok h (L' := _) (k := _) rfl).len
      · split
        · exact (copyL_ok h (L' := _) (k := _) rfl).len
        · exact (deleteL_ok h (L' := _) (k := _) rfl).len

/-- The set and the document's volumes, beside one another. -/
def Pair12 (w : World) (B s : Nat) (A : Option Addr) (n c : Nat) (L : List Vol) : Prop :=
  ∃ (F G : Nat → Prop), SetL w F s L ∧ VSl w G A n c L ∧ (∀ b, G b → ¬ F b) ∧ (∀ b, G b → b < w.heap.size) ∧ (∀ b, F b → B ≤ b) ∧ (∀ b, G b → B ≤ b)

theorem Pair12.below {w w' : World} {B s : Nat} {A : Option Addr} {n c : Nat} {L : List Vol} (h : Pair12 w B s A n c L) (hb : Below w.heap.size w w') : Pair12 w' B s A n c L := by
  obtain ⟨F, G, h1, h2, h3, h4, h5, h6⟩ := h
  exact ⟨F, G, h1.below hb, h2.below hb, h3, fun b hb' => Nat.lt_of_lt_of_le (h4 b hb') hb.size, h5, h6⟩

theorem same12_below (A B : Option Addr) (n c m d : Nat) (xs ys : List Vx) (w : World) (G H : Nat → Prop) (h : VsAt w G A xs) (g : VsAt w H B ys) (hn : xs.length = n) (hm : ys.length = m) (hc : n ≤ c) (hcm : c ≤ maxLen) (hd : m ≤ d) (hdm : d ≤ maxLen) (r : Bool) (hr : r = true ↔ xs.map (·.v) = ys.map (·.v)) :
    Calls Tryz.prog 10 #[.slice A n c, .slice B m d] w fun e w' => e = .returned (.bool r) ∧ Below w.heap.size w w' := by
  refine (same12_any A B n c m d xs ys w G H h g hn hm hc hcm hd hdm r hr).mono ?_
  rintro e w' ⟨rfl, k, rfl⟩
  exact ⟨rfl, Below.dN (Below.refl _ _) k⟩
theorem wpList_atW {P : Program} {ops : Array Oper} {rest : List Oper} {o : Oper} {a : Act} {w : World} {Q : Exit → Act → World → Prop} (n : Nat) (hd : o.dst = some n) (h : wpList P ops Q (o :: rest) a w) : wpList P ops Q (o :: rest) a w := h
theorem Cls12.more {w : World} {B B' : Nat} {A : Option Addr} {xs : List Cl12} (h : Cls12 w B A xs) (hB : B ≤ B') : Cls12 w B' A xs :=
  ⟨h.1, fun hp => by
    obtain ⟨b, off, e, hlt, hc⟩ := h.2 hp
    exact ⟨b, off, e, by omega, hc⟩⟩

theorem Pair12.callA {wr w : World} {B s : Nat} {A : Option Addr} {n c : Nat} {L : List Vol} (h : Pair12 wr B s A n c L) (hb : Below wr.heap.size wr w) (hB : B ≤ wr.heap.size) (x : Cl12) (hx : C12Ok x) (VL : List Value) (hVL : VL = c12C x) (hl : L.length ≤ 100000) :
    Calls Tryz.prog 7 #[.pointer (some ⟨s, 0, none⟩), .slice A n c, .agg VL.toArray] w fun e w' => ∃ (A' : Option Addr) (n' c' : Nat), e = .returned (.tuple #[.slice A' n' c', .bool true]) ∧ Pair12 w' B s A' n' c' (opL L x).1 ∧ RiseV L ∧ Below B w w' ∧ ∀ g T cs, wr.heap.size ≤ g → Arr w g T cs → Arr w' g T cs := by
  obtain ⟨F, G, h1, h2, h3, h4, h5, h6⟩ := h
  have hlt := h1.lt
  have hB2 : B ≤ w.heap.size := Nat.le_trans hB hb.size
  refine (call12_any s A n c x hx VL hVL w F G L L (h1.below hb) (h2.below hb) h3 (fun b hb' => Nat.lt_of_lt_of_le (h4 b hb') hb.size) hl hl h1.rise h1.ok).mono ?_
  rintro e w' ⟨A', n', c', r, F', G', rfl, q1, q2, q3, q4, q5, q6, q7, q8⟩
  rw [q7 rfl]
  exact ⟨A', n', c', rfl, ⟨F', G', q1, q2, q3, q6, fun b hb => (q4 b hb).elim (h5 b) fun h => by omega, fun b hb => (q5 b hb).elim (h6 b) fun h => by omega⟩, h1.rise, q8.below hB2 h5, fun g T cs hg ha => (q8.block g ha.lt fun hf => by have := hlt g hf; omega).trans ha⟩
theorem getL_len {L : List Vol} (hok : ∀ v ∈ L, VolOk v) {nm : ByteArray} {nu : Int} {o : List UInt8} {b : Bool} {k : Int} (h : getL L nm nu = (o, b, k)) : o.length = 32 := by
  unfold getL at h
  cases hf : findV L nm with
  | none => rw [hf] at h; injection h with h _; rw [← h]; rfl
  | some v =>
    rw [hf] at h
    dsimp only at h
    by_cases hn : numB nu = true
    · rw [if_pos hn] at h; injection h with h _; rw [← h]; exact atC_length (hok v (List.mem_of_find?_eq_some hf)) nu
    · rw [if_neg hn] at h; injection h with h _; rw [← h]; rfl

set_option maxHeartbeats 16000000 in
theorem vcalls_walk (A : Option Addr) (n c : Nat) (xs : List Cl12) (hn : xs.length = n) (hc : n ≤ c) (hm : c ≤ maxLen) (w : World) (hcs : Cls12 w w.heap.size A xs) :
    Calls Tryz.prog 3 #[.slice A n c] w fun e w' => e = .returned (.bool true) ∧ Below w.heap.size w w' := by
  obtain ⟨CZ, hCZ⟩ : ∃ CZ, CZ = c12Z := ⟨_, rfl⟩
  have HZ := Lib.hid (fun w : World => show (zeroValue 31).run Tryz.prog w = .ok (.agg CZ.toArray) w by rw [hCZ]; exact c12Zero w)
  have HZl := Lib.hid (show CZ.length = 38 by rw [hCZ]; rfl)
  clear hCZ
  have hm' : c ≤ 9223372036854775807 := by unfold maxLen at hm; omega
  have Hn := Lib.hid hn
  go_enter Tryz.func3, Tryz.ntmps3
  go_wp2_with fail
  refine Calls.mono (speaks12_any w) ?_
  rintro e w1 ⟨rfl, hb1⟩
  have hcs1 := (hcs.below hb1 (Nat.le_refl _)).more hb1.size
  obtain ⟨gr, hgr⟩ : ∃ z, great12 xs = z := ⟨_, rfl⟩
  have hg := great12_any xs A n c w1 hn hc hm' hcs1
  rw [hgr] at hg
  have Hg := Lib.hid hg
  have Hcs := Lib.hid hcs
  clear hg hn hcs hcs1
  go_wp2_with fail
  refine Calls.mono Hg.out ?_
  rintro e w2 ⟨rfl, hb2⟩
  have hb2w : Below w.heap.size w w2 := hb1.trans (hb2.mono hb1.size)
  clear hb1 hb2 Hg
  cases gr with
  | true =>
    go_wp2_with fail
    go_ret
    exact ⟨rfl, hb2w⟩
  | false =>
    have Hn60 := Lib.hid (great12_no hgr)
    clear hgr
    go_wp2_with fail
    refine Calls.mono (vnew_any w2) ?_
    rintro e w3 ⟨s, rfl, hs3, hS3, hb3⟩
    have hb3w : Below w.heap.size w w3 := hb2w.trans (hb3.mono hb2w.size)
    have hF3 : ∀ b, newF (fun _ => False) w2 w3 b → w.heap.size ≤ b := fun b h => h.elim (fun h => h.elim) fun h => by have := hb2w.size; omega
    go_upto_region 6 with fail
    obtain ⟨w4, hw4⟩ : ∃ z, z = w3.alloc (.cells #[] 71) := ⟨_, rfl⟩
    change Code.wp _ _ _ _ (w3.alloc (.cells #[] 71))
    rw [← hw4]
    have hb34 : Below w3.heap.size w3 w4 := by rw [hw4]; exact (Below.refl _ _).alloc (Nat.le_refl _) _
    have HP4 := Lib.hid (show Pair12 w4 w.heap.size s (some ⟨w3.heap.size, 0, none⟩) 0 0 [] from ⟨_, fun _ => False, hS3.below hb34, ⟨[], rfl, rfl, Nat.le_refl _, by unfold maxLen; omega, ⟨fun h => absurd h (by simp), fun x hx => by cases hx⟩, .inr ⟨_, 0, rfl⟩⟩, fun b h => h.elim, fun b h => h.elim, hF3, fun b h => h.elim⟩)
    have hb4w : Below w.heap.size w w4 := hb3w.trans (hb34.mono hb3w.size)
    clear hw4 hb34 hS3 hF3 hb3w hb2w hb3 hs3
    go_wp2_with fail
    go_loopw [4, 25] (fun lv i wr => ∃ (k : Nat) (L : List Vol) (Al : Option Addr) (ml cl : Nat), k ≤ n ∧ i = .int .i64 k ∧ lv = .slice Al ml cl ∧ Hid (Pair12 wr w.heap.size s Al ml cl L) ∧ Hid (L.length ≤ k) ∧ Below w.heap.size w wr) (fun _ i _ => n - (Go.RowKit.intOf i).toNat)
    case atStart => exact ⟨0, [], _, 0, 0, Nat.zero_le _, rfl, rfl, HP4, Nat.le_refl _, hb4w⟩
    case round =>
      clear HP4 hb4w
      obtain ⟨k, L, Al, ml, cl, hk, rfl, rfl, HP, HL, hbr⟩ := hrel
      by_cases hlt : k < n
      · have hd1 : decide ((k : Int) < (n : Int)) = true := by simp; omega
        obtain ⟨x, hx⟩ : ∃ x, xs[k]? = some x := ⟨xs[k]'(by rw [Hn.out]; exact hlt), List.getElem?_eq_getElem _⟩
        obtain ⟨b, off, rfl, hblk, hrow⟩ := Hcs.out.2 (by rw [Hn.out]; omega)
        have hxo := Hcs.out.1 x (List.mem_of_getElem? hx)
        have Hxn := Lib.hid (Hn60.out.2 x (List.mem_of_getElem? hx))
        obtain ⟨VL, hVL⟩ : ∃ VL, VL = c12C x := ⟨_, rfl⟩
        have hVl : VL.length = 38 := by rw [hVL, c12C_length hxo.f32]
        have hrg : wr.rangeAt b (off + k * 38) VL := fun j v hj => by
          rw [hVL] at hj
          rw [← hrow k x hx j v hj]
          exact World.cell?_of_block (hbr.block b hblk)
        have HVi := Lib.hid (show (Tryz.prog.info? 31).map (·.size) = some VL.length by rw [hVl]; exact c12Size)
        have HVj := Lib.hid (show (Tryz.prog.info? 31).map (·.size) = some VL.toArray.size by rw [List.size_toArray, hVl]; exact c12Size)
        have HV1 := Lib.hid (show VL.toArray.all (·.oneCell') = true by rw [hVL]; exact all_oneCell_toArray (c12C_one x))
        have HVz := Lib.hid (show CZ.toArray.size = VL.toArray.size by rw [List.size_toArray, List.size_toArray, HZl.out, hVl])
        obtain ⟨wa, hwa⟩ : ∃ W, W = (wr.alloc (.cells CZ.toArray 31)).setRow wr.heap.size VL.toArray := ⟨_, rfl⟩
        obtain ⟨hVa, hbra⟩ := alloc_row wr 31 CZ.toArray VL
        rw [← hwa] at hVa hbra
        obtain ⟨gx, hgx⟩ : ∃ z, z = wr.heap.size := ⟨_, rfl⟩
        rw [← hgx] at hVa
        have hba : Below w.heap.size w wa := hbr.trans (hbra.mono hbr.size)
        have Hwa := Lib.hid hwa
        have HVL := Lib.hid hVL
        have hL' : L.length ≤ 100000 := by have := HL.out; have := Hn60.out.1; rw [Hn.out] at this; omega
        have Hcall := Lib.hid (HP.out.callA hbra hbr.size x hxo VL hVL hL')
        have Hgx := Lib.hid hgx
        have hn60 : n ≤ 60 := by have := Hn60.out.1; rw [Hn.out] at this; omega
        clear hwa hx hrow hVL hVl hbra hbr hxo hL' hgx
        go_upto_region 9 with (first
          | ((with_reducible refine wpList_atW 28 (by rfl) ?_); refine wpList_load_mid rfl _ _ rfl b (off + k * 38) rfl VL _ hrg Tryz.underlying31 rfl HVi.out ?_)
          | ((with_reducible refine wpList_atW 6 (by rfl) ?_); refine wpList_allocZ12 rfl 31 rfl CZ.toArray (HZ.out _) ?_)
          | (refine wpList_store_row rfl _ _ _ rfl wr.heap.size VL.toArray rfl rfl 31 CZ.toArray (heap_alloc_new wr _) HVj.out HVz.out HV1.out ?_; rw [← Hwa.out]))
        rw [← Hgx.out]
        clear hrg
        go_wp2_with (first | ((with_reducible refine wpList_atW 32 (by rfl) ?_); refine wpList_load_row rfl _ _ rfl gx rfl 31 VL.toArray (0, 0) _ hVa Tryz.underlying31 rfl HVj.out ?_))
        refine Calls.mono Hcall.out ?_
        rintro e w4 ⟨A', n', c', rfl, hP4, hrise, hb4, hkeep⟩
        have hV4 : Arr w4 gx 31 VL := hkeep gx _ _ (by rw [Hgx.out]; exact Nat.le_refl _) hVa
        have hb4w : Below w.heap.size w w4 := hba.trans hb4
        obtain ⟨L8, hL8⟩ : ∃ z, (opL L x).1 = z := ⟨_, rfl⟩
        rw [hL8] at hP4
        have Hl8 := Lib.hid (show L8.length ≤ k + 1 by rw [← hL8]; have := opL_len hrise x; have := HL.out; omega)
        have hl8 : L8.length ≤ 100 := by have := Hl8.out; omega
        have HP4 := Lib.hid hP4
        obtain ⟨F4, G4, hS4, hVs4, _, _, _, _⟩ := hP4
        have Hok := Lib.hid hS4.ok
        have Hri := Lib.hid hS4.rise
        obtain ⟨nm, hnm⟩ : ∃ z, z = x.name := ⟨_, rfl⟩
        obtain ⟨nu, hnu⟩ : ∃ z, z = x.num := ⟨_, rfl⟩
        obtain ⟨_, p1, _, p3, _, _⟩ := c12_cells hV4 HVL.out
        rw [← hnm] at p1
        rw [← hnu] at p3
        have hnl : nm.size ≤ 100 := by rw [hnm]; exact Hxn.out.1
        have Hcx := Lib.hid (fun (w' : World) (h : Arr w' gx 31 VL) => show w'.cell? ⟨gx, 1, none⟩ = some (.string nm) ∧ w'.cell? ⟨gx, 3, none⟩ = some (.int .i64 nu) by
          obtain ⟨_, p1, _, p3, _, _⟩ := c12_cells h HVL.out
          rw [hnm, hnu]; exact ⟨p1, p3⟩)
        obtain ⟨o, bq, kq, hget⟩ : ∃ o bq kq, getL L8 nm nu = (o, bq, kq) := ⟨_, _, _, rfl⟩
        have ho32 := getL_len Hok.out hget
        obtain ⟨OL, hOL⟩ : ∃ z, z = Lib.byteCells o := ⟨_, rfl⟩
        have HOi := Lib.hid (show (Tryz.prog.info? 29).map (·.size) = some OL.toArray.size ∧ (Lib.byteCells zeros).toArray.size = OL.toArray.size by rw [hOL, List.size_toArray, List.size_toArray, Lib.byteCells_length, Lib.byteCells_length, ho32]; exact ⟨digInfo, rfl⟩)
        have HOn := Lib.hid (show (Tryz.prog.info? 29).map (·.size) = some OL.length by rw [hOL, Lib.byteCells_length, ho32]; exact digInfo)
        have HO1 := Lib.hid (show OL.toArray.all (·.oneCell') = true by rw [hOL]; exact dig_one _)
        have Hoo := Lib.hid (fun w => show (Op.equalIn 10000 29 (.agg OL.toArray) (.agg OL.toArray)).run Tryz.prog w = .ok true w by have h := eqv_at Tryz.underlying29 o o ho32 ho32 OL OL hOL hOL w; simpa using h)
        have Hge := Lib.hid (get_any s nm (by unfold maxLen; omega) nu w4 F4 L8 hS4 o bq kq hget OL hOL)
        have Hrg := Lib.hid (fun (w' : World) (h : VSl w' G4 A' n' c' L8) => rget_any A' n' c' L8 nm (by unfold maxLen; omega) nu w' G4 h (by omega) o bq kq hget OL hOL)
        obtain ⟨KL, hKL⟩ : ∃ z, z = Lib.byteCells (keyF nm nu) := ⟨_, rfl⟩
        have hk32 : (keyF nm nu).length = 32 := shaF_length _
        have Hkk := Lib.hid (fun w => show (Op.equalIn 10000 29 (.agg KL.toArray) (.agg KL.toArray)).run Tryz.prog w = .ok true w by have h := eqv_at Tryz.underlying29 (keyF nm nu) (keyF nm nu) hk32 hk32 KL KL hKL hKL w; simpa using h)
        have HKL := Lib.hid hKL
        have HS4 := Lib.hid hS4
        have HVs4 := Lib.hid hVs4
        obtain ⟨E, hE⟩ : ∃ z, encV L8 = z := ⟨_, rfl⟩
        have HE := Lib.hid hE
        have hEl : E.length ≤ 10000000000 := by rw [← hE]; exact encV_le Hok.out hl8
        obtain ⟨ne, hne⟩ : ∃ z, E.length = z := ⟨_, rfl⟩
        have Hne := Lib.hid hne
        have hne2 : ne ≤ 10000000000 := by omega
        clear hVa hba hb4 hkeep hrise hL8 hS4 hVs4 hnm hnu hget ho32 hOL hKL hk32 hE Hcall hne
        go_wp2_with fail
        refine Calls.mono Hge.out ?_
        rintro e w5 ⟨rfl, hb5⟩
        have hV5 := hV4.up hb5
        have hb45 := hb5
        have hb5w : Below w.heap.size w w5 := hb4w.trans (hb5.mono hb4w.size)
        clear hV4 hb5 Hge p1 p3
        go_upto_region 12 with (first | (change wpList _ _ _ _ _ (w5.alloc (.cells (Lib.byteCells zeros).toArray 29)); refine wpList_store_row rfl _ _ _ rfl w5.heap.size OL.toArray rfl rfl 29 (Lib.byteCells zeros).toArray (heap_alloc_new w5 _) HOi.out.1 HOi.out.2 HO1.out ?_; obtain ⟨w6, hw6⟩ : ∃ x, x = (w5.alloc (.cells (Lib.byteCells zeros).toArray 29)).setRow w5.heap.size OL.toArray := ⟨_, rfl⟩; rw [← hw6]; obtain ⟨hP6, hb6⟩ := alloc_row w5 29 (Lib.byteCells zeros).toArray OL; rw [← hw6] at hP6 hb6; clear hw6))
        obtain ⟨gf, hgf⟩ : ∃ z, z = w5.heap.size := ⟨_, rfl⟩
        rw [← hgf] at hP6 ⊢
        have hV6 := hV5.up hb6
        have hb46 : Below w4.heap.size w4 w6 := hb45.trans (hb6.mono hb45.size)
        have hb6w : Below w.heap.size w w6 := hb5w.trans (hb6.mono hb5w.size)
        obtain ⟨q1, q3⟩ := Hcx.out w6 hV6
        clear hV5 hb6 hb45 hb5w hgf
        go_wp2_with fail
        refine Calls.mono (Hrg.out w6 (HVs4.out.below hb46)) ?_
        rintro e w7 ⟨rfl, hb7⟩
        have hV7 := hV6.up hb7
        have hF7 := hP6.up hb7
        have hb47 : Below w4.heap.size w4 w7 := hb46.trans (hb7.mono hb46.size)
        have hb7w : Below w.heap.size w w7 := hb6w.trans (hb7.mono hb6w.size)
        clear hV6 hP6 hb7 hb46 hb6w q1 q3 Hrg
        go_upto_region 13 with (first | (change wpList _ _ _ _ _ (w7.alloc (.cells (Lib.byteCells zeros).toArray 29)); refine wpList_store_row rfl _ _ _ rfl w7.heap.size OL.toArray rfl rfl 29 (Lib.byteCells zeros).toArray (heap_alloc_new w7 _) HOi.out.1 HOi.out.2 HO1.out ?_; obtain ⟨w8, hw8⟩ : ∃ x, x = (w7.alloc (.cells (Lib.byteCells zeros).toArray 29)).setRow w7.heap.size OL.toArray := ⟨_, rfl⟩; rw [← hw8]; obtain ⟨hP8, hb8⟩ := alloc_row w7 29 (Lib.byteCells zeros).toArray OL; rw [← hw8] at hP8 hb8; clear hw8))
        obtain ⟨gg, hgg⟩ : ∃ z, z = w7.heap.size := ⟨_, rfl⟩
        rw [← hgg] at hP8 ⊢
        have hV8 := hV7.up hb8
        have hF8 := hF7.up hb8
        have hb48 : Below w4.heap.size w4 w8 := hb47.trans (hb8.mono hb47.size)
        have hb8w : Below w.heap.size w w8 := hb7w.trans (hb8.mono hb7w.size)
        have hbb : (bq != bq) = false := by cases bq <;> rfl
        have hkk : (kq != kq) = false := by simp
        have Hb48 := Lib.hid hb48
        clear hV7 hF7 hb8 hb47 hb7w hgg hb48
        have Hb4_8 := Lib.hid (show Below w4.heap.size w4 (w8.drewN 1) from Below.dN Hb48.out 1)
        refine wp_region_held_drew (S := (fun w' => Arr w' gf 29 OL ∧ Arr w' gg 29 OL ∧ Arr w' gx 31 VL)) (by kernel_rfl) ⟨hF8, hP8, hV8⟩ (fun hHeld => ?_)
        refine anyH_take (i := 0) (v := .bool true) (some 57) rfl rfl (by kernel_rfl) (by kernel_rfl) (by kernel_rfl) (fun _ _ _ h => h) (Or.inl ⟨by rfl, fun w' hw => by (go_simp)⟩) (by assumption) ?_
        simp only [Act.put, List.setIfInBounds_toArray, List.set_cons_zero, List.set_cons_succ]
        refine anyH_take (i := 1) (v := .bool false) (some 58) rfl rfl (by kernel_rfl) (by kernel_rfl) (by kernel_rfl) (fun _ _ _ h => h) (Or.inl ⟨by rfl, fun w' hw => by (go_simp)⟩) (by assumption) ?_
        simp only [Act.put, List.setIfInBounds_toArray, List.set_cons_zero, List.set_cons_succ]
        refine anyH_take (i := 2) (v := .bool false) (some 59) rfl rfl (by kernel_rfl) (by kernel_rfl) (by kernel_rfl) (fun _ _ _ h => h) (Or.inl ⟨by rfl, fun w' hw => by (go_simp)⟩) (by assumption) ?_
        simp only [Act.put, List.setIfInBounds_toArray, List.set_cons_zero, List.set_cons_succ]
        refine anyH_take (i := 3) (some 60) rfl rfl (by kernel_rfl) (by kernel_rfl) (by kernel_rfl) (fun _ _ _ h => h) (yieldsIf_load_mid (by rfl) 29 (.tmp 9) rfl gf 0 rfl OL _ (fun w' h => (h.1).range) Tryz.underlying29 rfl HOn.out) (by assumption) ?_
        simp only [Act.put, List.setIfInBounds_toArray, List.set_cons_zero, List.set_cons_succ]
        refine anyH_take (i := 4) (some 61) rfl rfl (by kernel_rfl) (by kernel_rfl) (by kernel_rfl) (fun _ _ _ h => h) (yieldsIf_load_mid (by rfl) 29 (.tmp 12) rfl gg 0 rfl OL _ (fun w' h => (h.2.1).range) Tryz.underlying29 rfl HOn.out) (by assumption) ?_
        simp only [Act.put, List.setIfInBounds_toArray, List.set_cons_zero, List.set_cons_succ]
        refine anyH_take (i := 5) (v := .bool false) (some 62) rfl rfl (by kernel_rfl) (by kernel_rfl) (by kernel_rfl) (fun _ _ _ h => h) (Or.inl ⟨by rfl, fun w' hw => by (have hcq := Hoo.out; have hg := gt32; go_simp)⟩) (by assumption) ?_
        simp only [Act.put, List.setIfInBounds_toArray, List.set_cons_zero, List.set_cons_succ]
        refine anyH_take (i := 6) (v := .bool false) (some 63) rfl rfl (by kernel_rfl) (by kernel_rfl) (by kernel_rfl) (fun _ _ _ h => h) (Or.inl ⟨by rfl, fun w' hw => by (go_simp)⟩) (by assumption) ?_
        simp only [Act.put, List.setIfInBounds_toArray, List.set_cons_zero, List.set_cons_succ]
        refine anyH_take (i := 7) (v := .bool false) (some 64) rfl rfl (by kernel_rfl) (by kernel_rfl) (by kernel_rfl) (fun _ _ _ h => h) (Or.inl ⟨by rfl, fun w' hw => by (go_simp)⟩) (by assumption) ?_
        simp only [Act.put, List.setIfInBounds_toArray, List.set_cons_zero, List.set_cons_succ]
        refine anyH_take (i := 8) (v := .bool bq) (some 65) rfl rfl (by kernel_rfl) (by kernel_rfl) (by kernel_rfl) (fun _ _ _ h => h) (Or.inl ⟨by rfl, fun w' hw => by (go_simp)⟩) (by assumption) ?_
        simp only [Act.put, List.setIfInBounds_toArray, List.set_cons_zero, List.set_cons_succ]
        refine anyH_take (i := 9) (v := .bool bq) (some 66) rfl rfl (by kernel_rfl) (by kernel_rfl) (by kernel_rfl) (fun _ _ _ h => h) (Or.inl ⟨by rfl, fun w' hw => by (go_simp)⟩) (by assumption) ?_
        simp only [Act.put, List.setIfInBounds_toArray, List.set_cons_zero, List.set_cons_succ]
        refine anyH_take (i := 10) (v := .bool false) (some 67) rfl rfl (by kernel_rfl) (by kernel_rfl) (by kernel_rfl) (fun _ _ _ h => h) (Or.inl ⟨by rfl, fun w' hw => by (go_simp)⟩) (by assumption) ?_
        simp only [Act.put, List.setIfInBounds_toArray, List.set_cons_zero, List.set_cons_succ]
        refine anyH_take (i := 11) (v := .bool false) (some 68) rfl rfl (by kernel_rfl) (by kernel_rfl) (by kernel_rfl) (fun _ _ _ h => h) (Or.inl ⟨by rfl, fun w' hw => by (go_simp)⟩) (by assumption) ?_
        simp only [Act.put, List.setIfInBounds_toArray, List.set_cons_zero, List.set_cons_succ]
        refine anyH_take (i := 12) (v := .bool false) (some 69) rfl rfl (by kernel_rfl) (by kernel_rfl) (by kernel_rfl) (fun _ _ _ h => h) (Or.inl ⟨by rfl, fun w' hw => by (go_simp)⟩) (by assumption) ?_
        simp only [Act.put, List.setIfInBounds_toArray, List.set_cons_zero, List.set_cons_succ]
        refine anyH_take (i := 13) (v := .int .i64 kq) (some 70) rfl rfl (by kernel_rfl) (by kernel_rfl) (by kernel_rfl) (fun _ _ _ h => h) (Or.inl ⟨by rfl, fun w' hw => by (go_simp)⟩) (by assumption) ?_
        simp only [Act.put, List.setIfInBounds_toArray, List.set_cons_zero, List.set_cons_succ]
        refine anyH_take (i := 14) (v := .int .i64 kq) (some 71) rfl rfl (by kernel_rfl) (by kernel_rfl) (by kernel_rfl) (fun _ _ _ h => h) (Or.inl ⟨by rfl, fun w' hw => by (go_simp)⟩) (by assumption) ?_
        simp only [Act.put, List.setIfInBounds_toArray, List.set_cons_zero, List.set_cons_succ]
        refine anyH_take (i := 15) (v := .bool false) (some 72) rfl rfl (by kernel_rfl) (by kernel_rfl) (by kernel_rfl) (fun _ _ _ h => h) (Or.inl ⟨by rfl, fun w' hw => by (go_simp)⟩) (by assumption) ?_
        simp only [Act.put, List.setIfInBounds_toArray, List.set_cons_zero, List.set_cons_succ]
        refine anyH_take (i := 16) (v := .bool false) (some 73) rfl rfl (by kernel_rfl) (by kernel_rfl) (by kernel_rfl) (fun _ _ _ h => h) (Or.inl ⟨by rfl, fun w' hw => by (go_simp)⟩) (by assumption) ?_
        simp only [Act.put, List.setIfInBounds_toArray, List.set_cons_zero, List.set_cons_succ]
        refine anyH_take (i := 17) (v := .bool false) (some 74) rfl rfl (by kernel_rfl) (by kernel_rfl) (by kernel_rfl) (fun _ _ _ h => h) (Or.inl ⟨by rfl, fun w' hw => by (go_simp)⟩) (by assumption) ?_
        simp only [Act.put, List.setIfInBounds_toArray, List.set_cons_zero, List.set_cons_succ]
        refine anyH_take (i := 18) (v := (.pointer (some ⟨s, 0, none⟩))) (some 75) rfl rfl (by kernel_rfl) (by kernel_rfl) (by kernel_rfl) (fun _ _ _ h => h) (Or.inl ⟨by rfl, fun w' hw => by (go_simp)⟩) (by assumption) ?_
        simp only [Act.put, List.setIfInBounds_toArray, List.set_cons_zero, List.set_cons_succ]
        refine anyH_take (i := 20) (v := (.slice A' n' c')) (some 77) rfl rfl (by kernel_rfl) (by kernel_rfl) (by kernel_rfl) (fun _ _ _ h => h) (Or.inl ⟨by rfl, fun w' hw => by (go_simp)⟩) (by assumption) ?_
        simp only [Act.put, List.setIfInBounds_toArray, List.set_cons_zero, List.set_cons_succ]
        refine wpAnyH_ready (rs := [19]) (by kernel_rfl) (by simp) ?_
        refine AllReadyH.cons rfl (fun K hK => ?_) AllReadyH.nil
        go_simp
        go_at_call 11
        refine Calls.mono (all_any s (w8.drewN 1) F4 L8 (HS4.out.below Hb4_8.out) (by omega)) ?_
        rintro e w9 ⟨A9, c9, ys, rfl, hy1, hy2, hy3, hy4, hb9x⟩
        have hb9 : Below w8.heap.size w8 w9 := (Below.dN (Below.refl _ w8) 1).trans hb9x
        have hV9 := hV8.up hb9
        have hF9 := hF8.up hb9
        have hP9 := hP8.up hb9
        have Hb4_9 := Lib.hid (Hb48.out.trans (hb9.mono Hb48.out.size))
        have hb9w := hb8w.trans (hb9.mono hb8w.size)
        clear hb9 hb9x hV8 hF8 hP8 hb8w
        obtain ⟨ny, hny⟩ : ∃ z, ys.length = z := ⟨_, rfl⟩
        rw [hny] at hy1 ⊢
        obtain ⟨zs, hz1, hz2, hz3, hz4, hz5, _⟩ := HVs4.out.below Hb4_9.out
        have Hsm := Lib.hid (same12_below A9 A' ny c9 n' c' ys zs w9 _ _ hy3 hz5 hny hz2 hy1 hy2 hz3 hz4 true (by rw [hy4, hz1]; simp))
        clear hy1 hy2 hy3 hy4 hz1 hz2 hz3 hz4 hz5 hny
        refine hK.out _ _ ⟨hF9, hP9, hV9⟩ (fun hHeldx => ?_)
        clear hK K
        try simp only [Act.put, List.setIfInBounds_toArray, List.set_cons_zero, List.set_cons_succ]
        refine wpAnyH_ready (rs := [21]) (by kernel_rfl) (by simp) ?_
        refine AllReadyH.cons rfl (fun K hK => ?_) AllReadyH.nil
        go_simp
        go_at_call 10
        refine Calls.mono (Hsm.out) ?_
        rintro e w10 ⟨rfl, hb10⟩
        have hV10 := hV9.up hb10
        have hF10 := hF9.up hb10
        have hP10 := hP9.up hb10
        have Hb4_10 := Lib.hid (Hb4_9.out.trans (hb10.mono Hb4_9.out.size))
        have hb10w := hb9w.trans (hb10.mono hb9w.size)
        clear hb10 hV9 hF9 hP9 hb9w
        clear Hsm
        refine hK.out _ _ ⟨hF10, hP10, hV10⟩ (fun hHeldx => ?_)
        clear hK K
        try simp only [Act.put, List.setIfInBounds_toArray, List.set_cons_zero, List.set_cons_succ]
        refine anyH_take (i := 22) (v := .bool false) (some 79) rfl rfl (by kernel_rfl) (by kernel_rfl) (by kernel_rfl) (fun _ _ _ h => h) (Or.inl ⟨by rfl, fun w' hw => by (go_simp)⟩) (by assumption) ?_
        simp only [Act.put, List.setIfInBounds_toArray, List.set_cons_zero, List.set_cons_succ]
        refine anyH_take (i := 23) (v := .bool false) (some 80) rfl rfl (by kernel_rfl) (by kernel_rfl) (by kernel_rfl) (fun _ _ _ h => h) (Or.inl ⟨by rfl, fun w' hw => by (go_simp)⟩) (by assumption) ?_
        simp only [Act.put, List.setIfInBounds_toArray, List.set_cons_zero, List.set_cons_succ]
        refine anyH_take (i := 24) (v := .bool false) (some 81) rfl rfl (by kernel_rfl) (by kernel_rfl) (by kernel_rfl) (fun _ _ _ h => h) (Or.inl ⟨by rfl, fun w' hw => by (go_simp)⟩) (by assumption) ?_
        simp only [Act.put, List.setIfInBounds_toArray, List.set_cons_zero, List.set_cons_succ]
        refine anyH_take (i := 25) (v := (.pointer (some ⟨s, 0, none⟩))) (some 82) rfl rfl (by kernel_rfl) (by kernel_rfl) (by kernel_rfl) (fun _ _ _ h => h) (Or.inl ⟨by rfl, fun w' hw => by (go_simp)⟩) (by assumption) ?_
        simp only [Act.put, List.setIfInBounds_toArray, List.set_cons_zero, List.set_cons_succ]
        refine anyH_take (i := 27) (v := (.slice A' n' c')) (some 84) rfl rfl (by kernel_rfl) (by kernel_rfl) (by kernel_rfl) (fun _ _ _ h => h) (Or.inl ⟨by rfl, fun w' hw => by (go_simp)⟩) (by assumption) ?_
        simp only [Act.put, List.setIfInBounds_toArray, List.set_cons_zero, List.set_cons_succ]
        refine wpAnyH_ready (rs := [26]) (by kernel_rfl) (by simp) ?_
        refine AllReadyH.cons rfl (fun K hK => ?_) AllReadyH.nil
        go_simp
        go_at_call 13
        refine Calls.mono (encode_any s w10 F4 L8 (HS4.out.below Hb4_10.out) (by omega) Hok.out E HE.out hEl) ?_
        rintro e w11 ⟨v11, rfl, hO11, hb11⟩
        obtain ⟨A11, c11, rfl, hc11, hcm11, hbs11⟩ := Owns.slice hO11
        rw [Hne.out] at hc11 ⊢
        have hV11 := hV10.up hb11
        have hF11 := hF10.up hb11
        have hP11 := hP10.up hb11
        have Hb4_11 := Lib.hid (Hb4_10.out.trans (hb11.mono Hb4_10.out.size))
        have hb11w := hb10w.trans (hb11.mono hb10w.size)
        clear hb11 hV10 hF10 hP10 hb10w
        have Hbs11 := Lib.hid hbs11
        clear hO11 hbs11 hc11 hcm11
        refine hK.out _ _ ⟨hF11, hP11, hV11⟩ (fun hHeldx => ?_)
        clear hK K
        try simp only [Act.put, List.setIfInBounds_toArray, List.set_cons_zero, List.set_cons_succ]
        refine wpAnyH_ready (rs := [28]) (by kernel_rfl) (by simp) ?_
        refine AllReadyH.cons rfl (fun K hK => ?_) AllReadyH.nil
        go_simp
        go_at_call 14
        refine Calls.mono (rencode_any A' n' c' L8 w11 G4 (HVs4.out.below Hb4_11.out) (by have h := HVs4.out; obtain ⟨zs, hz1, hz2, _⟩ := h; rw [← hz2]; have h3 := congrArg List.length hz1; rw [List.length_map] at h3; omega) Hok.out E HE.out hEl) ?_
        rintro e w12 ⟨v12, rfl, hO12, hb12⟩
        obtain ⟨A12, c12, rfl, hc12, hcm12, hbs12⟩ := Owns.slice hO12
        rw [Hne.out] at hc12 ⊢
        have Hbs11x := Lib.hid (Hbs11.out.below hb12 (Nat.le_refl _))
        have hV12 := hV11.up hb12
        have hF12 := hF11.up hb12
        have hP12 := hP11.up hb12
        have Hb4_12 := Lib.hid (Hb4_11.out.trans (hb12.mono Hb4_11.out.size))
        have hb12w := hb11w.trans (hb12.mono hb11w.size)
        clear hb12 hV11 hF11 hP11 hb11w
        have Hbs12 := Lib.hid hbs12
        clear hO12 hbs12 hc12 hcm12
        refine hK.out _ _ ⟨hF12, hP12, hV12⟩ (fun hHeldx => ?_)
        clear hK K
        try simp only [Act.put, List.setIfInBounds_toArray, List.set_cons_zero, List.set_cons_succ]
        refine wpAnyH_ready (rs := [29]) (by kernel_rfl) (by simp) ?_
        refine AllReadyH.cons rfl (fun K hK => ?_) AllReadyH.nil
        go_simp
        go_at_call 12
        refine Calls.mono (same_n _ _ A11 A12 c11 c12 ne ne E E w12 true Hbs11x.out Hbs12.out Hne.out Hne.out (by unfold maxLen; omega) (by unfold maxLen; omega) (by simp)) ?_
        rintro e w13 ⟨rfl, hD13⟩
        have hb13 : Below w12.heap.size w12 w13 := by obtain ⟨dn, e⟩ := hD13; rw [e]; exact Below.dN (Below.refl _ _) dn
        clear hD13
        have hV13 := hV12.up hb13
        have hF13 := hF12.up hb13
        have hP13 := hP12.up hb13
        have Hb4_13 := Lib.hid (Hb4_12.out.trans (hb13.mono Hb4_12.out.size))
        have hb13w := hb12w.trans (hb13.mono hb12w.size)
        clear hb13 hV12 hF12 hP12 hb12w
        refine hK.out _ _ ⟨hF13, hP13, hV13⟩ (fun hHeldx => ?_)
        clear hK K
        try simp only [Act.put, List.setIfInBounds_toArray, List.set_cons_zero, List.set_cons_succ]
        refine anyH_take (i := 30) (v := .bool false) (some 87) rfl rfl (by kernel_rfl) (by kernel_rfl) (by kernel_rfl) (fun _ _ _ h => h) (Or.inl ⟨by rfl, fun w' hw => by (go_simp)⟩) (by assumption) ?_
        simp only [Act.put, List.setIfInBounds_toArray, List.set_cons_zero, List.set_cons_succ]
        refine anyH_take (i := 31) (v := .bool false) (some 88) rfl rfl (by kernel_rfl) (by kernel_rfl) (by kernel_rfl) (fun _ _ _ h => h) (Or.inl ⟨by rfl, fun w' hw => by (go_simp)⟩) (by assumption) ?_
        simp only [Act.put, List.setIfInBounds_toArray, List.set_cons_zero, List.set_cons_succ]
        refine anyH_take (i := 32) (v := .bool false) (some 89) rfl rfl (by kernel_rfl) (by kernel_rfl) (by kernel_rfl) (fun _ _ _ h => h) (Or.inl ⟨by rfl, fun w' hw => by (go_simp)⟩) (by assumption) ?_
        simp only [Act.put, List.setIfInBounds_toArray, List.set_cons_zero, List.set_cons_succ]
        refine anyH_take (i := 33) (v := (.pointer (some ⟨gx, 1, none⟩))) (some 90) rfl rfl (by kernel_rfl) (by kernel_rfl) (by kernel_rfl) (fun _ _ _ h => h) (Or.inl ⟨by rfl, fun w' hw => by (go_simp)⟩) (by assumption) ?_
        simp only [Act.put, List.setIfInBounds_toArray, List.set_cons_zero, List.set_cons_succ]
        refine anyH_take (i := 34) (v := .string nm) (some 91) rfl rfl (by kernel_rfl) (by kernel_rfl) (by kernel_rfl) (fun _ _ _ h => h) (Or.inl ⟨by rfl, fun w' hw => by (have hcq := (Hcx.out w' hw.2.2).1; go_simp)⟩) (by assumption) ?_
        simp only [Act.put, List.setIfInBounds_toArray, List.set_cons_zero, List.set_cons_succ]
        refine anyH_take (i := 35) (v := (.pointer (some ⟨gx, 3, none⟩))) (some 92) rfl rfl (by kernel_rfl) (by kernel_rfl) (by kernel_rfl) (fun _ _ _ h => h) (Or.inl ⟨by rfl, fun w' hw => by (go_simp)⟩) (by assumption) ?_
        simp only [Act.put, List.setIfInBounds_toArray, List.set_cons_zero, List.set_cons_succ]
        refine anyH_take (i := 36) (v := .int .i64 nu) (some 93) rfl rfl (by kernel_rfl) (by kernel_rfl) (by kernel_rfl) (fun _ _ _ h => h) (Or.inl ⟨by rfl, fun w' hw => by (have hcq := (Hcx.out w' hw.2.2).2; go_simp)⟩) (by assumption) ?_
        simp only [Act.put, List.setIfInBounds_toArray, List.set_cons_zero, List.set_cons_succ]
        refine anyH_take (i := 38) (v := (.pointer (some ⟨gx, 1, none⟩))) (some 95) rfl rfl (by kernel_rfl) (by kernel_rfl) (by kernel_rfl) (fun _ _ _ h => h) (Or.inl ⟨by rfl, fun w' hw => by (go_simp)⟩) (by assumption) ?_
        simp only [Act.put, List.setIfInBounds_toArray, List.set_cons_zero, List.set_cons_succ]
        refine anyH_take (i := 39) (v := .string nm) (some 96) rfl rfl (by kernel_rfl) (by kernel_rfl) (by kernel_rfl) (fun _ _ _ h => h) (Or.inl ⟨by rfl, fun w' hw => by (have hcq := (Hcx.out w' hw.2.2).1; go_simp)⟩) (by assumption) ?_
        simp only [Act.put, List.setIfInBounds_toArray, List.set_cons_zero, List.set_cons_succ]
        refine anyH_take (i := 40) (v := (.pointer (some ⟨gx, 3, none⟩))) (some 97) rfl rfl (by kernel_rfl) (by kernel_rfl) (by kernel_rfl) (fun _ _ _ h => h) (Or.inl ⟨by rfl, fun w' hw => by (go_simp)⟩) (by assumption) ?_
        simp only [Act.put, List.setIfInBounds_toArray, List.set_cons_zero, List.set_cons_succ]
        refine anyH_take (i := 41) (v := .int .i64 nu) (some 98) rfl rfl (by kernel_rfl) (by kernel_rfl) (by kernel_rfl) (fun _ _ _ h => h) (Or.inl ⟨by rfl, fun w' hw => by (have hcq := (Hcx.out w' hw.2.2).2; go_simp)⟩) (by assumption) ?_
        simp only [Act.put, List.setIfInBounds_toArray, List.set_cons_zero, List.set_cons_succ]
        refine wpAnyH_ready (rs := [37]) (by kernel_rfl) (by simp) ?_
        refine AllReadyH.cons rfl (fun K hK => ?_) AllReadyH.nil
        go_simp
        go_at_call 15
        refine Calls.mono (key_any nm (by omega) nu KL HKL.out w13) ?_
        rintro e w14 ⟨rfl, hb14⟩
        have hV14 := hV13.up hb14
        have hF14 := hF13.up hb14
        have hP14 := hP13.up hb14
        have Hb4_14 := Lib.hid (Hb4_13.out.trans (hb14.mono Hb4_13.out.size))
        have hb14w := hb13w.trans (hb14.mono hb13w.size)
        clear hb14 hV13 hF13 hP13 hb13w
        refine hK.out _ _ ⟨hF14, hP14, hV14⟩ (fun hHeldx => ?_)
        clear hK K
        try simp only [Act.put, List.setIfInBounds_toArray, List.set_cons_zero, List.set_cons_succ]
        refine wpAnyH_ready (rs := [42]) (by kernel_rfl) (by simp) ?_
        refine AllReadyH.cons rfl (fun K hK => ?_) AllReadyH.nil
        go_simp
        go_at_call 16
        refine Calls.mono (rkey_any nm (by omega) nu KL HKL.out w14) ?_
        rintro e w15 ⟨rfl, hb15⟩
        have hV15 := hV14.up hb15
        have hF15 := hF14.up hb15
        have hP15 := hP14.up hb15
        have Hb4_15 := Lib.hid (Hb4_14.out.trans (hb15.mono Hb4_14.out.size))
        have hb15w := hb14w.trans (hb15.mono hb14w.size)
        clear hb15 hV14 hF14 hP14 hb14w
        have Hb15 := Hb4_15
        have Hb15w := Lib.hid hb15w
        refine hK.out _ _ ⟨hF15, hP15, hV15⟩ (fun hHeldx => ?_)
        clear hK K
        try simp only [Act.put, List.setIfInBounds_toArray, List.set_cons_zero, List.set_cons_succ]
        refine anyH_take (i := 43) (v := .bool false) (some 100) rfl rfl (by kernel_rfl) (by kernel_rfl) (by kernel_rfl) (fun _ _ _ h => h) (Or.inl ⟨by rfl, fun w' hw => by (have hcq := Hkk.out; have hg := gt32; go_simp)⟩) (by assumption) ?_
        simp only [Act.put, List.setIfInBounds_toArray, List.set_cons_zero, List.set_cons_succ]
        refine anyH_take (i := 44) (v := .bool false) (some 101) rfl rfl (by kernel_rfl) (by kernel_rfl) (by kernel_rfl) (fun _ _ _ h => h) (Or.inl ⟨by rfl, fun w' hw => by (go_simp)⟩) (by assumption) ?_
        simp only [Act.put, List.setIfInBounds_toArray, List.set_cons_zero, List.set_cons_succ]
        refine wpAnyH_done (by kernel_rfl) ?_ _
        go_wp2_with fail
        go_roundw
        case rel => exact ⟨k + 1, L8, A', n', c', by omega, by go_num, rfl, Lib.hid (HP4.out.below Hb15.out), Hl8, Hb15w.out⟩
        case measure => simp [Go.RowKit.intOf]; omega
      · have hd1 : decide ((k : Int) < (n : Int)) = false := by simp; omega
        have hn60 : n ≤ 60 := by have := Hn60.out.1; rw [Hn.out] at this; omega
        have hl8 : L.length ≤ 100 := by have := HL.out; omega
        obtain ⟨F, G, hS, hVs, _, _, _, _⟩ := HP.out
        have Hok := Lib.hid hS.ok
        have Hri := Lib.hid hS.rise
        obtain ⟨E, hE⟩ : ∃ z, encV L = z := ⟨_, rfl⟩
        have hEl : E.length ≤ 10000000000 := by rw [← hE]; exact encV_le Hok.out hl8
        obtain ⟨ne, hne⟩ : ∃ z, E.length = z := ⟨_, rfl⟩
        have hne2 : ne ≤ 10000000000 := by omega
        have Hdv := Lib.hid (show decV ne E = some L by rw [← hE]; exact decV_back Hok.out Hri.out ne (by rw [hE]; exact hne) (by omega))
        have Henc := Lib.hid (encode_any s wr F L hS (by omega) Hok.out E hE hEl)
        have HS := Lib.hid hS
        have HVs := Lib.hid hVs
        have Hne := Lib.hid hne
        have Hbr := Lib.hid hbr
        clear hS hVs hE hne hbr HP
        go_wp2_with fail
        refine Calls.mono Henc.out ?_
        rintro e w5 ⟨v5, rfl, hO5, hb5⟩
        obtain ⟨A5, c5, rfl, hc5, hcm5, hbs5⟩ := Owns.slice hO5
        rw [Hne.out] at hc5 ⊢
        have Hdec := Lib.hid (decode_any A5 ne c5 E Hne.out hc5 hcm5 hne2 w5 hbs5)
        have hb5w : Below w.heap.size w w5 := Hbr.out.trans (hb5.mono Hbr.out.size)
        have Hb5 := Lib.hid hb5
        clear hO5 hbs5 hb5 Henc hc5 hcm5
        go_wp2_with fail
        refine Calls.mono Hdec.out ?_
        rintro e w6 ⟨hb6, hcase⟩
        have hb6w : Below w.heap.size w w6 := hb5w.trans (hb6.mono hb5w.size)
        rcases hcase with ⟨hno, rfl⟩ | ⟨L2, s2, F2, hyes, rfl, hS2, hF2⟩
        · rw [Hdv.out] at hno; cases hno
        · have hLL : L = L2 := by rw [Hdv.out] at hyes; injection hyes
          subst hLL
          have Hall := Lib.hid (all_any s2 w6 F2 L hS2 (by omega))
          have HV6 := Lib.hid (HVs.out.below (Hb5.out.trans (hb6.mono Hb5.out.size)))
          clear hyes hS2 hb6 Hdec
          go_wp2_with fail
          refine Calls.mono Hall.out ?_
          rintro e w7 ⟨A7, c7, ys, rfl, hy1, hy2, hy3, hy4, hb7⟩
          obtain ⟨ny, hny⟩ : ∃ z, ys.length = z := ⟨_, rfl⟩
          rw [hny] at hy1 ⊢
          obtain ⟨zs, hz1, hz2, hz3, hz4, hz5, _⟩ := HV6.out.below hb7
          have Hsm := Lib.hid (same12_below A7 Al ny c7 ml cl ys zs w7 _ _ hy3 hz5 hny hz2 hy1 hy2 hz3 hz4 true (by rw [hy4, hz1]; simp))
          have hb7w : Below w.heap.size w w7 := hb6w.trans (hb7.mono hb6w.size)
          clear hy1 hy2 hy3 hy4 hz1 hz2 hz3 hz4 hz5 hb7 Hall hny
          go_wp2_with fail
          refine Calls.mono Hsm.out ?_
          rintro e w8 ⟨rfl, hb8⟩
          go_wp2_with fail
          go_ret
          exact ⟨rfl, hb7w.trans (hb8.mono hb7w.size)⟩

end Go.Proofs.YtcajhndhjlfmaaaGreat

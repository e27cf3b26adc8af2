/-
  Volumes as bytes, and of bytes.
-/
import Derived.Test.YtcajhndhjlfmaaaVolPure
import Derived.Test.YtcajhndhjlfmaaaTakesMath
import Derived.Test.YtcajhndhjlfmaaaInBytes
import Derived.Test.YtcajhndhjlfmaaaInWrong
import Derived.Test.YtcajhndhjlfmaaaDigF
namespace Go.Proofs.Ytcajhndhjlfmaaa
open Go.RowKit
set_option linter.unusedVariables false
set_option linter.unusedSimpArgs false

theorem numF_le' (most : Nat) (l : List UInt8) : (numF most l).1 ≤ most := by
  unfold numF
  split
  · exact Nat.zero_le _
  · rename_i h; exact Nat.le_of_not_lt (fun e => h (.inr e))
theorem numF_back (most v : Nat) (r : List UInt8) (h : v ≤ most) (hv : v < 18446744073709551616) : numF most (Lib.uvarint v ++ r) = (v, r, false) := by
  unfold numF
  rw [lead_uv v r hv]
  have := Lib.uvarint_pos v
  rw [if_neg (by simp only; omega)]
  simp
abbrev St := List UInt8 × Bool

def numS (most : Nat) (s : St) : Nat × St := ((numF most s.1).1, ((numF most s.1).2.1, s.2 || (numF most s.1).2.2))

def digS (s : St) : List UInt8 × St := (digF s.1, ((cutF 32 s.1).2.1, s.2 || (cutF 32 s.1).2.2))

def bytS (most : Int) (s : St) : List UInt8 × St := ((bytesF most s.1).1, ((bytesF most s.1).2.1, s.2 || (bytesF most s.1).2.2))

/-- How a part is taken: what it is, if all went right; what was put comes back. -/
structure Takes {α : Type} (take : St → α × St) (enc : α → List UInt8) (ok : α → Prop) : Prop where
  sound : ∀ s, (take s).2.2 = false → s.2 = false ∧ s.1 = enc (take s).1 ++ (take s).2.1 ∧ ok (take s).1
  back : ∀ x t, ok x → take (enc x ++ t, false) = (x, (t, false))

theorem or_no {a b : Bool} (h : (a || b) = false) : a = false ∧ b = false := Bool.or_eq_false_iff.1 h

theorem numF_sound {most : Nat} {l : List UInt8} (h : (numF most l).2.2 = false) : l = Lib.uvarint (numF most l).1 ++ (numF most l).2.1 ∧ (numF most l).1 ≤ most ∧ (numF most l).1 < 18446744073709551616 := by
  unfold numF at h ⊢
  by_cases hc : (lead l).2 = 0 ∨ most < (lead l).1
  · rw [if_pos hc] at h; cases h
  · rw [if_neg hc] at h ⊢
    obtain ⟨v, g, hL⟩ : ∃ v g, lead l = (v, g) := ⟨_, _, rfl⟩
    have hv := (lead_le l).2
    rw [hL] at hc hv ⊢
    simp only [not_or] at hc
    obtain ⟨u, r, h1, h2, h3, _⟩ := leadFrom_sound l 0 0 v g hL hc.1
    have hvu : v = u := by simpa using h3
    subst hvu
    have hg : g = (Lib.uvarint v).length := by omega
    refine ⟨?_, by simp only; omega, hv⟩
    simp only
    rw [h1, hg]
    simp

theorem takes_num (most : Nat) (hm : most < 18446744073709551616) : Takes (numS most) Lib.uvarint (fun v => v ≤ most ∧ v < 18446744073709551616) where
  sound := fun s h => by
    obtain ⟨h1, h2⟩ := or_no h
    obtain ⟨e1, e2, e3⟩ := numF_sound h2
    exact ⟨h1, e1, e2, e3⟩
  back := fun v t h => by
    unfold numS
    rw [numF_back most v t h.1 h.2]
    rfl

theorem takes_dig : Takes digS id (fun d => d.length = 32) where
  sound := fun s h => by
    obtain ⟨h1, h2⟩ := or_no h
    unfold digS
    unfold cutF at h2 ⊢
    unfold digF
    by_cases hl : s.1.length < 32
    · rw [if_pos hl] at h2; cases h2
    · rw [if_neg hl, if_neg hl]
      refine ⟨h1, ?_, by rw [List.length_take]; omega⟩
      simp
  back := fun d t h => by
    unfold digS digF cutF
    have hl : ¬ (d ++ t).length < 32 := by rw [List.length_append]; omega
    dsimp only [id]
    rw [if_neg hl, if_neg hl, ← h, List.take_left, List.drop_left]
    rfl
theorem numS_le (most : Nat) (s : St) : (numS most s).1 ≤ most := numF_le' most s.1

theorem digS_length (s : St) : (digS s).1.length = 32 := digF_length s.1
theorem insV_mem {x c : Vol} : ∀ {L : List Vol}, c ∈ insV x L ↔ c = x ∨ c ∈ L
  | [] => by simp [insV]
  | y :: r => by
    unfold insV
    split
    · simp
    · simp only [List.mem_cons, insV_mem (L := r)]
      constructor
      · rintro (h | h | h) <;> simp [h]
      · rintro (h | h | h) <;> simp [h]

theorem takes_nm : Takes (bytS 20) (fun e => Lib.uvarint e.length ++ e) (fun e => e.length ≤ 20) where
  sound := fun s h => by
    obtain ⟨h1, h2⟩ := or_no h
    unfold bytS
    unfold bytesF at h2 ⊢
    rw [if_neg (by omega)] at h2 ⊢
    simp only [Int.reduceToNat] at h2 ⊢
    obtain ⟨h3, h4⟩ := or_no h2
    obtain ⟨e1, e2, e3⟩ := numF_sound h3
    unfold cutF at h4 ⊢
    by_cases hl : (numF 20 s.1).2.1.length < (numF 20 s.1).1
    · rw [if_pos hl] at h4; cases h4
    · rw [if_neg hl]
      have hlen : (List.take (numF 20 s.1).1 (numF 20 s.1).2.1).length = (numF 20 s.1).1 := by rw [List.length_take]; omega
      dsimp only
      refine ⟨h1, ?_, by rw [hlen]; exact e2⟩
      rw [hlen, List.append_assoc, List.take_append_drop]
      exact e1
  back := fun e t h => by
    unfold bytS bytesF
    rw [if_neg (by omega)]
    simp only [Int.reduceToNat, List.append_assoc]
    rw [numF_back 20 e.length (e ++ t) h (by omega)]
    unfold cutF
    have hl : ¬ (e ++ t).length < e.length := by rw [List.length_append]; omega
    dsimp only
    rw [if_neg hl]
    simp
def encCl (c : Cl) : List UInt8 := Lib.uvarint c.1 ++ c.2
def encCs (cs : List Cl) : List UInt8 := Lib.uvarint cs.length ++ cs.flatMap encCl
def markV (v : Vol) : Nat := 2 * v.quota + (if v.frozen = true then 1 else 0)
def encVl (v : Vol) : List UInt8 := (Lib.uvarint (vkey v).length ++ vkey v) ++ (Lib.uvarint (markV v) ++ encCs v.cells)
def encV (L : List Vol) : List UInt8 := Lib.uvarint L.length ++ L.flatMap encVl

def lastC (acc : List Cl) : Int := match acc.getLast? with | some c => ((c.1 : Nat) : Int) | none => -1
def cellS (s : St) : Cl × St := (((numS 1048575 s).1, (digS (numS 1048575 s).2).1), (digS (numS 1048575 s).2).2)
def cellsS : Nat → List Cl × St → Option (List Cl × St)
  | 0, x => some x
  | m + 1, x => if (cellS x.2).2.2 = true ∨ (((cellS x.2).1.1 : Nat) : Int) ≤ lastC x.1 then none else cellsS m (x.1 ++ [(cellS x.2).1], (cellS x.2).2)
def takeG (q : Nat) (f : Bool) (r : Option (List Cl × St)) : Option ((Nat × Bool × List Cl) × St) :=
  match r with
  | none => none
  | some x => if x.2.2 = true then none else some ((q, f, x.1), x.2)
def takeV (s : St) : Option ((Nat × Bool × List Cl) × St) :=
  takeG ((numS 2097153 s).1 / 2) (decide ((numS 2097153 s).1 % 2 = 1)) (cellsS (numS ((numS 2097153 s).1 / 2) (numS 2097153 s).2).1 ([], (numS ((numS 2097153 s).1 / 2) (numS 2097153 s).2).2))
def lastV (acc : List Vol) : List UInt8 := match acc.getLast? with | some v => vkey v | none => []
def nmV (s : St) : List UInt8 × St := bytS 20 s
def volsS : Nat → List Vol × St → Option (List Vol × St)
  | 0, x => some x
  | n + 1, x => match takeV (nmV x.2).2 with
    | none => none
    | some (v, t) => if namedB (nmV x.2).1 = false ∨ bytesBefore (lastV x.1) (nmV x.2).1 = false then none else volsS n (x.1 ++ [⟨⟨(nmV x.2).1.toArray⟩, v.1, v.2.1, v.2.2⟩], t)
def finV (r : Option (List Vol × St)) : Option (List Vol) := match r with
  | none => none
  | some (L, t) => if t.2 = true ∨ 0 < t.1.length then none else some L
def decV (most : Nat) (b : List UInt8) : Option (List Vol) := finV (volsS (numS most (b, false)).1 ([], (numS most (b, false)).2))

theorem lastC_nil : lastC [] = -1 := rfl
theorem lastC_snoc (acc : List Cl) (c : Cl) : lastC (acc ++ [c]) = ((c.1 : Nat) : Int) := by unfold lastC; rw [List.getLast?_concat]
theorem lastV_snoc (acc : List Vol) (v : Vol) : lastV (acc ++ [v]) = vkey v := by unfold lastV; rw [List.getLast?_concat]
theorem cellS_sound {s : St} (h : (cellS s).2.2 = false) : s.2 = false ∧ s.1 = encCl (cellS s).1 ++ (cellS s).2.1 ∧ (cellS s).1.1 < 1048576 ∧ (cellS s).1.2.length = 32 := by
  unfold cellS at h ⊢
  dsimp only at h ⊢
  obtain ⟨h1, h2, h3⟩ := takes_dig.sound _ h
  obtain ⟨h4, h5, h6, _⟩ := (takes_num 1048575 (by omega)).sound _ h1
  refine ⟨h4, ?_, by omega, h3⟩
  unfold encCl
  dsimp only
  rw [List.append_assoc, h5]
  congr 1
theorem rise_snoc {acc : List Cl} {c : Cl} (h : Rise acc) (hl : lastC acc < ((c.1 : Nat) : Int)) : Rise (acc ++ [c]) := by
  unfold Rise at *
  rw [List.pairwise_append]
  refine ⟨h, List.pairwise_singleton _ _, fun a ha b hb => ?_⟩
  rw [List.mem_singleton] at hb
  subst hb
  rcases List.eq_nil_or_concat acc with rfl | ⟨l, x, rfl⟩
  · cases ha
  · rw [List.concat_eq_append] at h ha hl
    rw [lastC_snoc] at hl
    rw [List.pairwise_append] at h
    rcases List.mem_append.1 ha with ha | ha
    · have := h.2.2 a ha x (by simp); omega
    · rw [List.mem_singleton] at ha; subst ha; omega
theorem cellsS_sound : ∀ (m : Nat) (acc : List Cl) (s : St) (cs : List Cl) (t : St), cellsS m (acc, s) = some (cs, t) → t.2 = false →
    s.2 = false ∧ ∃ new, cs = acc ++ new ∧ new.length = m ∧ s.1 = new.flatMap encCl ++ t.1 ∧ (∀ c ∈ new, c.1 < 1048576 ∧ c.2.length = 32) ∧ (Rise acc → Rise cs)
  | 0, acc, s, cs, t, h, ht => by
    unfold cellsS at h
    injection h with h
    injection h with h1 h2
    subst h1 h2
    exact ⟨ht, [], by simp, rfl, by simp, by simp, id⟩
  | m + 1, acc, s, cs, t, h, ht => by
    unfold cellsS at h
    dsimp only at h
    by_cases hc : (cellS s).2.2 = true ∨ (((cellS s).1.1 : Nat) : Int) ≤ lastC acc
    · rw [if_pos hc] at h; cases h
    · rw [if_neg hc] at h
      have hf : (cellS s).2.2 = false := by cases hh : (cellS s).2.2 with | false => rfl | true => exact absurd (.inl hh) hc
      have hl : lastC acc < (((cellS s).1.1 : Nat) : Int) := by
        have : ¬ (((cellS s).1.1 : Nat) : Int) ≤ lastC acc := fun e => hc (.inr e)
        omega
      obtain ⟨h1, h2, h3, h4⟩ := cellS_sound hf
      obtain ⟨h5, new, h6, h7, h8, h9, h10⟩ := cellsS_sound m _ _ _ _ h ht
      refine ⟨h1, (cellS s).1 :: new, ?_, by rw [List.length_cons, h7], ?_, ?_, fun hr => h10 (rise_snoc hr hl)⟩
      · rw [h6, List.append_assoc]; rfl
      · rw [List.flatMap_cons, List.append_assoc, ← h8]; exact h2
      · intro c hc
        rcases List.mem_cons.1 hc with rfl | hc
        · exact ⟨h3, h4⟩
        · exact h9 c hc
theorem takeV_sound {s : St} {q : Nat} {f : Bool} {cs : List Cl} {t : St} (h : takeV s = some ((q, f, cs), t)) :
    s.2 = false ∧ t.2 = false ∧ s.1 = (Lib.uvarint (2 * q + (if f = true then 1 else 0)) ++ encCs cs) ++ t.1 ∧ q ≤ 1048576 ∧ cs.length ≤ q ∧ Rise cs ∧ ∀ c ∈ cs, c.1 < 1048576 ∧ c.2.length = 32 := by
  unfold takeV takeG at h
  obtain ⟨s1, hs1⟩ : ∃ z, z = numS 2097153 s := ⟨_, rfl⟩
  obtain ⟨s2, hs2⟩ : ∃ z, z = numS (s1.1 / 2) s1.2 := ⟨_, rfl⟩
  rw [← hs1, ← hs2] at h
  cases hc : cellsS s2.1 ([], s2.2) with
  | none => rw [hc] at h; cases h
  | some r =>
    obtain ⟨cs', t'⟩ := r
    rw [hc] at h
    dsimp only at h
    by_cases ht : t'.2 = true
    · rw [if_pos ht] at h; cases h
    · rw [if_neg ht] at h
      injection h with h
      injection h with h1 h2
      injection h1 with h3 h4
      injection h4 with h4 h5
      subst h2 h5
      have ht' : t'.2 = false := by simpa using ht
      obtain ⟨g1, new, g2, g3, g4, g5, g6⟩ := cellsS_sound _ _ _ _ _ hc ht'
      rw [List.nil_append] at g2
      subst g2
      have hq : s1.1 ≤ 2097153 := by rw [hs1]; exact numS_le _ _
      obtain ⟨k1, k2, k3, _⟩ := (takes_num (s1.1 / 2) (by omega)).sound s1.2 (by rw [← hs2]; exact g1)
      obtain ⟨k4, k5, k6, _⟩ := (takes_num 2097153 (by omega)).sound s (by rw [← hs1]; exact k1)
      rw [← hs2] at k2 k3
      rw [← hs1] at k5 k6
      refine ⟨k4, ht', ?_, by omega, by omega, g6 List.Pairwise.nil, g5⟩
      have hm : 2 * q + (if f = true then 1 else 0) = s1.1 := by
        rw [← h3, ← h4]
        by_cases e : s1.1 % 2 = 1
        · simp [e]; omega
        · simp [e]; omega
      unfold encCs
      rw [hm, k5, k2, g4, g3]
      simp only [List.append_assoc]
theorem bytesBefore_trans {a b c : List UInt8} (h : bytesBefore a b = true) (k : bytesBefore b c = true) : bytesBefore a c = true := by
  rw [bytesBefore_lt] at *
  exact List.lt_trans h k
theorem riseV_snoc {acc : List Vol} {v : Vol} (h : RiseV acc) (hl : bytesBefore (lastV acc) (vkey v) = true) : RiseV (acc ++ [v]) := by
  unfold RiseV at *
  rw [List.pairwise_append]
  refine ⟨h, List.pairwise_singleton _ _, fun a ha b hb => ?_⟩
  rw [List.mem_singleton] at hb
  subst hb
  rcases List.eq_nil_or_concat acc with rfl | ⟨l, x, rfl⟩
  · cases ha
  · rw [List.concat_eq_append] at h ha hl
    rw [lastV_snoc] at hl
    rw [List.pairwise_append] at h
    rcases List.mem_append.1 ha with ha | ha
    · exact bytesBefore_trans (h.2.2 a ha x (by simp)) hl
    · rw [List.mem_singleton] at ha; subst ha; exact hl
theorem volsS_sound : ∀ (n : Nat) (acc : List Vol) (s : St) (L : List Vol) (t : St), volsS n (acc, s) = some (L, t) → t.2 = false →
    s.2 = false ∧ ∃ new, L = acc ++ new ∧ new.length = n ∧ s.1 = new.flatMap encVl ++ t.1 ∧ (∀ v ∈ new, VolOk v) ∧ (RiseV acc → RiseV L)
  | 0, acc, s, L, t, h, ht => by
    unfold volsS at h
    injection h with h
    injection h with h1 h2
    subst h1 h2
    exact ⟨ht, [], by simp, rfl, by simp, by simp, id⟩
  | n + 1, acc, s, L, t, h, ht => by
    unfold volsS at h
    dsimp only at h
    cases hv : takeV (nmV s).2 with
    | none => rw [hv] at h; cases h
    | some r =>
      obtain ⟨⟨q, f, cs⟩, t1⟩ := r
      rw [hv] at h
      dsimp only at h
      by_cases hc : namedB (nmV s).1 = false ∨ bytesBefore (lastV acc) (nmV s).1 = false
      · rw [if_pos hc] at h; cases h
      · rw [if_neg hc] at h
        have hn : namedB (nmV s).1 = true := by cases hh : namedB (nmV s).1 with | true => rfl | false => exact absurd (.inl hh) hc
        have hb : bytesBefore (lastV acc) (nmV s).1 = true := by cases hh : bytesBefore (lastV acc) (nmV s).1 with | true => rfl | false => exact absurd (.inr hh) hc
        obtain ⟨k1, k2, k3, k4, k5, k6, k7⟩ := takeV_sound hv
        obtain ⟨g1, g2, g3⟩ := takes_nm.sound s k1
        obtain ⟨h5, new, h6, h7, h8, h9, h10⟩ := volsS_sound n _ _ _ _ h ht
        refine ⟨g1, _ :: new, by rw [h6, List.append_assoc]; rfl, by rw [List.length_cons, h7], ?_, ?_, fun hr => h10 (riseV_snoc hr (by show bytesBefore (lastV acc) (⟨(nmV s).1.toArray⟩ : ByteArray).data.toList = true; simpa using hb))⟩
        · rw [List.flatMap_cons, List.append_assoc, ← h8]
          unfold encVl markV vkey
          dsimp only
          unfold nmV at k3 ⊢
          rw [g2, k3]
          simp only [List.append_assoc]
        · intro v hv2
          rcases List.mem_cons.1 hv2 with rfl | hv2
          · exact ⟨k4, k5, k6, k7, by simpa using hn⟩
          · exact h9 v hv2
theorem encVl_pos (v : Vol) : 1 ≤ (encVl v).length := by
  unfold encVl
  have := Lib.uvarint_pos (vkey v).length
  simp only [List.length_append]
  omega
theorem flat_pos : ∀ L : List Vol, L.length ≤ (L.flatMap encVl).length
  | [] => by simp
  | v :: L => by
    have := flat_pos L
    have := encVl_pos v
    rw [List.flatMap_cons, List.length_append, List.length_cons]
    omega
theorem volsS_len {n : Nat} {acc : List Vol} {s : St} {L : List Vol} {t : St} (h : volsS n (acc, s) = some (L, t)) (ht : t.2 = false) : n ≤ s.1.length := by
  obtain ⟨_, new, _, h2, h3, _⟩ := volsS_sound _ _ _ _ _ h ht
  have := flat_pos new
  rw [h3, List.length_append]
  omega
theorem finV_some {r : Option (List Vol × St)} {L : List Vol} (h : finV r = some L) : ∃ t : St, r = some (L, t) ∧ t.2 = false ∧ t.1 = [] := by
  unfold finV at h
  cases r with
  | none => cases h
  | some x =>
    obtain ⟨L', t⟩ := x
    dsimp only at h
    by_cases hc : t.2 = true ∨ 0 < t.1.length
    · rw [if_pos hc] at h; cases h
    · rw [if_neg hc] at h
      injection h with h
      subst h
      simp only [not_or] at hc
      exact ⟨t, rfl, by simpa using hc.1, List.length_eq_zero_iff.1 (by omega)⟩
theorem decV_sound {most : Nat} (hm : most < 18446744073709551616) {b : List UInt8} {L : List Vol} (h : decV most b = some L) : encV L = b ∧ (∀ v ∈ L, VolOk v) ∧ RiseV L ∧ L.length ≤ b.length ∧ L.length ≤ most := by
  unfold decV at h
  obtain ⟨t, h1, h2, h3⟩ := finV_some h
  obtain ⟨g1, new, g2, g3, g4, g5, g6⟩ := volsS_sound _ _ _ _ _ h1 h2
  rw [List.nil_append] at g2
  subst g2
  obtain ⟨k1, k2, k3, _⟩ := (takes_num most hm).sound _ g1
  dsimp only at k2
  have hl := flat_pos L
  refine ⟨?_, g5, g6 List.Pairwise.nil, ?_, by rw [g3]; exact k3⟩
  · unfold encV
    rw [k2, g4, h3, g3, List.append_nil]
  · rw [k2, g4, List.length_append, List.length_append]
    omega
theorem decV_same {b : List UInt8} (hb : b.length ≤ 1073741824) : decV 1073741824 b = decV b.length b := by
  unfold decV numS numF
  dsimp only
  by_cases h0 : (lead b).2 = 0
  · rw [if_pos (.inl h0), if_pos (.inl h0)]
  · by_cases h1 : b.length < (lead b).1
    · rw [if_pos (show (lead b).2 = 0 ∨ b.length < (lead b).1 from .inr h1)]
      have hR : finV (volsS 0 ([], ([], false || true))) = none := rfl
      rw [hR]
      by_cases h2 : 1073741824 < (lead b).1
      · rw [if_pos (.inr h2)]; rfl
      · rw [if_neg (by omega)]
        cases hf : finV (volsS (lead b).1 ([], (b.drop (lead b).2, false || false))) with
        | none => rfl
        | some L =>
          obtain ⟨t, e1, e2, e3⟩ := finV_some hf
          have := volsS_len e1 e2
          dsimp only at this
          rw [List.length_drop] at this
          omega
    · rw [if_neg (by omega), if_neg (by omega)]

end Go.Proofs.Ytcajhndhjlfmaaa

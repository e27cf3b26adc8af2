/-
  The index as bytes, and of bytes.
-/
import Derived.Test.YtfelacpaaialfaaDoorTakesMath
import Derived.Test.YtfelacpaaialfaaDoorInWrong
import Derived.Test.YtfelacpaaialfaaDoorDigF
namespace Go.Proofs.YtfelacpaaialfaaDoor
open Go.RowKit
set_option linter.unusedVariables false
set_option linter.unusedSimpArgs false

theorem numF_le' (most : Nat) (l : List UInt8) : (numF most l).1 ≤ most := by
  unfold numF
  split
  · exact Nat.zero_le _
  · rename_i h; exact Nat.le_of_not_lt (fun e => h (.inr e))
theorem numF_back (most v : Nat) (r : List UInt8) (h : v ≤ most) (hv : v < 18446744073709551616) : numF most (Lib.uvarint v ++ r) = (v, r, false) := by
  unfold numF
  rw [lead_uv v r hv]
  have := Lib.uvarint_pos v
  rw [if_neg (by simp only; omega)]
  simp
abbrev St := List UInt8 × Bool

def numS (most : Nat) (s : St) : Nat × St := ((numF most s.1).1, ((numF most s.1).2.1, s.2 || (numF most s.1).2.2))

def digS (s : St) : List UInt8 × St := (digF s.1, ((cutF 32 s.1).2.1, s.2 || (cutF 32 s.1).2.2))

/-- How a part is taken: what it is, if all went right; what was put comes back. -/
structure Takes {α : Type} (take : St → α × St) (enc : α → List UInt8) (ok : α → Prop) : Prop where
  sound : ∀ s, (take s).2.2 = false → s.2 = false ∧ s.1 = enc (take s).1 ++ (take s).2.1 ∧ ok (take s).1
  back : ∀ x t, ok x → take (enc x ++ t, false) = (x, (t, false))

theorem or_no {a b : Bool} (h : (a || b) = false) : a = false ∧ b = false := Bool.or_eq_false_iff.1 h

theorem numF_sound {most : Nat} {l : List UInt8} (h : (numF most l).2.2 = false) : l = Lib.uvarint (numF most l).1 ++ (numF most l).2.1 ∧ (numF most l).1 ≤ most ∧ (numF most l).1 < 18446744073709551616 := by
  unfold numF at h ⊢
  by_cases hc : (lead l).2 = 0 ∨ most < (lead l).1
  · rw [if_pos hc] at h; cases h
  · rw [if_neg hc] at h ⊢
    obtain ⟨v, g, hL⟩ : ∃ v g, lead l = (v, g) := ⟨_, _, rfl⟩
    have hv := (lead_le l).2
    rw [hL] at hc hv ⊢
    simp only [not_or] at hc
    obtain ⟨u, r, h1, h2, h3, _⟩ := leadFrom_sound l 0 0 v g hL hc.1
    have hvu : v = u := by simpa using h3
    subst hvu
    have hg : g = (Lib.uvarint v).length := by omega
    refine ⟨?_, by simp only; omega, hv⟩
    simp only
    rw [h1, hg]
    simp

theorem takes_num (most : Nat) (hm : most < 18446744073709551616) : Takes (numS most) Lib.uvarint (fun v => v ≤ most ∧ v < 18446744073709551616) where
  sound := fun s h => by
    obtain ⟨h1, h2⟩ := or_no h
    obtain ⟨e1, e2, e3⟩ := numF_sound h2
    exact ⟨h1, e1, e2, e3⟩
  back := fun v t h => by
    unfold numS
    rw [numF_back most v t h.1 h.2]
    rfl

theorem takes_dig : Takes digS id (fun d => d.length = 32) where
  sound := fun s h => by
    obtain ⟨h1, h2⟩ := or_no h
    unfold digS
    unfold cutF at h2 ⊢
    unfold digF
    by_cases hl : s.1.length < 32
    · rw [if_pos hl] at h2; cases h2
    · rw [if_neg hl, if_neg hl]
      refine ⟨h1, ?_, by rw [List.length_take]; omega⟩
      simp
  back := fun d t h => by
    unfold digS digF cutF
    have hl : ¬ (d ++ t).length < 32 := by rw [List.length_append]; omega
    dsimp only [id]
    rw [if_neg hl, if_neg hl, ← h, List.take_left, List.drop_left]
    rfl
theorem numS_le (most : Nat) (s : St) : (numS most s).1 ≤ most := numF_le' most s.1

theorem digS_length (s : St) : (digS s).1.length = 32 := digF_length s.1

/-- An item: its fingerprint, its bin and one, its slot, its uses. -/
structure Ix where
  d : List UInt8
  b : Nat
  s : Nat
  u : Nat
deriving DecidableEq
/-- What an index may have. -/
def mayI (x : Ix) : Prop := 0 < x.u ∧ (0 < x.b ∨ x.s = 0)
instance (x : Ix) : Decidable (mayI x) := by unfold mayI; infer_instance
def encIx (x : Ix) : List UInt8 := x.d ++ (Lib.uvarint x.b ++ (Lib.uvarint x.s ++ Lib.uvarint x.u))
def encI (L : List Ix) : List UInt8 := Lib.uvarint L.length ++ L.flatMap encIx
/-- The numbers are small enough. -/
def FitI (x : Ix) : Prop := x.d.length = 32 ∧ x.b ≤ 2147483648 ∧ x.s ≤ 65535 ∧ x.u ≤ 2147483647
/-- Lexicographic order of bytes. -/
def ltD : List UInt8 → List UInt8 → Bool
  | [], [] => false
  | [], _ :: _ => true
  | _ :: _, [] => false
  | a :: x, b :: y => if a.toNat < b.toNat then true else if b.toNat < a.toNat then false else ltD x y
/-- Does a fingerprint stand behind all that were taken? -/
def risesI (acc : List Ix) (d : List UInt8) : Bool := match acc.getLast? with | none => true | some x => ltD x.d d
def takeI (s : St) : (Nat × Nat × Nat) × St :=
  (((numS 2147483648 s).1, (numS 65535 (numS 2147483648 s).2).1, (numS 2147483647 (numS 65535 (numS 2147483648 s).2).2).1), (numS 2147483647 (numS 65535 (numS 2147483648 s).2).2).2)
def itemS (s : St) : Ix × St :=
  (⟨(digS s).1, (takeI (digS s).2).1.1, (takeI (digS s).2).1.2.1, (takeI (digS s).2).1.2.2⟩, (takeI (digS s).2).2)
def itemsS : Nat → List Ix × St → Option (List Ix × St)
  | 0, r => some r
  | n + 1, (acc, s) => if (itemS s).2.2 = true ∨ risesI acc (itemS s).1.d = false ∨ ¬ mayI (itemS s).1 then none else itemsS n (acc ++ [(itemS s).1], (itemS s).2)
def finI (r : Option (List Ix × St)) : Option (List Ix) := match r with | none => none | some (L, s) => if s.2 = true ∨ s.1 ≠ [] then none else some L
/-- The index of bytes. -/
def decI (b : List UInt8) : Option (List Ix) := finI (itemsS (numS b.length (b, false)).1 ([], (numS b.length (b, false)).2))

theorem itemS_eq {s s1 s2 s3 s4 : St} {d : List UInt8} {b sl u : Nat} (e1 : digS s = (d, s1)) (e2 : numS 2147483648 s1 = (b, s2)) (e3 : numS 65535 s2 = (sl, s3)) (e4 : numS 2147483647 s3 = (u, s4)) : itemS s = (⟨d, b, sl, u⟩, s4) := by
  unfold itemS takeI
  simp only [e1, e2, e3, e4]
theorem takes_item : Takes itemS encIx FitI where
  sound := fun s h => by
    obtain ⟨d, s1, e1⟩ : ∃ d s1, digS s = (d, s1) := ⟨_, _, rfl⟩
    obtain ⟨b, s2, e2⟩ : ∃ b z, numS 2147483648 s1 = (b, z) := ⟨_, _, rfl⟩
    obtain ⟨sl, s3, e3⟩ : ∃ b z, numS 65535 s2 = (b, z) := ⟨_, _, rfl⟩
    obtain ⟨u, s4, e4⟩ : ∃ b z, numS 2147483647 s3 = (b, z) := ⟨_, _, rfl⟩
    have hi := itemS_eq e1 e2 e3 e4
    rw [hi] at h ⊢
    have a := (takes_num 2147483647 (by omega)).sound s3 (by rw [e4]; exact h)
    rw [e4] at a
    obtain ⟨a1, a2, a3⟩ := a
    have a := (takes_num 65535 (by omega)).sound s2 (by rw [e3]; exact a1)
    rw [e3] at a
    obtain ⟨b1, b2, b3⟩ := a
    have a := (takes_num 2147483648 (by omega)).sound s1 (by rw [e2]; exact b1)
    rw [e2] at a
    obtain ⟨c1, c2, c3⟩ := a
    have a := takes_dig.sound s (by rw [e1]; exact c1)
    rw [e1] at a
    obtain ⟨d1, d2, d3⟩ := a
    refine ⟨d1, ?_, d3, c3.1, b3.1, a3.1⟩
    dsimp only [id] at d2 c2 b2 a2 ⊢
    rw [d2, c2, b2, a2]
    simp only [encIx, List.append_assoc]
  back := fun x t h => by
    obtain ⟨h1, h2, h3, h4⟩ := h
    have e1 := takes_dig.back x.d (Lib.uvarint x.b ++ (Lib.uvarint x.s ++ (Lib.uvarint x.u ++ t))) h1
    have e2 := (takes_num 2147483648 (by omega)).back x.b (Lib.uvarint x.s ++ (Lib.uvarint x.u ++ t)) ⟨h2, by omega⟩
    have e3 := (takes_num 65535 (by omega)).back x.s (Lib.uvarint x.u ++ t) ⟨h3, by omega⟩
    have e4 := (takes_num 2147483647 (by omega)).back x.u t ⟨h4, by omega⟩
    dsimp only [id] at e1
    have he : encIx x ++ t = x.d ++ (Lib.uvarint x.b ++ (Lib.uvarint x.s ++ (Lib.uvarint x.u ++ t))) := by simp only [encIx, List.append_assoc]
    rw [he]
    exact itemS_eq e1 e2 e3 e4
/-- What the index may hold: all fit, may, and rise. -/
def OkI (L : List Ix) : Prop := (∀ x ∈ L, FitI x ∧ mayI x) ∧ L.Pairwise (fun a b => ltD a.d b.d = true)
theorem ltD_trans : ∀ {a b c : List UInt8}, ltD a b = true → ltD b c = true → ltD a c = true
  | [], [], _, h, _ => by simp [ltD] at h
  | [], _ :: _, [], _, h => by simp [ltD] at h
  | [], _ :: _, _ :: _, _, _ => rfl
  | _ :: _, [], _, h, _ => by simp [ltD] at h
  | _ :: _, _ :: _, [], _, h => by simp [ltD] at h
  | a :: x, b :: y, c :: z, h1, h2 => by
    unfold ltD at h1 h2 ⊢
    by_cases k1 : a.toNat < b.toNat
    · by_cases k2 : b.toNat < c.toNat
      · rw [if_pos (by omega)]
      · rw [if_neg k2] at h2
        by_cases k3 : c.toNat < b.toNat
        · rw [if_pos k3] at h2; cases h2
        · rw [if_pos (by omega)]
    · rw [if_neg k1] at h1
      by_cases k4 : b.toNat < a.toNat
      · rw [if_pos k4] at h1; cases h1
      · rw [if_neg k4] at h1
        by_cases k2 : b.toNat < c.toNat
        · rw [if_pos (by omega)]
        · rw [if_neg k2] at h2
          by_cases k3 : c.toNat < b.toNat
          · rw [if_pos k3] at h2; cases h2
          · rw [if_neg k3] at h2
            rw [if_neg (by omega), if_neg (by omega)]
            exact ltD_trans h1 h2
theorem ltD_irrefl : ∀ a : List UInt8, ltD a a = false
  | [] => rfl
  | a :: x => by
    unfold ltD
    rw [if_neg (Nat.lt_irrefl _), if_neg (Nat.lt_irrefl _)]
    exact ltD_irrefl x
theorem ltD_asymm {a b : List UInt8} (h : ltD a b = true) : ltD b a = false := by
  cases h2 : ltD b a with
  | false => rfl
  | true => have := ltD_trans h h2; rw [ltD_irrefl] at this; cases this
theorem ltD_total : ∀ {a b : List UInt8}, ltD a b = false → ltD b a = false → a = b
  | [], [], _, _ => rfl
  | [], _ :: _, h, _ => by simp [ltD] at h
  | _ :: _, [], _, h => by simp [ltD] at h
  | a :: x, b :: y, h1, h2 => by
    unfold ltD at h1 h2
    by_cases k1 : a.toNat < b.toNat
    · rw [if_pos k1] at h1; cases h1
    · by_cases k2 : b.toNat < a.toNat
      · rw [if_pos k2] at h2; cases h2
      · rw [if_neg k1, if_neg k2] at h1
        rw [if_neg k2, if_neg k1] at h2
        have e : a = b := UInt8.toNat_inj.1 (by omega)
        rw [e, ltD_total h1 h2]
theorem rises_all {acc : List Ix} {d : List UInt8} (hp : acc.Pairwise (fun a b => ltD a.d b.d = true)) (h : risesI acc d = true) : ∀ x ∈ acc, ltD x.d d = true := by
  intro x hx
  unfold risesI at h
  rcases List.eq_nil_or_concat acc with rfl | ⟨l, y, rfl⟩
  · cases hx
  · rw [List.concat_eq_append] at hp hx h
    rw [List.getLast?_append] at h
    simp only [List.getLast?_singleton, Option.some_or] at h
    rw [List.pairwise_append] at hp
    rw [List.mem_append] at hx
    rcases hx with hx | hx
    · exact ltD_trans (hp.2.2 x hx y (by simp)) h
    · rw [List.mem_singleton] at hx; rw [hx]; exact h
theorem okI_snoc {acc : List Ix} {x : Ix} (h : OkI acc) (hf : FitI x) (hm : mayI x) (hr : risesI acc x.d = true) : OkI (acc ++ [x]) := by
  refine ⟨fun y hy => ?_, ?_⟩
  · rw [List.mem_append, List.mem_singleton] at hy
    rcases hy with hy | rfl
    · exact h.1 y hy
    · exact ⟨hf, hm⟩
  · rw [List.pairwise_append]
    exact ⟨h.2, List.pairwise_singleton _ _, fun a ha b hb => by rw [List.mem_singleton] at hb; rw [hb]; exact rises_all h.2 hr a ha⟩
theorem itemsS_sound : ∀ (n : Nat) (acc L : List Ix) (s t : St), itemsS n (acc, s) = some (L, t) → t.2 = false → OkI acc → (n = 0 → s.2 = false) →
    s.2 = false ∧ ∃ M, L = acc ++ M ∧ M.length = n ∧ s.1 = M.flatMap encIx ++ t.1 ∧ OkI L
  | 0, acc, L, s, t, h, ht, ho, h0 => by
    unfold itemsS at h
    injection h with h
    injection h with h1 h2
    subst h1 h2
    exact ⟨ht, [], by simp, rfl, by simp, ho⟩
  | n + 1, acc, L, s, t, h, ht, ho, h0 => by
    unfold itemsS at h
    by_cases hc : (itemS s).2.2 = true ∨ risesI acc (itemS s).1.d = false ∨ ¬ mayI (itemS s).1
    · rw [if_pos hc] at h; cases h
    · rw [if_neg hc] at h
      simp only [not_or, Bool.not_eq_true, Bool.not_eq_false, Decidable.not_not] at hc
      obtain ⟨e1, e2, e3⟩ := takes_item.sound s hc.1
      obtain ⟨f1, M, f2, f3, f4, f5⟩ := itemsS_sound n _ L _ t h ht (okI_snoc ho e3 hc.2.2 hc.2.1) (fun _ => hc.1)
      refine ⟨e1, (itemS s).1 :: M, by rw [f2]; simp, by simp [f3], ?_, f5⟩
      rw [e2, f4]
      simp
/-- What is decoded was encoded so. -/
theorem decI_sound {b : List UInt8} {L : List Ix} (hb : b.length < 18446744073709551616) (h : decI b = some L) : b = encI L ∧ OkI L ∧ L.length ≤ b.length := by
  unfold decI finI at h
  cases hr : itemsS (numS b.length (b, false)).1 ([], (numS b.length (b, false)).2) with
  | none => rw [hr] at h; cases h
  | some r =>
    obtain ⟨L', t⟩ := r
    rw [hr] at h
    dsimp only at h
    by_cases hc : t.2 = true ∨ t.1 ≠ []
    · rw [if_pos hc] at h; cases h
    · rw [if_neg hc] at h
      injection h with h
      subst h
      simp only [not_or, Bool.not_eq_true, Decidable.not_not] at hc
      have hs2 : (numS b.length (b, false)).2.2 = false := by
        cases hn : (numS b.length (b, false)).1 with
        | zero =>
          rw [hn] at hr
          unfold itemsS at hr
          injection hr with hr
          injection hr with _ hr
          rw [hr]; exact hc.1
        | succ n =>
          rw [hn] at hr
          exact (itemsS_sound (n + 1) [] L' _ t hr hc.1 ⟨fun x hx => (by cases hx), .nil⟩ (fun h => by cases h)).1
      obtain ⟨_, M, f2, f3, f4, f5⟩ := itemsS_sound _ [] L' _ t hr hc.1 ⟨fun x hx => (by cases hx), .nil⟩ (fun _ => hs2)
      obtain ⟨g1, g2, g3⟩ := (takes_num b.length hb).sound _ hs2
      simp only [List.nil_append] at f2
      subst f2
      refine ⟨?_, f5, by rw [f3]; exact g3.1⟩
      have g2' : b = Lib.uvarint (numS b.length (b, false)).1 ++ (numS b.length (b, false)).2.1 := g2
      rw [f4, hc.2, List.append_nil] at g2'
      unfold encI
      rw [f3]
      exact g2'

end Go.Proofs.YtfelacpaaialfaaDoor

/-
  The set's small functions: mayName, mayQuota, has, toAsk, toChange.
-/
import Derived.Test.YtcajhndhjlfmaaaGreatVolSet
import Derived.Deep.DeepCutAuto
import Derived.Deep.CutBlock
namespace Go.Proofs.YtcajhndhjlfmaaaGreat
open Go.RowKit
set_option linter.unusedVariables false
set_option linter.unusedSimpArgs false

def quotaB (n : Int) : Bool := decide (0 ≤ n) && decide (n ≤ 1048576)
theorem quotaB_yes {n : Int} (h : quotaB n = true) : 0 ≤ n ∧ n ≤ 1048576 := by simpa [quotaB] using h
theorem quotaB_no {n : Int} (h : quotaB n = false) : n < 0 ∨ 1048576 < n := by
  unfold quotaB at h
  simp only [Bool.and_eq_false_iff, decide_eq_false_iff_not] at h
  omega

theorem mayQuota_any (n : Int) (w : World) (b : Bool) (hb : quotaB n = b) : Calls Tryz.prog 45 #[.int .i64 n] w fun e w' => e = .returned (.bool b) ∧ w = w' := by
  have Hb := Lib.hid hb
  by_cases h0 : 0 ≤ n
  · have hd : decide (n ≥ 0) = true := by simpa using h0
    clear hb
    go_enter Tryz.func45, Tryz.ntmps45
    go_wp2
    go_ret
    refine ⟨?_, rfl⟩
    rw [← Hb.out]
    unfold quotaB
    simp [h0]
  · have hd : decide (n ≥ 0) = false := by simpa using h0
    clear hb
    go_enter Tryz.func45, Tryz.ntmps45
    go_wp2
    go_ret
    refine ⟨?_, rfl⟩
    rw [← Hb.out]
    unfold quotaB
    rw [decide_eq_false (by omega)]
    rfl

theorem has_any (s : Nat) (nm : ByteArray) (hsz : nm.size ≤ maxLen) (w : World) (F : Nat → Prop) (M : List Vm) (h : SetW w F s M) (b : Bool) (hb : hasM M nm = b) :
    Calls Tryz.prog 46 #[.pointer (some ⟨s, 0, none⟩), .string nm] w fun e w' => e = .returned (.bool b) ∧ w = w' := by
  obtain ⟨mb, h⟩ := h
  have hc := h.hs.cell 0
  simp only [List.getElem?_cons_zero] at hc
  cases hf : findM M nm with
  | none =>
    have hl := h.look_no hsz hf
    have Hb : Hid (b = false) := by rw [← hb, hasM_find, hf]; rfl
    clear hb hf h
    go_enter Tryz.func46, Tryz.ntmps46
    go_wp2
    go_ret
    exact ⟨by rw [Hb.out]; rfl, rfl⟩
  | some m =>
    have hl := h.look_yes hsz hf
    have Hb : Hid (b = true) := by rw [← hb, hasM_find, hf]; rfl
    clear hb hf h
    go_enter Tryz.func46, Tryz.ntmps46
    go_wp2
    go_ret
    exact ⟨by rw [Hb.out]; rfl, rfl⟩

theorem namedB_eq (s : ByteArray) (h1 : 1 ≤ s.size) (h2 : s.size ≤ 20) (h : ∀ j (hj : j < s.size), 33 ≤ s[j].toNat ∧ s[j].toNat ≤ 126) : namedB s.data.toList = true := by
  unfold namedB
  simp only [Bool.and_eq_true, decide_eq_true_eq, Array.length_toList, List.all_eq_true]
  refine ⟨⟨h1, h2⟩, fun x hx => ?_⟩
  obtain ⟨j, hj, rfl⟩ := List.getElem_of_mem hx
  exact h j (by simpa using hj)
theorem namedB_bad (s : ByteArray) (j : Nat) (hj : j < s.size) (h : s[j].toNat < 33 ∨ 126 < s[j].toNat) : namedB s.data.toList = false := by
  cases hn : namedB s.data.toList with
  | false => rfl
  | true =>
    exfalso
    unfold namedB at hn
    simp only [Bool.and_eq_true, decide_eq_true_eq, List.all_eq_true] at hn
    have := hn.2 s[j] (by simp; exact Array.getElem_mem _)
    omega
theorem namedB_short (s : ByteArray) (h : s.size < 1 ∨ 20 < s.size) : namedB s.data.toList = false := by
  cases hn : namedB s.data.toList with
  | false => rfl
  | true =>
    exfalso
    unfold namedB at hn
    simp only [Bool.and_eq_true, decide_eq_true_eq, Array.length_toList] at hn
    have e : s.data.size = s.size := rfl
    omega

set_option maxHeartbeats 1000000 in
theorem mayName_any (s : ByteArray) (hs : s.size ≤ maxLen) (w : World) (b : Bool) (hb : namedB s.data.toList = b) : Calls Tryz.prog 43 #[.string s] w fun e w' => e = .returned (.bool b) ∧ w = w' := by
  unfold maxLen at hs
  have Hb := Lib.hid hb
  clear hb
  by_cases h1 : s.size < 1
  · have hd : decide ((s.size : Int) < 1) = true := by simp; omega
    have Hbad := Lib.hid (namedB_short s (.inl h1))
    go_enter Tryz.func43, Tryz.ntmps43
    go_wp2
    go_ret
    exact ⟨by rw [← Hb.out, Hbad.out]; rfl, rfl⟩
  · have hd : decide ((s.size : Int) < 1) = false := by simp; omega
    by_cases h2 : 20 < s.size
    · have hd2 : decide ((s.size : Int) > 20) = true := by simp; omega
      have Hbad := Lib.hid (namedB_short s (.inr h2))
      go_enter Tryz.func43, Tryz.ntmps43
      go_wp2
      go_ret
      exact ⟨by rw [← Hb.out, Hbad.out]; rfl, rfl⟩
    · have hd2 : decide ((s.size : Int) > 20) = false := by simp; omega
      have Hn1 := Lib.hid h1
      have Hn2 := Lib.hid h2
      go_enter Tryz.func43, Tryz.ntmps43
      go_wp2
      go_loop [14] (fun i => ∃ k : Nat, k ≤ s.size ∧ i = .int .i64 k ∧ Hid (∀ (j : Nat) (hj : j < s.size), j < k → 33 ≤ s[j].toNat ∧ s[j].toNat ≤ 126)) (fun i => s.size - (Go.RowKit.intOf i).toNat)
      case atStart => exact ⟨0, Nat.zero_le _, rfl, fun j hj h => by omega⟩
      case round =>
        obtain ⟨k, hk, rfl, Hk⟩ := hrel
        by_cases hlt : k < s.size
        · by_cases hlo : s[k].toNat < 33
          · have hdl : decide ((s[k].toNat : Int) < 33) = true := by simp; omega
            have Hbad := Lib.hid (namedB_bad s k hlt (.inl hlo))
            go_wp2
            go_ret
            exact ⟨by rw [← Hb.out, Hbad.out]; rfl, rfl⟩
          · have hdl : decide ((s[k].toNat : Int) < 33) = false := by simp; omega
            by_cases hhi : 126 < s[k].toNat
            · have hdh : decide ((s[k].toNat : Int) > 126) = true := by simp; omega
              have Hbad := Lib.hid (namedB_bad s k hlt (.inr hhi))
              go_wp2
              go_ret
              exact ⟨by rw [← Hb.out, Hbad.out]; rfl, rfl⟩
            · have hdh : decide ((s[k].toNat : Int) > 126) = false := by simp; omega
              have Hk2 : Hid (∀ (j : Nat) (hj : j < s.size), j < k + 1 → 33 ≤ s[j].toNat ∧ s[j].toNat ≤ 126) := fun j hj h => by
                by_cases e : j = k
                · subst e; omega
                · exact Hk.out j hj (by omega)
              go_wp2
              go_round
              case rel => exact ⟨k + 1, by omega, by go_num, Hk2⟩
              case measure => simp [Go.RowKit.intOf]; omega
        · have hd3 : decide (k < s.size) = false := by simpa using hlt
          have Hgood := Lib.hid (namedB_eq s (by omega) (by omega) fun j hj => Hk.out j hj (by omega))
          go_wp2
          go_ret
          exact ⟨by rw [← Hb.out, Hgood.out]; rfl, rfl⟩

/-! ### the volume that may be asked -/
def numB (n : Int) : Bool := decide (0 ≤ n) && decide (n < 1048576)
theorem numB_yes {n : Int} (h : numB n = true) : 0 ≤ n ∧ n < 1048576 := by simpa [numB] using h
theorem numB_no {n : Int} (h : numB n = false) : n < 0 ∨ 1048576 ≤ n := by
  unfold numB at h
  simp only [Bool.and_eq_false_iff, decide_eq_false_iff_not] at h
  omega
/-- The volume's pointer, the error's number. -/
def askF (M : List Vm) (nm : ByteArray) (n : Int) : Value × Int :=
  match findM M nm with
  | none => (.pointer none, 5)
  | some m => if numB n then (.pointer (some ⟨m.vb, 0, none⟩), 0) else (.pointer none, 2)
def changeF (M : List Vm) (nm : ByteArray) (n : Int) : Value × Int :=
  match findM M nm with
  | none => (.pointer none, 5)
  | some m => if numB n then (if m.v.frozen then (.pointer none, 10) else (.pointer (some ⟨m.vb, 0, none⟩), 0)) else (.pointer none, 2)

theorem toAsk_any (s : Nat) (nm : ByteArray) (hsz : nm.size ≤ maxLen) (n : Int) (w : World) (F : Nat → Prop) (M : List Vm) (h : SetW w F s M) (p : Value) (k : Int) (hp : askF M nm n = (p, k)) :
    Calls Tryz.prog 28 #[.pointer (some ⟨s, 0, none⟩), .string nm, .int .i64 n] w fun e w' => e = .returned (.tuple #[p, .int .i64 k]) ∧ w = w' := by
  have hq := h
  obtain ⟨mb, h⟩ := h
  have hc := h.hs.cell 0
  simp only [List.getElem?_cons_zero] at hc
  unfold askF at hp
  cases hf : findM M nm with
  | none =>
    rw [hf] at hp
    injection hp with h1 h2
    subst h1 h2
    have hb : hasM M nm = false := by rw [hasM_find, hf]; rfl
    clear h hf
    go_enter Tryz.func28, Tryz.ntmps28
    go_wp2_with fail
    refine Calls.mono (has_any s nm hsz w F M hq false hb) ?_
    rintro e w' ⟨rfl, rfl⟩
    clear hb hq
    go_wp2
    go_ret2
    exact ⟨rfl, rfl⟩
  | some m =>
    rw [hf] at hp
    have hb : hasM M nm = true := by rw [hasM_find, hf]; rfl
    have hl := h.look_yes hsz hf
    cases hn : numB n with
    | false =>
      rw [hn] at hp
      simp only [Bool.false_eq_true, if_false] at hp
      injection hp with h1 h2
      subst h1 h2
      have hno := numB_no hn
      clear h hf hn hl
      go_enter Tryz.func28, Tryz.ntmps28
      go_wp2_with fail
      refine Calls.mono (has_any s nm hsz w F M hq true hb) ?_
      rintro e w' ⟨rfl, rfl⟩
      clear hb hq
      by_cases h0 : n < 0
      · have hd : decide (n < 0) = true := by simpa using h0
        go_wp2
        go_ret2
        exact ⟨rfl, rfl⟩
      · have hd : decide (n < 0) = false := by simpa using h0
        have hd2 : decide (n ≥ 1048576) = true := by simp; omega
        go_wp2
        go_ret2
        exact ⟨rfl, rfl⟩
    | true =>
      rw [hn] at hp
      simp only [if_true] at hp
      injection hp with h1 h2
      subst h1 h2
      have hyes := numB_yes hn
      clear h hf hn
      have hd : decide (n < 0) = false := by simp; omega
      have hd2 : decide (n ≥ 1048576) = false := by simp; omega
      go_enter Tryz.func28, Tryz.ntmps28
      go_wp2_with fail
      refine Calls.mono (has_any s nm hsz w F M hq true hb) ?_
      rintro e w' ⟨rfl, rfl⟩
      clear hb hq
      go_wp2
      go_ret2
      exact ⟨rfl, rfl⟩

theorem toChange_any (s : Nat) (nm : ByteArray) (hsz : nm.size ≤ maxLen) (n : Int) (w : World) (F : Nat → Prop) (M : List Vm) (h : SetW w F s M) (p : Value) (k : Int) (hp : changeF M nm n = (p, k)) :
    Calls Tryz.prog 47 #[.pointer (some ⟨s, 0, none⟩), .string nm, .int .i64 n] w fun e w' => e = .returned (.tuple #[p, .int .i64 k]) ∧ w = w' := by
  have hq := h
  obtain ⟨mb, h⟩ := h
  unfold changeF at hp
  cases hf : findM M nm with
  | none =>
    rw [hf] at hp
    injection hp with h1 h2
    subst h1 h2
    have ha : askF M nm n = (.pointer none, 5) := by unfold askF; rw [hf]
    clear h hf
    go_enter Tryz.func47, Tryz.ntmps47
    go_wp2_with fail
    refine Calls.mono (toAsk_any s nm hsz n w F M hq _ _ ha) ?_
    rintro e w' ⟨rfl, rfl⟩
    clear ha hq
    go_wp2
    go_ret2
    exact ⟨rfl, rfl⟩
  | some m =>
    rw [hf] at hp
    cases hn : numB n with
    | false =>
      rw [hn] at hp
      simp only [Bool.false_eq_true, if_false] at hp
      injection hp with h1 h2
      subst h1 h2
      have ha : askF M nm n = (.pointer none, 2) := by unfold askF; rw [hf, hn]; rfl
      clear h hf hn
      go_enter Tryz.func47, Tryz.ntmps47
      go_wp2_with fail
      refine Calls.mono (toAsk_any s nm hsz n w F M hq _ _ ha) ?_
      rintro e w' ⟨rfl, rfl⟩
      clear ha hq
      go_wp2
      go_ret2
      exact ⟨rfl, rfl⟩
    | true =>
      rw [hn] at hp
      simp only [if_true] at hp
      have ha : askF M nm n = (.pointer (some ⟨m.vb, 0, none⟩), 0) := by unfold askF; rw [hf, hn]; rfl
      have hvm := h.vm m (findM_mem hf).1
      have hc := hvm.hv.cell 1
      simp only [List.getElem?_cons_succ, List.getElem?_cons_zero] at hc
      cases hz : m.v.frozen with
      | true =>
        rw [hz] at hp hc
        simp only [if_true] at hp
        injection hp with h1 h2
        subst h1 h2
        clear h hf hn hz hvm
        go_enter Tryz.func47, Tryz.ntmps47
        go_wp2_with fail
        refine Calls.mono (toAsk_any s nm hsz n w F M hq _ _ ha) ?_
        rintro e w' ⟨rfl, rfl⟩
        clear ha hq
        go_wp2
        go_ret2
        exact ⟨rfl, rfl⟩
      | false =>
        rw [hz] at hp hc
        simp only [Bool.false_eq_true, if_false] at hp
        injection hp with h1 h2
        subst h1 h2
        clear h hf hn hz hvm
        go_enter Tryz.func47, Tryz.ntmps47
        go_wp2_with fail
        refine Calls.mono (toAsk_any s nm hsz n w F M hq _ _ ha) ?_
        rintro e w' ⟨rfl, rfl⟩
        clear ha hq
        go_wp2
        go_ret2
        exact ⟨rfl, rfl⟩

end Go.Proofs.YtcajhndhjlfmaaaGreat

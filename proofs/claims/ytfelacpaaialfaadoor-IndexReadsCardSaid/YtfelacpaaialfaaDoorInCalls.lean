/-
  pack.In's methods, one by one.
-/
import Derived.Test.YtfelacpaaialfaaDoorIn
namespace Go.Proofs.YtfelacpaaialfaaDoor
open Go.RowKit
set_option linter.unusedVariables false
variable {lo : Nat}

set_option maxHeartbeats 2000000 in
set_option maxRecDepth 100000 in
theorem number_in (p most : Nat) (l : List UInt8) (wr : Bool) (w : World) (h : PInL lo w p l wr) (hm : most < 18446744073709551616) :
    Calls Tryd.prog 15 #[.pointer (some ⟨p, 0, none⟩), .int .u64 most] w (NumPost lo p most l wr w) := by
  have hpin := h
  have hp := h.lt
  obtain ⟨A, c, hg, h1, h2, h3, h4⟩ := h
  obtain ⟨c0, c1, f0, f1⟩ := PInL.cells hg
  obtain ⟨hle, hv64⟩ := lead_le l
  have hfin : ∀ q, numF most l = q → q = numF most l := fun q e => e.symm
  generalize hL : lead l = L at *
  obtain ⟨v, g⟩ := L
  simp only at hle hv64
  have HL := Lib.hid hL
  have hnF : numF most l = if g = 0 ∨ most < v then (0, [], true) else (v, l.drop g, false) := by unfold numF; rw [HL.out]
  have hl63 : l.length ≤ 9223372036854775807 := by unfold maxLen at h2; omega
  have Hg := Lib.hid hg
  clear hL hg hfin
  by_cases hbad : g = 0 ∨ most < v
  · rw [if_pos hbad] at hnF
    have HN := Lib.hid hnF
    clear hnF
    have hb1 : (((g : Int) == 0) = true) ∨ (((g : Int) == 0) = false ∧ most < v) := by
      rcases hbad with e | e
      · exact .inl (by rw [beq_iff_eq]; omega)
      · by_cases e0 : g = 0
        · exact .inl (by rw [beq_iff_eq]; omega)
        · exact .inr ⟨by rw [beq_eq_false_iff_ne]; omega, e⟩
    clear hbad
    go_enter Tryd.func15, Tryd.ntmps15
    go_wp2_with fail
    refine (lead_any p A c l w h3 (Nat.le_trans h1 h2)).mono ?_
    rintro e w' ⟨rfl, rfl⟩
    rw [HL.out]
    rcases hb1 with hb1 | ⟨hb1, hlt⟩
    all_goals
      go_wp2_with fail
      refine (fail_any p l wr _ hpin).mono ?_
      rintro e w1 ⟨rfl, hp1, ht1⟩
      go_wp2_with fail
      go_ret
      refine ⟨by rw [HN.out]; rfl, ?_, ht1⟩
      rw [HN.out]
      simpa using hp1
  · rw [if_neg hbad] at hnF
    have HN := Lib.hid hnF
    have hg0 : ((g : Int) == 0) = false := by rw [beq_eq_false_iff_ne]; omega
    have hg1 : 1 ≤ g := by omega
    have hmv : v ≤ most := by omega
    clear hnF hbad
    obtain ⟨b, off, rfl, _, _⟩ := h3 (by omega)
    have hdrop : ∃ b' o', (if c = g then (⟨b, off, none⟩ : Addr) else ⟨b, off + g, none⟩) = ⟨b', o', none⟩ := by split <;> exact ⟨_, _, rfl⟩
    by_cases hcg : c = g
    · have hend : Bs w p (some ⟨b, off, none⟩) (l.drop g) := by
        rw [List.drop_of_length_le (by omega)]
        exact Bs.nil _ _ _
      have hnew := PInL.rest (w := w) (p := p) (l := l) (l' := l.drop g) (wr := wr) (c' := c - g) Hg.out (by rw [List.length_drop]; omega) (by unfold maxLen at h2 ⊢; omega) hend (fun a e => by cases e; exact h4 _ rfl)
      rw [List.length_drop, show l.length - g = 0 from by omega, show c - g = 0 from by omega] at hnew
      have Hnew := Lib.hid hnew
      clear hnew
      subst hcg
      go_enter Tryd.func15, Tryd.ntmps15
      go_wp2_with fail
      refine (lead_any p _ c l w h3 (Nat.le_trans h1 h2)).mono ?_
      rintro e w' ⟨rfl, rfl⟩
      rw [HL.out]
      go_wp2_with fail
      go_ret
      refine ⟨by rw [HN.out]; rfl, ?_, Turn.set p 0 _ _⟩
      rw [HN.out]
      simpa using Hnew.out
    · have hnew := PInL.rest (w := w) (p := p) (l := l) (l' := l.drop g) (wr := wr) (A' := some ⟨b, off + g, none⟩) (c' := c - g) Hg.out (by rw [List.length_drop]; omega) (by unfold maxLen at h2 ⊢; omega)
        (by
          by_cases hgl : g < l.length
          · obtain ⟨b', o', e, hd⟩ := h3.drop hgl
            injection e with e
            injection e with e1 e2
            subst e1 e2
            exact hd
          · rw [List.drop_of_length_le (by omega)]
            exact Bs.nil _ _ _) (fun a e => by cases e; exact ⟨rfl, (h4 _ rfl).2⟩)
      rw [List.length_drop] at hnew
      have Hnew := Lib.hid hnew
      clear hnew
      go_enter Tryd.func15, Tryd.ntmps15
      go_wp2_with fail
      refine (lead_any p _ c l w h3 (Nat.le_trans h1 h2)).mono ?_
      rintro e w' ⟨rfl, rfl⟩
      rw [HL.out]
      go_wp2_with fail
      go_ret
      refine ⟨by rw [HN.out]; rfl, ?_, Turn.set p 0 _ _⟩
      rw [HN.out]
      simpa using Hnew.out

set_option maxHeartbeats 4000000 in
set_option maxRecDepth 100000 in
theorem cut_anyL (p n : Nat) (l : List UInt8) (wr : Bool) (w : World) (h : PInL lo w p l wr) (hn : n < 18446744073709551616) :
    Calls Tryd.prog 32 #[.pointer (some ⟨p, 0, none⟩), .int .u64 n] w (CutPostL lo p n l wr w) := by
  have hpin := h
  have hp := h.lt
  obtain ⟨A, c, hg, h1, h2, h3, h4⟩ := h
  obtain ⟨c0, c1, f0, f1⟩ := PInL.cells hg
  have hl63 : c ≤ 9223372036854775807 := by unfold maxLen at h2; omega
  have Hg := Lib.hid hg
  have hcF : cutF n l = if l.length < n then ([], [], true) else (l.take n, l.drop n, false) := rfl
  clear hg
  by_cases hbad : l.length < n
  · rw [if_pos hbad] at hcF
    have HC := Lib.hid hcF
    clear hcF
    go_enter Tryd.func32, Tryd.ntmps32
    go_wp2_with fail
    refine (fail_any p l wr _ hpin).mono ?_
    rintro e w1 ⟨rfl, hp1, ht1⟩
    go_wp2_with fail
    go_ret
    refine ⟨none, 0, by rw [HC.out]; rfl, by rw [HC.out]; simp, by unfold maxLen; omega, by rw [HC.out]; exact Bs.nil _ _ _, ?_, ht1, fun _ e => by cases e⟩
    rw [HC.out]
    simpa using hp1
  · rw [if_neg hbad] at hcF
    have HC := Lib.hid hcF
    have hnl : n ≤ l.length := by omega
    clear hcF hbad
    have htl : (l.take n).length = n := by rw [List.length_take]; omega
    have hb1 : Bs w p A (l.take n) := h3.take
    have fin : ∀ (A' : Option Addr) (W : World), PInL lo (w.setCell ⟨p, 0, none⟩ (.slice A' (l.length - n) (c - n))) p (l.drop n) wr → W = w.setCell ⟨p, 0, none⟩ (.slice A' (l.length - n) (c - n)) →
        CutPostL lo p n l wr w (.returned (.slice A n n)) W := by
      rintro A' W hpn rfl
      refine ⟨A, n, by rw [HC.out]; simp only [htl], by rw [HC.out]; simp only [htl]; omega, by unfold maxLen at h2 ⊢; omega, ?_, ?_, Turn.set p 0 _ _, fun a e => (h4 a e).2⟩
      · rw [HC.out]
        exact (Turn.set p 0 _ _).bs hp hb1
      · rw [HC.out]
        simpa using hpn
    have hnew : ∀ A' : Option Addr, Bs w p A' (l.drop n) → (∀ a : Addr, A' = some a → a.spot = none ∧ lo ≤ a.block) → PInL lo (w.setCell ⟨p, 0, none⟩ (.slice A' (l.length - n) (c - n))) p (l.drop n) wr := by
      intro A' hb hsp
      have := PInL.rest (w := w) (p := p) (l := l) (l' := l.drop n) (wr := wr) (A' := A') (c' := c - n) Hg.out (by rw [List.length_drop]; omega) (by unfold maxLen at h2 ⊢; omega) hb hsp
      rwa [List.length_drop] at this
    have Hfin := Lib.hid fin
    have Hnew := Lib.hid hnew
    have Htl := Lib.hid htl
    clear htl fin hnew
    rcases A with _ | ⟨b, off, spot⟩
    · have hl0 : l.length = 0 := by
        rcases Nat.eq_zero_or_pos l.length with e | e
        · exact e
        · obtain ⟨_, _, e, _⟩ := h3 e; cases e
      obtain rfl : l = [] := List.eq_nil_of_length_eq_zero hl0
      obtain rfl : n = 0 := by simpa using hnl
      have hfinal := Hfin.out none _ (Hnew.out none (by simpa using Bs.nil w p none) (fun _ e => by cases e)) rfl
      have HF := Lib.hid hfinal
      clear hfinal hl0
      go_enter Tryd.func32, Tryd.ntmps32
      go_wp2_with fail
      all_goals
        go_ret
        simpa using HF.out
    · obtain rfl : spot = none := (h4 _ rfl).1
      by_cases hcn : c = n
      · have hend : Bs w p (some ⟨b, off, none⟩) (l.drop n) := by
          rw [List.drop_of_length_le (by omega)]
          exact Bs.nil _ _ _
        have hfinal := Hfin.out (some ⟨b, off, none⟩) _ (Hnew.out _ hend (fun a e => h4 a e)) rfl
        have h0 : l.length - n = 0 := by omega
        have h00 : c - n = 0 := by omega
        rw [h0, h00] at hfinal
        have HF := Lib.hid hfinal
        clear hfinal h0 h00
        subst hcn
        go_enter Tryd.func32, Tryd.ntmps32
        go_wp2_with fail
        go_ret
        exact HF.out
      · have hend : Bs w p (some ⟨b, off + n, none⟩) (l.drop n) := by
          by_cases hgl : n < l.length
          · obtain ⟨b', o', e, hd⟩ := h3.drop hgl
            injection e with e
            injection e with e1 e2
            subst e1 e2
            exact hd
          · rw [List.drop_of_length_le (by omega)]
            exact Bs.nil _ _ _
        have hfinal := Hfin.out (some ⟨b, off + n, none⟩) _ (Hnew.out _ hend (fun a e => by cases e; exact ⟨rfl, (h4 _ rfl).2⟩)) rfl
        have HF := Lib.hid hfinal
        clear hfinal
        go_enter Tryd.func32, Tryd.ntmps32
        go_wp2_with fail
        go_ret
        exact HF.out

theorem cut_any (p n : Nat) (l : List UInt8) (wr : Bool) (w : World) (h : PInL lo w p l wr) (hn : n < 18446744073709551616) :
    Calls Tryd.prog 32 #[.pointer (some ⟨p, 0, none⟩), .int .u64 n] w (CutPost lo p n l wr w) := (cut_anyL p n l wr w h hn).mono fun _ _ h => h.post

def doneF (l : List UInt8) (wr : Bool) : Int := if wr = true ∨ 0 < l.length then 3 else 0

set_option maxHeartbeats 1000000 in
theorem done_in (p : Nat) (l : List UInt8) (wr : Bool) (w : World) (h : PInL lo w p l wr) :
    Calls Tryd.prog 21 #[.pointer (some ⟨p, 0, none⟩)] w fun e w' => e = .returned (.int .i64 (doneF l wr)) ∧ w = w' := by
  obtain ⟨A, c, hg, h1, h2, h3, h4⟩ := h
  obtain ⟨c0, c1, f0, f1⟩ := PInL.cells hg
  have hl63 : c ≤ 9223372036854775807 := by unfold maxLen at h2; omega
  clear hg
  have hd : doneF l wr = if wr = true ∨ 0 < l.length then 3 else 0 := rfl
  cases wr with
  | true =>
    rw [if_pos (.inl rfl)] at hd
    have HD := Lib.hid hd
    clear hd
    go_enter Tryd.func21, Tryd.ntmps21
    go_wp2
    go_ret
    exact ⟨by rw [HD.out]; rfl, rfl⟩
  | false =>
    by_cases hp : 0 < l.length
    · rw [if_pos (.inr hp)] at hd
      have HD := Lib.hid hd
      clear hd
      go_enter Tryd.func21, Tryd.ntmps21
      go_wp2
      go_ret
      exact ⟨by rw [HD.out]; rfl, rfl⟩
    · rw [if_neg (fun h => h.elim (fun e => by cases e) hp)] at hd
      have HD := Lib.hid hd
      clear hd
      have h0 : l.length ≤ 0 := by omega
      go_enter Tryd.func21, Tryd.ntmps21
      go_wp2
      go_ret
      exact ⟨by rw [HD.out]; rfl, rfl⟩

end Go.Proofs.YtfelacpaaialfaaDoor

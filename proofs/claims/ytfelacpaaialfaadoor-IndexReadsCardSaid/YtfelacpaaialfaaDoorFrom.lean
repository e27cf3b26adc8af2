/-
  pack.From: a new In with the bytes that are handed in, in a row of its own; and In.Bytes.
-/
import Derived.Test.YtfelacpaaialfaaDoorInCalls
import Derived.Test.YtfelacpaaialfaaDoorNum
import Derived.Lib.SliceRun
namespace Go.Proofs.YtfelacpaaialfaaDoor
open Go.RowKit
set_option linter.unusedVariables false

set_option maxHeartbeats 2000000 in
set_option maxRecDepth 100000 in
theorem cloneb_any (B : Nat) (A : Option Addr) (c : Nat) (l : List UInt8) (w : World) (hA : Bs w B A l) (hlim : l.length ≤ 140737488355328) :
    Calls Tryd.prog 29 #[.slice A l.length c] w fun e w' => ∃ v', e = .returned v' ∧ Owns w' w.heap.size 5 v' l ∧ Below w.heap.size w w' := by
  obtain ⟨i0, hi, hz0, hz1, hz2⟩ := info_parts byteInfo
  have q22 : ∀ (w : World) (a : Option Addr) (n c n' c' : Nat), (binOp .eql 22 (.slice a n c) (.slice none n' c')).run Tryd.prog w = .ok (.bool a.isNone) w := fun w a n c n' c' => Lib.run_eql_slice_nil w _ _ a n c n' c' Tryd.underlying22
  rcases A with _ | ⟨b, off, spot⟩
  · have hl0 : l.length = 0 := by
      rcases Nat.eq_zero_or_pos l.length with e | e
      · exact e
      · obtain ⟨_, _, e, _⟩ := hA e; cases e
    obtain rfl : l = [] := List.eq_nil_of_length_eq_zero hl0
    clear hl0
    go_enter Tryd.func29, Tryd.ntmps29
    go_wp2
    go_ret
    exact ⟨_, rfl, Owns.nil _ _ _, Below.refl _ _⟩
  · have hcells : ∀ j v, (Lib.byteCells l)[j]? = some v → w.cell? ((⟨b, off, spot⟩ : Addr).add j) = some v := by
      intro j v hj
      have hp : 0 < (Lib.byteCells l).length := by have := (List.getElem?_eq_some_iff.1 hj).1; omega
      obtain ⟨ad, e, hc⟩ := hA.cells hp
      injection e with e
      subst e
      exact hc j v hj
    have hcl : (Lib.byteCells l).length = l.length * 1 := by simp [Lib.byteCells]
    have h1 := byteCells_one l
    have Hc := Lib.hid hcells
    have Hl := Lib.hid hcl
    have H1 := Lib.hid h1
    clear hcells hcl h1
    go_enter Tryd.func29, Tryd.ntmps29
    go_wp2_with (at_builtin; refine wpList_append_own_at _ rfl _ _ 22 rfl w.heap.size 5 i0 (.int .u8 0) 1 1 Tryd.underlying22 hi hz0 hz1 hz2 rfl (by decide) _ 0 [] rfl ?c0 ⟨b, off, spot⟩ l.length c (Lib.byteCells l) rfl Hl.out ?c1 H1.out ?c3 ?c4 ?c5 ?_)
    case c0 => exact ⟨by simp, .inr ⟨w.heap.size, 0, #[], rfl, Nat.le_refl _, heap_alloc_new w _, Nat.le_refl _, by unfold maxLen; omega, by simp, by simp⟩⟩
    case c1 =>
      intro j v hj
      have hc := Hc.out j v hj
      rw [World.cell?_alloc_lt w _ _ (World.block_lt_of_cell? w _ hc)]
      exact hc
    case c3 => unfold maxLen; omega
    case c4 => omega
    case c5 => simp
    intro v' w1 hown' hgrow _ hplace
    go_wp2
    go_ret
    refine ⟨v', rfl, ?_, ((Below.refl _ _).alloc (Nat.le_refl _) _).grown hgrow (by simp) (fun k hk => by simp [Value.ownBlock] at hk; omega)⟩
    simpa [Owns] using hown'

set_option maxHeartbeats 2000000 in
theorem from_anyL (B : Nat) (A : Option Addr) (c : Nat) (l : List UInt8) (w : World) (hA : Bs w B A l) (hlim : l.length ≤ 140737488355328) :
    Calls Tryd.prog 14 #[.slice A l.length c] w fun e w' => ∃ p, e = .returned (.pointer (some ⟨p, 0, none⟩)) ∧ w.heap.size ≤ p ∧ PInL w.heap.size w' p l false ∧ Below w.heap.size w w' := by
  go_enter Tryd.func14, Tryd.ntmps14
  go_wp2_with fail
  refine (cloneb_any B A c l w hA hlim).mono ?_
  rintro e w1 ⟨v', rfl, hown, hb⟩
  have hsz := hb.size
  have hsp : ∀ a n k, v' = .slice (some a) n k → a.spot = none ∧ w.heap.size ≤ a.block := by
    intro a n k e
    rcases hown.2 with ⟨hv, _⟩ | ⟨g, cap, cur, hv, hge, _⟩
    · rw [hv] at e; cases e
    · rw [hv] at e; cases e; exact ⟨rfl, hge⟩
  obtain ⟨A', c', rfl, h1, h2, h3⟩ := hown.slice
  have Hsp := Lib.hid hsp
  clear hsp
  go_wp2_with fail
  go_ret
  refine ⟨w1.heap.size, rfl, hsz, ?_, hb.alloc hsz _⟩
  refine ⟨A', c', heap_alloc_new w1 _, h1, h2, h3.alloc (Nat.le_refl _) _, fun a e => Hsp.out a _ _ (by rw [e])⟩

theorem from_any (B : Nat) (A : Option Addr) (c : Nat) (l : List UInt8) (w : World) (hA : Bs w B A l) (hlim : l.length ≤ 140737488355328) :
    Calls Tryd.prog 14 #[.slice A l.length c] w fun e w' => ∃ p, e = .returned (.pointer (some ⟨p, 0, none⟩)) ∧ w.heap.size ≤ p ∧ PIn w' p l false ∧ Below w.heap.size w w' :=
  (from_anyL B A c l w hA hlim).mono fun _ _ ⟨p, h1, h2, h3, h4⟩ => ⟨p, h1, h2, h3.weak (Nat.zero_le _), h4⟩

theorem from_n (B : Nat) (A : Option Addr) (c n : Nat) (l : List UInt8) (w : World) (hA : Bs w B A l) (hn : l.length = n) (hlim : n ≤ 140737488355328) :
    Calls Tryd.prog 14 #[.slice A n c] w fun e w' => ∃ p, e = .returned (.pointer (some ⟨p, 0, none⟩)) ∧ w.heap.size ≤ p ∧ PIn w' p l false ∧ Below w.heap.size w w' := by
  subst hn
  exact from_any B A c l w hA hlim

def bytesF (most : Int) (l : List UInt8) : List UInt8 × List UInt8 × Bool :=
  if most < 0 then ([], [], true)
  else ((cutF (numF most.toNat l).1 (numF most.toNat l).2.1).1, (cutF (numF most.toNat l).1 (numF most.toNat l).2.1).2.1, (numF most.toNat l).2.2 || (cutF (numF most.toNat l).1 (numF most.toNat l).2.1).2.2)

def BytesInPost (lo p : Nat) (most : Int) (l : List UInt8) (wr : Bool) (w : World) (e : Ending) (w' : World) : Prop :=
  ∃ A c, e = .returned (.slice A (bytesF most l).1.length c) ∧ (bytesF most l).1.length ≤ c ∧ c ≤ maxLen ∧ Bs w' p A (bytesF most l).1 ∧ PInL lo w' p (bytesF most l).2.1 (wr || (bytesF most l).2.2) ∧ Turn p w w'
def BytesInPostL (lo p : Nat) (most : Int) (l : List UInt8) (wr : Bool) (w : World) (e : Ending) (w' : World) : Prop :=
  ∃ A c, e = .returned (.slice A (bytesF most l).1.length c) ∧ (bytesF most l).1.length ≤ c ∧ c ≤ maxLen ∧ Bs w' p A (bytesF most l).1 ∧ PInL lo w' p (bytesF most l).2.1 (wr || (bytesF most l).2.2) ∧ Turn p w w' ∧ ∀ a : Addr, A = some a → lo ≤ a.block

theorem numF_lt (most : Nat) (l : List UInt8) : (numF most l).1 < 18446744073709551616 := by
  unfold numF
  split
  · simp
  · exact (lead_le l).2

end Go.Proofs.YtfelacpaaialfaaDoor

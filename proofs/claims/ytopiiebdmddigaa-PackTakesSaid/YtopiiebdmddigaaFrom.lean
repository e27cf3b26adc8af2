/-
  pack.From: a new In with the bytes that are handed in, in a row of its own; and In.Bytes.
-/
import Derived.Test.YtopiiebdmddigaaInCalls
import Derived.Test.YtopiiebdmddigaaNum
import Derived.Lib.SliceRun
namespace Go.Proofs.Ytopiiebdmddigaa
open Go.RowKit
set_option linter.unusedVariables false

set_option maxHeartbeats 2000000 in
set_option maxRecDepth 100000 in
theorem clone_any (B : Nat) (A : Option Addr) (c : Nat) (l : List UInt8) (w : World) (hA : Bs w B A l) (hlim : l.length ≤ 140737488355328) :
    Calls Try.prog 32 #[.slice A l.length c] w fun e w' => ∃ v', e = .returned v' ∧ Owns w' w.heap.size 5 v' l ∧ Below w.heap.size w w' := by
  obtain ⟨i0, hi, hz0, hz1, hz2⟩ := info_parts byteInfo
  have q22 : ∀ (w : World) (a : Option Addr) (n c n' c' : Nat), (binOp .eql 25 (.slice a n c) (.slice none n' c')).run Try.prog w = .ok (.bool a.isNone) w := fun w a n c n' c' => Lib.run_eql_slice_nil w _ _ a n c n' c' Try.underlying25
  rcases A with _ | ⟨b, off, spot⟩
  · have hl0 : l.length = 0 := by
      rcases Nat.eq_zero_or_pos l.length with e | e
      · exact e
      · obtain ⟨_, _, e, _⟩ := hA e; cases e
    obtain rfl : l = [] := List.eq_nil_of_length_eq_zero hl0
    clear hl0
    go_enter Try.func32, Try.ntmps32
    go_wp2
    go_ret
    exact ⟨_, rfl, Owns.nil _ _ _, Below.refl _ _⟩
  · have hcells : ∀ j v, (Lib.byteCells l)[j]? = some v → w.cell? ((⟨b, off, spot⟩ : Addr).add j) = some v := by
      intro j v hj
      have hp : 0 < (Lib.byteCells l).length := by have := (List.getElem?_eq_some_iff.1 hj).1; omega
      obtain ⟨ad, e, hc⟩ := hA.cells hp
      injection e with e
      subst e
      exact hc j v hj
    have hcl : (Lib.byteCells l).length = l.length * 1 := by simp [Lib.byteCells]
    have h1 := byteCells_one l
    have Hc := Lib.hid hcells
    have Hl := Lib.hid hcl
    have H1 := Lib.hid h1
    clear hcells hcl h1
    go_enter Try.func32, Try.ntmps32
    go_wp2_with (at_builtin; refine wpList_append_own_at _ rfl _ _ 25 rfl w.heap.size 5 i0 (.int .u8 0) 1 1 Try.underlying25 hi hz0 hz1 hz2 rfl (by decide) _ 0 [] rfl ?c0 ⟨b, off, spot⟩ l.length c (Lib.byteCells l) rfl Hl.out ?c1 H1.out ?c3 ?c4 ?c5 ?_)
    case c0 => exact ⟨by simp, .inr ⟨w.heap.size, 0, #[], rfl, Nat.le_refl _, heap_alloc_new w _, Nat.le_refl _, by unfold maxLen; omega, by simp, by simp⟩⟩
    case c1 =>
      intro j v hj
      have hc := Hc.out j v hj
      rw [World.cell?_alloc_lt w _ _ (World.block_lt_of_cell? w _ hc)]
      exact hc
    case c3 => unfold maxLen; omega
    case c4 => omega
    case c5 => simp
    intro v' w1 hown' hgrow _ hplace
    go_wp2
    go_ret
    refine ⟨v', rfl, ?_, ((Below.refl _ _).alloc (Nat.le_refl _) _).grown hgrow (by simp) (fun k hk => by simp [Value.ownBlock] at hk; omega)⟩
    simpa [Owns] using hown'

set_option maxHeartbeats 2000000 in
theorem from_any (B : Nat) (A : Option Addr) (c : Nat) (l : List UInt8) (w : World) (hA : Bs w B A l) (hlim : l.length ≤ 140737488355328) :
    Calls Try.prog 16 #[.slice A l.length c] w fun e w' => ∃ p, e = .returned (.pointer (some ⟨p, 0, none⟩)) ∧ w.heap.size ≤ p ∧ PIn w' p l false ∧ Below w.heap.size w w' := by
  go_enter Try.func16, Try.ntmps16
  go_wp2_with fail
  refine (clone_any B A c l w hA hlim).mono ?_
  rintro e w1 ⟨v', rfl, hown, hb⟩
  have hsz := hb.size
  have hsp : ∀ a n k, v' = .slice (some a) n k → a.spot = none := by
    intro a n k e
    rcases hown.2 with ⟨hv, _⟩ | ⟨g, cap, cur, hv, _⟩
    · rw [hv] at e; cases e
    · rw [hv] at e; cases e; rfl
  obtain ⟨A', c', rfl, h1, h2, h3⟩ := hown.slice
  have Hsp := Lib.hid hsp
  clear hsp
  go_wp2_with fail
  go_ret
  refine ⟨w1.heap.size, rfl, hsz, ?_, hb.alloc hsz _⟩
  refine ⟨A', c', heap_alloc_new w1 _, h1, h2, h3.alloc (Nat.le_refl _) _, fun a e => Hsp.out a _ _ (by rw [e])⟩

theorem from_n (B : Nat) (A : Option Addr) (c n : Nat) (l : List UInt8) (w : World) (hA : Bs w B A l) (hn : l.length = n) (hlim : n ≤ 140737488355328) :
    Calls Try.prog 16 #[.slice A n c] w fun e w' => ∃ p, e = .returned (.pointer (some ⟨p, 0, none⟩)) ∧ w.heap.size ≤ p ∧ PIn w' p l false ∧ Below w.heap.size w w' := by
  subst hn
  exact from_any B A c l w hA hlim

def bytesF (most : Int) (l : List UInt8) : List UInt8 × List UInt8 × Bool :=
  if most < 0 then ([], [], true)
  else ((cutF (numF most.toNat l).1 (numF most.toNat l).2.1).1, (cutF (numF most.toNat l).1 (numF most.toNat l).2.1).2.1, (numF most.toNat l).2.2 || (cutF (numF most.toNat l).1 (numF most.toNat l).2.1).2.2)

def BytesInPost (p : Nat) (most : Int) (l : List UInt8) (wr : Bool) (w : World) (e : Ending) (w' : World) : Prop :=
  ∃ A c, e = .returned (.slice A (bytesF most l).1.length c) ∧ (bytesF most l).1.length ≤ c ∧ c ≤ maxLen ∧ Bs w' p A (bytesF most l).1 ∧ PIn w' p (bytesF most l).2.1 (wr || (bytesF most l).2.2) ∧ Turn p w w'

theorem numF_lt (most : Nat) (l : List UInt8) : (numF most l).1 < 18446744073709551616 := by
  unfold numF
  split
  · simp
  · exact (lead_le l).2

set_option maxHeartbeats 2000000 in
set_option maxRecDepth 100000 in
theorem bytes_in (p : Nat) (most : Int) (l : List UInt8) (wr : Bool) (w : World) (h : PIn w p l wr) (hlo : -9223372036854775808 ≤ most) (hhi : most ≤ 9223372036854775807) :
    Calls Try.prog 21 #[.pointer (some ⟨p, 0, none⟩), .int .i64 most] w (BytesInPost p most l wr w) := by
  by_cases hneg : most < 0
  · have hconv : IntKind.u64.wrap most = ((most + 18446744073709551616).toNat : Int) := by
      have : IntKind.u64.wrap most = most % 18446744073709551616 := by simp [IntKind.wrap_u64]
      rw [this]
      omega
    have hbF : bytesF most l = ([], [], true) := by unfold bytesF; rw [if_pos hneg]
    have HB := Lib.hid hbF
    have HN := Lib.hid hconv
    clear hbF hconv
    go_enter Try.func21, Try.ntmps21
    go_wp2_with fail
    refine (fail_any p l wr _ h).mono ?_
    rintro e w1 ⟨rfl, hp1, ht1⟩
    go_wp2_with fail
    rw [HN.out]
    refine (number_in p _ [] true _ hp1 (by omega)).mono ?_
    rintro e w2 ⟨rfl, hp2, ht2⟩
    have hnF : numF (most + 18446744073709551616).toNat [] = (0, [], true) := by unfold numF; rw [if_pos (.inl rfl)]
    rw [hnF] at hp2 ⊢
    clear hnF
    go_wp2_with fail
    refine (cut_any p 0 [] true _ hp2 (by omega)).mono ?_
    rintro e w3 ⟨A, c, rfl, h1, h2, h3, hp3, ht3⟩
    have hcF : cutF 0 [] = ([], [], false) := rfl
    rw [hcF] at h1 h3 hp3 ⊢
    clear hcF
    go_wp2_with fail
    go_ret
    refine ⟨A, c, by rw [HB.out]; rfl, by rw [HB.out]; exact h1, h2, by rw [HB.out]; exact h3, ?_, (ht1.trans ht2).trans ht3⟩
    rw [HB.out]
    simpa using hp3
  · have hbF : bytesF most l = ((cutF (numF most.toNat l).1 (numF most.toNat l).2.1).1, (cutF (numF most.toNat l).1 (numF most.toNat l).2.1).2.1, (numF most.toNat l).2.2 || (cutF (numF most.toNat l).1 (numF most.toNat l).2.1).2.2) := by
      unfold bytesF; rw [if_neg hneg]
    have HB := Lib.hid hbF
    have h0 : 0 ≤ most := by omega
    have Hm := Lib.hid (Int.toNat_of_nonneg h0)
    clear hbF
    go_enter Try.func21, Try.ntmps21
    go_wp2_with fail
    rw [← Hm.out]
    refine (number_in p most.toNat l wr _ h (by omega)).mono ?_
    rintro e w2 ⟨rfl, hp2, ht2⟩
    rw [Hm.out]
    have hv := numF_lt most.toNat l
    have hq : Hid (∃ q, numF most.toNat l = q) := ⟨_, rfl⟩
    obtain ⟨q, hq⟩ := hq.out
    have HB' := HB.out
    rw [hq] at hp2 hv HB' ⊢
    have HB2 := Lib.hid HB'
    clear hq HB HB'
    obtain ⟨v, l2, f⟩ := q
    go_wp2_with fail
    refine (cut_any p v l2 _ _ hp2 hv).mono ?_
    rintro e w3 ⟨A, c, rfl, h1, h2, h3, hp3, ht3⟩
    go_wp2_with fail
    go_ret
    refine ⟨A, c, by rw [HB2.out]; rfl, by rw [HB2.out]; exact h1, h2, by rw [HB2.out]; exact h3, ?_, ht2.trans ht3⟩
    rw [HB2.out]
    simpa [Bool.or_assoc] using hp3

end Go.Proofs.Ytopiiebdmddigaa

/-
  pack.In: what its methods take, and what is left.
-/
import Derived.Test.YtfelacpaaialfaaDoorLead
namespace Go.Proofs.YtfelacpaaialfaaDoor
open Go.RowKit
set_option linter.unusedVariables false

/-- Block p is an In with the bytes l left; the bytes lie in blocks from lo on, below p. -/
def PInL (lo : Nat) (w : World) (p : Nat) (l : List UInt8) (wr : Bool) : Prop :=
  ∃ A c, w.heap[p]? = some (.cells #[.slice A l.length c, .bool wr] 70 (0, 0)) ∧ l.length ≤ c ∧ c ≤ maxLen ∧ Bs w p A l ∧ (∀ a : Addr, A = some a → a.spot = none ∧ lo ≤ a.block)
abbrev PIn (w : World) (p : Nat) (l : List UInt8) (wr : Bool) : Prop := PInL 0 w p l wr
variable {lo : Nat}

/-- From w to w' of all that was there block p alone has turned. -/
def Turn (p : Nat) (w w' : World) : Prop := w.grownBy w' (some p)
theorem Turn.refl (p : Nat) (w : World) : Turn p w w := World.grownBy.refl w _
theorem Turn.trans {p : Nat} {a b c : World} (h : Turn p a b) (k : Turn p b c) : Turn p a c := World.grownBy.trans h k
theorem Turn.set (p i : Nat) (w : World) (v : Value) : Turn p w (w.setCell ⟨p, i, none⟩ v) :=
  ⟨rfl, rfl, rfl, by simp [World.setCell], fun k _ hk => Below.heap_setCell w _ v k (fun e => hk (by rw [e]))⟩
theorem Turn.drewN {p : Nat} {a b : World} (h : Turn p a b) (n : Nat) : Turn p a (b.drewN n) := ⟨h.os, h.tape, h.output, h.size, h.block⟩
theorem Turn.alloc {p : Nat} {a b : World} (h : Turn p a b) (o : Obj) : Turn p a (b.alloc o) := World.grownBy.trans h (World.grownBy_alloc b o _)
theorem Turn.bs {p : Nat} {w w' : World} {A : Option Addr} {l : List UInt8} (h : Turn p w w') (hp : p < w.heap.size) (hb : Bs w p A l) : Bs w' p A l :=
  hb.keep fun b o hlt => World.cell?_of_block (h.block b (by omega) (fun e => by injection e with e; omega))
theorem Turn.below {p B : Nat} {w w' : World} (h : Turn p w w') (hB : B ≤ w.heap.size) (hp : B ≤ p) : Below B w w' :=
  ⟨h.os, h.tape, h.output, h.size, fun k hk => h.block k (by omega) (fun e => by injection e with e; omega)⟩

theorem PInL.lt {w : World} {p : Nat} {l : List UInt8} {wr : Bool} (h : PInL lo w p l wr) : p < w.heap.size := by
  obtain ⟨A, c, hg, _⟩ := h
  exact (Array.getElem?_eq_some_iff.1 hg).1

theorem PInL.weak {lo' : Nat} {w : World} {p : Nat} {l : List UInt8} {wr : Bool} (h : PInL lo w p l wr) (hl : lo' ≤ lo) : PInL lo' w p l wr := by
  obtain ⟨A, c, hg, h1, h2, h3, h4⟩ := h
  exact ⟨A, c, hg, h1, h2, h3, fun a e => ⟨(h4 a e).1, Nat.le_trans hl (h4 a e).2⟩⟩
theorem PInL.drewN {w : World} {p : Nat} {l : List UInt8} {wr : Bool} (h : PInL lo w p l wr) (n : Nat) : PInL lo (w.drewN n) p l wr := h

theorem PInL.kept {w w' : World} {p : Nat} {l : List UInt8} {wr : Bool} (h : PInL lo w p l wr) (hb : ∀ k, k ≤ p → w'.heap[k]? = w.heap[k]?) : PInL lo w' p l wr := by
  obtain ⟨A, c, hg, h1, h2, h3, h4⟩ := h
  exact ⟨A, c, (hb p (Nat.le_refl _)).trans hg, h1, h2, h3.keep fun b o hlt => World.cell?_of_block (hb b (by omega)), h4⟩

/-- The facts that a walk wants of the two cells. -/
theorem PInL.cells {w : World} {p : Nat} {l : List UInt8} {wr : Bool} {A : Option Addr} {c : Nat} (hg : w.heap[p]? = some (.cells #[.slice A l.length c, .bool wr] 70 (0, 0))) :
    w.cell? ⟨p, 0, none⟩ = some (.slice A l.length c) ∧ w.cell? ⟨p, 1, none⟩ = some (.bool wr) ∧ w.frozen? ⟨p, 0, none⟩ = false ∧ w.frozen? ⟨p, 1, none⟩ = false := by
  refine ⟨?_, ?_, frozen_of_row w p 0 _ _ hg, frozen_of_row w p 1 _ _ hg⟩
  · rw [cell_of_row w p 0 _ _ (0, 0) hg]; rfl
  · rw [cell_of_row w p 1 _ _ (0, 0) hg]; rfl

/-- The In behind a store into its first cell. -/
theorem PInL.rest {w : World} {p : Nat} {l l' : List UInt8} {wr : Bool} {A A' : Option Addr} {c c' : Nat} (hg : w.heap[p]? = some (.cells #[.slice A l.length c, .bool wr] 70 (0, 0))) (h1 : l'.length ≤ c') (h2 : c' ≤ maxLen) (hb : Bs w p A' l') (h4 : ∀ a : Addr, A' = some a → a.spot = none ∧ lo ≤ a.block) :
    PInL lo (w.setCell ⟨p, 0, none⟩ (.slice A' l'.length c')) p l' wr := by
  refine ⟨A', c', ?_, h1, h2, hb.keep fun b o hlt => World.cell?_setCell_other w ⟨p, 0, none⟩ ⟨b, o, none⟩ _ (fun e => by injection e with e; omega), h4⟩
  rw [heap_setCell_same w p 0 _ _ _ hg]
  rfl

theorem PInL.bad {w : World} {p : Nat} {l : List UInt8} {wr : Bool} (h : PInL lo w p l wr) : PInL lo ((w.setCell ⟨p, 1, none⟩ (.bool true)).setCell ⟨p, 0, none⟩ (.slice none 0 0)) p [] true := by
  obtain ⟨A, c, hg, h1, h2, h3, h4⟩ := h
  have hg1 : (w.setCell ⟨p, 1, none⟩ (.bool true)).heap[p]? = some (.cells #[.slice A l.length c, .bool true] 70 (0, 0)) := by
    rw [heap_setCell_same w p 1 _ _ _ hg]; rfl
  exact PInL.rest (l' := []) hg1 (Nat.le_refl _) (by unfold maxLen; omega) (Bs.nil _ _ _) (fun _ e => by cases e)

set_option maxHeartbeats 1000000 in
theorem fail_any (p : Nat) (l : List UInt8) (wr : Bool) (w : World) (h : PInL lo w p l wr) :
    Calls Tryd.prog 31 #[.pointer (some ⟨p, 0, none⟩)] w fun e w' => e = .returned (.tuple #[]) ∧ PInL lo w' p [] true ∧ Turn p w w' := by
  have hb := h.bad
  obtain ⟨A, c, hg, h1, h2, h3, h4⟩ := h
  obtain ⟨c0, c1, f0, f1⟩ := PInL.cells hg
  go_enter Tryd.func31, Tryd.ntmps31
  go_wp2
  go_end0
  exact ⟨rfl, hb, (Turn.set p 1 w _).trans (Turn.set p 0 _ _)⟩

def numF (most : Nat) (l : List UInt8) : Nat × List UInt8 × Bool := if (lead l).2 = 0 ∨ most < (lead l).1 then (0, [], true) else ((lead l).1, l.drop (lead l).2, false)
def cutF (n : Nat) (l : List UInt8) : List UInt8 × List UInt8 × Bool := if l.length < n then ([], [], true) else (l.take n, l.drop n, false)

def NumPost (lo p most : Nat) (l : List UInt8) (wr : Bool) (w : World) (e : Ending) (w' : World) : Prop :=
  e = .returned (.int .u64 (numF most l).1) ∧ PInL lo w' p (numF most l).2.1 (wr || (numF most l).2.2) ∧ Turn p w w'

def CutPost (lo p n : Nat) (l : List UInt8) (wr : Bool) (w : World) (e : Ending) (w' : World) : Prop :=
  ∃ A c, e = .returned (.slice A (cutF n l).1.length c) ∧ (cutF n l).1.length ≤ c ∧ c ≤ maxLen ∧ Bs w' p A (cutF n l).1 ∧ PInL lo w' p (cutF n l).2.1 (wr || (cutF n l).2.2) ∧ Turn p w w'
/-- The same, and where the bytes lie. -/
def CutPostL (lo p n : Nat) (l : List UInt8) (wr : Bool) (w : World) (e : Ending) (w' : World) : Prop :=
  ∃ A c, e = .returned (.slice A (cutF n l).1.length c) ∧ (cutF n l).1.length ≤ c ∧ c ≤ maxLen ∧ Bs w' p A (cutF n l).1 ∧ PInL lo w' p (cutF n l).2.1 (wr || (cutF n l).2.2) ∧ Turn p w w' ∧ ∀ a : Addr, A = some a → lo ≤ a.block
theorem CutPostL.post {p n : Nat} {l : List UInt8} {wr : Bool} {w : World} {e : Ending} {w' : World} (h : CutPostL lo p n l wr w e w') : CutPost lo p n l wr w e w' := by
  obtain ⟨A, c, h1, h2, h3, h4, h5, h6, _⟩ := h
  exact ⟨A, c, h1, h2, h3, h4, h5, h6⟩

theorem leadFrom_le : ∀ (l : List UInt8) (i acc : Nat), acc < 2 ^ (7 * i) → i ≤ 9 → (leadFrom i acc l).2 ≤ i + l.length ∧ ((leadFrom i acc l).2 ≠ 0 → i < (leadFrom i acc l).2) ∧ (leadFrom i acc l).1 < 18446744073709551616
  | [], i, acc, _, _ => by simp [leadFrom]
  | b :: r, i, acc, ha, hi => by
    have hb : b.toNat < 256 := UInt8.toNat_lt b
    unfold leadFrom
    by_cases h9 : i = 9 ∧ 1 < b.toNat
    · rw [if_pos h9]; simp
    · rw [if_neg h9]
      obtain ⟨hs1, hs2, _⟩ := or_step i acc b.toNat hi ha (fun e => by omega) hb
      by_cases h0 : b.toNat = 0 ∧ 0 < i
      · rw [if_pos h0]; simp
      · rw [if_neg h0]
        by_cases hc : b.toNat < 128
        · rw [if_pos hc]
          refine ⟨by simp, by simp, hs1⟩
        · rw [if_neg hc]
          have hlt : i < 9 := by omega
          obtain ⟨g1, g2, g3⟩ := leadFrom_le r (i + 1) _ (hs2 hlt) (by omega)
          refine ⟨by simp only [List.length_cons]; omega, fun h => by have := g2 h; omega, g3⟩

theorem lead_le (l : List UInt8) : (lead l).2 ≤ l.length ∧ (lead l).1 < 18446744073709551616 := by
  obtain ⟨h1, _, h3⟩ := leadFrom_le l 0 0 (by decide) (by omega)
  exact ⟨by unfold lead; omega, h3⟩

/-- What a cut 's[k:]' of bytes in memory leads to. -/
theorem Bs.drop {w : World} {B : Nat} {A : Option Addr} {l : List UInt8} {k : Nat} (h : Bs w B A l) (hk : k < l.length) : ∃ b off, A = some ⟨b, off, none⟩ ∧ Bs w B (some ⟨b, off + k, none⟩) (l.drop k) := by
  obtain ⟨b, off, rfl, hb, hc⟩ := h (by omega)
  refine ⟨b, off, rfl, fun _ => ⟨b, off + k, rfl, hb, fun j hj => ?_⟩⟩
  rw [List.length_drop] at hj
  have := hc (k + j) (by omega)
  rw [show off + k + j = off + (k + j) from by omega, this]
  simp [List.getD, List.getElem?_drop]

theorem Bs.take {w : World} {B : Nat} {A : Option Addr} {l : List UInt8} {k : Nat} (h : Bs w B A l) : Bs w B A (l.take k) := fun hn => by
  rw [List.length_take] at hn
  obtain ⟨b, off, rfl, hb, hc⟩ := h (by omega)
  refine ⟨b, off, rfl, hb, fun j hj => ?_⟩
  rw [List.length_take] at hj
  rw [hc j (by omega)]
  have : (l.take k).getD j 0 = l.getD j 0 := by simp [List.getD, show j < k from by omega]
  rw [this]

end Go.Proofs.YtfelacpaaialfaaDoor

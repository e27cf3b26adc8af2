/-
  Regions that draw their order and only make memory: one invariant for all of them. No program.
-/
import Derived.Test.YtkpgbgiamekhaabTagged
import Derived.Test.YtkpgbgiamekhaabGen
import Derived.Test.YtkpgbgiamekhaabAnyInv
namespace Go.Proofs.Ytkpgbgiamekhaab
open Go.RowKit
set_option linter.unusedVariables false

def updS (s : Nat → Value) (i : Nat) (v : Value) : Nat → Value := fun j => if j = i then v else s j
theorem updS_same (s : Nat → Value) (i : Nat) (v : Value) : updS s i v i = v := by simp [updS]
theorem updS_ne (s : Nat → Value) {i j : Nat} (v : Value) (h : j ≠ i) : updS s i v j = s j := by simp [updS, h]

/-- From w to w' nothing below B has turned, no cell, and no block's shape. -/
structure Keep (B : Nat) (w w' : World) : Prop where
  bel : Below B w w'
  size : w.heap.size ≤ w'.heap.size
  cell : ∀ b o, b < w.heap.size → w'.cell? ⟨b, o, none⟩ = w.cell? ⟨b, o, none⟩
  shape : ∀ b, b < w.heap.size → w'.shape? b = w.shape? b

theorem Keep.refl (B : Nat) (w : World) : Keep B w w := ⟨Below.refl _ _, Nat.le_refl _, fun _ _ _ => rfl, fun _ _ => rfl⟩
theorem Keep.of_below {B : Nat} {w w' : World} (h : Below w.heap.size w w') (hB : B ≤ w.heap.size) : Keep B w w' :=
  ⟨h.mono hB, h.size, fun b o hb => World.cell?_of_block (h.block b hb), fun b hb => by unfold World.shape?; rw [h.block b hb]⟩
theorem Keep.trans {B : Nat} {a b c : World} (h : Keep B a b) (k : Keep B b c) : Keep B a c :=
  ⟨h.bel.trans k.bel, Nat.le_trans h.size k.size, fun x o hx => (k.cell x o (Nat.lt_of_lt_of_le hx h.size)).trans (h.cell x o hx), fun x hx => (k.shape x (Nat.lt_of_lt_of_le hx h.size)).trans (h.shape x hx)⟩

theorem Bs.keepK {B : Nat} {w w' : World} {A : Option Addr} {l : List UInt8} (h : Bs w w.heap.size A l) (hk : Keep B w w') : Bs w' w'.heap.size A l :=
  (h.keep fun b o hb => hk.cell b o hb).more hk.size
theorem RowsAt.keepK {B : Nat} {w w' : World} {A : Option Addr} {rs : List (List UInt8)} (h : RowsAt w w.heap.size A rs) (hk : Keep B w w') : RowsAt w' w'.heap.size A rs :=
  (RowsAt.keep h fun b o hb => hk.cell b o hb).more hk.size

/-- What holds of the operations that are done. -/
structure MInv (B : Nat) (w0 : World) (Pr : Nat → Value → World → Prop) (n : Nat) (D : Nat → Prop) (s : Nat → Value) (w : World) : Prop where
  bel : Below B w0 w
  size : B ≤ w.heap.size
  val : ∀ i, i < n → D i → Pr i (s i) w

theorem MInv.begin {B : Nat} {w0 w : World} {Pr : Nat → Value → World → Prop} {n : Nat} {s : Nat → Value} (hb : Below B w0 w) (hs : B ≤ w.heap.size) : MInv B w0 Pr n (fun _ => False) s w := ⟨hb, hs, fun _ _ h => h.elim⟩
theorem MInv.ext {B : Nat} {w0 w : World} {Pr : Nat → Value → World → Prop} {n : Nat} {D D' : Nat → Prop} {s : Nat → Value} (h : MInv B w0 Pr n D s w) (hd : ∀ i, D i ↔ D' i) : MInv B w0 Pr n D' s w := by
  have : D = D' := funext fun i => propext (hd i)
  subst this; exact h
theorem MInv.put {B : Nat} {w0 w w' : World} {Pr : Nat → Value → World → Prop} {n : Nat} {D : Nat → Prop} {s : Nat → Value} (hPr : ∀ i v w w', B ≤ w.heap.size → Keep B w w' → Pr i v w → Pr i v w') (h : MInv B w0 Pr n D s w) (i : Nat) (hk : Keep B w w') (v : Value) (hv : Pr i v w') :
    MInv B w0 Pr n (fun j => D j ∨ j = i) (updS s i v) w' :=
  ⟨h.bel.trans hk.bel, Nat.le_trans h.size hk.size, fun j hj hd => by
    by_cases e : j = i
    · subst e; rw [updS_same]; exact hv
    · rw [updS_ne _ _ e]; exact hPr j _ w w' h.size hk (h.val j hj (hd.resolve_right e))⟩

/-- '[]byte("..")' of a constant: its row gets a mark behind its last cell. -/
theorem run_convert_mark {P : Program} (B : Nat) (w : World) (t e : TypeId) (g n c m : Nat) (ht : P.underlying t = some (.slice e)) (he : P.underlying e = some (.int .u8)) (hB : B ≤ g) (hg : w.shape? g = some (e, m)) :
    ∃ w', (convert t t (.slice (some ⟨g, 0, none⟩) n c)).run P w = .ok (.slice (some ⟨g, 0, none⟩) n c) w' ∧ Keep B w w' := by
  refine ⟨w.freeze ⟨g, m, none⟩ 1, ?_, ?_⟩
  · simp [convert, run_underlying ht, run_underlying he, markStringish, hg]
  · have hm : ∀ k, (w.freeze ⟨g, m, none⟩ 1).heap[k]? = if k = g then (w.heap[k]?).map (fun | .cells c elem (lo, hi) => .cells c elem (if lo == hi then (m, m + 1) else (min lo m, max hi (m + 1))) | o => o) else w.heap[k]? := fun k => by
      unfold World.freeze
      rw [if_neg (by decide)]
      simp only [Array.getElem?_modify]
      by_cases h : g = k
      · subst h
        simp
        congr 1
      · rw [if_neg h, if_neg (Ne.symm h)]
    have hs : (w.freeze ⟨g, m, none⟩ 1).heap.size = w.heap.size := by
      unfold World.freeze
      rw [if_neg (by decide)]
      simp
    refine ⟨⟨?_, ?_, ?_, Nat.le_of_eq hs.symm, fun k hk => ?_⟩, Nat.le_of_eq hs.symm, fun b o hb => ?_, fun b hb => ?_⟩
    · unfold World.freeze; rw [if_neg (by decide)]
    · unfold World.freeze; rw [if_neg (by decide)]
    · unfold World.freeze; rw [if_neg (by decide)]
    · rw [hm, if_neg (by omega)]
    · unfold World.cell?
      show (match (w.freeze ⟨g, m, none⟩ 1).heap[b]? with | some (.cells c _ _) => if (none : Option _).isSome then none else c[o]? | _ => none) = (match w.heap[b]? with | some (.cells c _ _) => if (none : Option _).isSome then none else c[o]? | _ => none)
      rw [hm]
      by_cases h : b = g
      · rw [if_pos h]
        cases hw : w.heap[b]? with
        | none => rfl
        | some x => cases x <;> rfl
      · rw [if_neg h]
    · unfold World.shape?
      rw [hm]
      by_cases h : b = g
      · rw [if_pos h]
        cases hw : w.heap[b]? with
        | none => rfl
        | some x => cases x <;> rfl
      · rw [if_neg h]

theorem step_convert_mark {P : Program} {ops : Array Oper} {o : Oper} {a : Act} {w : World} {K : Act → World → Prop} {Q : Exit → Act → World → Prop} {E : Prop} (hgd : o.guard = none) (t : TypeId) (x : Operand) (ho : o.op = .convert t t x)
    (B : Nat) (e : TypeId) (g n c m : Nat) (ht : P.underlying t = some (.slice e)) (he : P.underlying e = some (.int .u8)) (hB : B ≤ g) (hg : w.shape? g = some (e, m)) (hx : a.eval x = .slice (some ⟨g, 0, none⟩) n c)
    (h : ∀ w', Keep B w w' → K (a.put o.dst (.slice (some ⟨g, 0, none⟩) n c)) w') : if Region.wanted o (yielded ops a.tmps) = true then Oper.wp P o a w K Q else E := by
  have hw : Region.wanted o (yielded ops a.tmps) = true := by simp [Region.wanted, hgd]
  obtain ⟨w', hrun, hk⟩ := run_convert_mark (P := P) B w t e g n c m ht he hB hg
  rw [if_pos hw]
  unfold Oper.wp execOp
  simp only [ho, hx, Sem.run_bind, hrun, Result.andThen_ok]
  exact h w' hk

/-- A slice's literal, new: its shape, and its bytes. -/
theorem new_shape (w : World) (T : TypeId) (cs : Array Value) : (w.alloc (.cells cs T)).shape? w.heap.size = some (T, cs.size) := by
  unfold World.shape?
  rw [heap_alloc_new w _]

end Go.Proofs.Ytkpgbgiamekhaab

/-
  An argument []Call of space's law, opened.
-/
import Derived.Test.YtejmojldfffbnacRows
import Derived.Test.YtejmojldfffbnacMem
import Derived.Deep.Slices
import Derived.Deep.Fields
import Derived.ChangeSame
import Derived.OpenShut
namespace Go.Proofs.Ytejmojldfffbnac
open Go.RowKit Go.ChangeShapes Go.WideShapes
set_option linter.unusedVariables false

structure Cl where
  what : Int
  pos : Int
  n : Int

def Cl.fits (x : Cl) : Prop := -9223372036854775808 ≤ x.what ∧ x.what ≤ 9223372036854775807 ∧ -9223372036854775808 ≤ x.pos ∧ x.pos ≤ 9223372036854775807 ∧ -9223372036854775808 ≤ x.n ∧ x.n ≤ 9223372036854775807

/-- Calls in memory, in a block below B, three cells each. -/
def ClsAt (w : World) (B : Nat) (A : Option Addr) (n : Nat) (f : Nat → Cl) : Prop :=
  0 < n → ∃ b off, A = some ⟨b, off, none⟩ ∧ b < B ∧ ∀ i, i < n → (f i).fits ∧ w.cell? ⟨b, off + i * 3, none⟩ = some (.int .i64 (f i).what) ∧ w.cell? ⟨b, off + i * 3 + 1, none⟩ = some (.int .i64 (f i).pos) ∧ w.cell? ⟨b, off + i * 3 + 2, none⟩ = some (.int .i64 (f i).n)

theorem ClsAt.below {w w' : World} {B B' n : Nat} {A : Option Addr} {f : Nat → Cl} (h : ClsAt w B A n f) (hb : Below B' w w') (hB : B ≤ B') : ClsAt w' B A n f := fun hn => by
  obtain ⟨b, off, e, hlt, hc⟩ := h hn
  refine ⟨b, off, e, hlt, fun i hi => ?_⟩
  obtain ⟨h0, h1, h2, h3⟩ := hc i hi
  exact ⟨h0, (hb.cell (p := ⟨b, _, none⟩) (show b < B' by omega)).trans h1, (hb.cell (p := ⟨b, _, none⟩) (show b < B' by omega)).trans h2, (hb.cell (p := ⟨b, _, none⟩) (show b < B' by omega)).trans h3⟩

section
variable {H : Type} {enc : TypeId × Value → H} {P : Program} {w : World} {base : Nat} {spare : Nat → Bool} {held : Bool}
/-- A slice of structs of one-cell fields: where each field's cell stands, and that it reads. -/
theorem fields_open {t e : TypeId} {fs : Array Field} {fuel : Nat} {cs : List Value} {x : DataW H × List MemPlace} (ht : P.underlying t = some (.slice e)) (he : P.underlying e = some (.struct fs))
    (hone : Go.Deep.oneCellFields P fs = true) (hC : P.cellsOf e = fs.size) (h : DataW.trod enc P w base spare held fuel t cs = some x) :
    cs = [.slice none 0 0] ∨ ∃ (a : Addr) (len cap : Nat), cs = [.slice (some a) len cap] ∧ len ≤ cap ∧ cap ≤ maxLen ∧
      ∀ i, i < len → ∀ (j : Nat) (f : Field), fs[j]? = some f → ∃ (v : Value) (y : DataW H × List MemPlace) (n : Nat), w.cell? (a.add (i * fs.size + j)) = some v ∧ DataW.trod enc P w base spare held n f.type [v] = some y := by
  rcases Go.Deep.open_slice ht h with ⟨h0, _⟩ | ⟨a, len, cap, m, n, D, Pl, hcs, _, hl, hm, hmm, _, hi⟩
  · exact .inl h0
  · refine .inr ⟨a, len, cap, hcs, hl, hm, fun i him j f hj => ?_⟩
    have hle : len ≤ m := by rw [hmm]; split <;> omega
    obtain ⟨cs', hc, ht'⟩ := hi i (by omega)
    rw [hC] at hc
    obtain ⟨ys, n', _, _, hlen, hyl, hf⟩ := DataW.trod_struct he ht'
    obtain ⟨_, hcl, hat⟩ := World.cells?_some hc
    obtain ⟨ho, hk⟩ := Go.Deep.hone_of hone j f hj
    have hjl : j < fs.size := (Array.getElem?_eq_some_iff.1 hj).1
    have h1 := hf j f hj
    rw [ho, hk, List.drop_eq_getElem_cons (show j < cs'.length by omega)] at h1
    have hys : ys[j]? = some (ys[j]'(by omega)) := List.getElem?_eq_getElem (by omega)
    refine ⟨cs'[j]'(by omega), _, n', ?_, (show _ = _ from h1).trans hys⟩
    rw [← Go.Deep.add_add, hat j hjl]
    exact List.getElem?_eq_getElem (by omega)
end

theorem int3_cell {H : Type} {enc : TypeId × Value → H} {W : World} {v : Value} {y : DataW H × List MemPlace} {n : Nat} (h : DataW.trod enc Try.prog W 0 (fun _ => true) true n 3 [v] = some y) :
    ∃ z, v = .int .i64 z ∧ -9223372036854775808 ≤ z ∧ z ≤ 9223372036854775807 := by
  obtain ⟨z, hcs, _, hw⟩ := DataW.trod_int Try.underlying3 h
  simp at hcs
  exact ⟨z, hcs, bounds_i64 hw⟩

theorem clFields : Go.Deep.oneCellFields Try.prog #[⟨"What", 3, 0, false, "", "", 0⟩, ⟨"At", 3, 1, false, "", "", 8⟩, ⟨"N", 3, 2, false, "", "", 16⟩] = true := by kernel_rfl

theorem calls6_arg {H : Type} {enc : TypeId × Value → H} {W : World} {A : Option Addr} {len cap : Nat} {d : DataW H} {p : List MemPlace} (h : DataW.Trod enc Try.prog W 0 (fun _ => true) true 58 (.slice A len cap) d p) :
    ∃ f : Nat → Cl, 0 = 0 ∧ len ≤ cap ∧ cap ≤ maxLen ∧ ClsAt W W.heap.size A len f := by
  obtain ⟨fuel, hf⟩ := h
  rcases fields_open Try.underlying58 Try.underlying66 clFields (by kernel_rfl) hf with hcs | ⟨a, len', cap', hcs, hl, hm, hi⟩
  · simp [Value.cells] at hcs
    obtain ⟨rfl, rfl, rfl⟩ := hcs
    exact ⟨fun _ => ⟨0, 0, 0⟩, rfl, Nat.le_refl _, by unfold maxLen; omega, fun h => by omega⟩
  · simp [Value.cells] at hcs
    obtain ⟨rfl, rfl, rfl⟩ := hcs
    have hall : ∀ i, i < len → ∃ x : Cl, x.fits ∧ W.cell? (a.add (i * 3 + 0)) = some (.int .i64 x.what) ∧ W.cell? (a.add (i * 3 + 1)) = some (.int .i64 x.pos) ∧ W.cell? (a.add (i * 3 + 2)) = some (.int .i64 x.n) := by
      intro i him
      obtain ⟨v0, y0, n0, c0, t0⟩ := hi i him 0 _ rfl
      obtain ⟨v1, y1, n1, c1, t1⟩ := hi i him 1 _ rfl
      obtain ⟨v2, y2, n2, c2, t2⟩ := hi i him 2 _ rfl
      obtain ⟨k, rfl, hk1, hk2⟩ := int3_cell t0
      obtain ⟨z, rfl, hz1, hz2⟩ := int3_cell t1
      obtain ⟨u, rfl, hu1, hu2⟩ := int3_cell t2
      exact ⟨⟨k, z, u⟩, ⟨hk1, hk2, hz1, hz2, hu1, hu2⟩, c0, c1, c2⟩
    have hch : ∃ f : Nat → Cl, ∀ i, i < len → (f i).fits ∧ W.cell? (a.add (i * 3 + 0)) = some (.int .i64 (f i).what) ∧ W.cell? (a.add (i * 3 + 1)) = some (.int .i64 (f i).pos) ∧ W.cell? (a.add (i * 3 + 2)) = some (.int .i64 (f i).n) := by
      classical
      refine ⟨fun i => if hi : i < len then Classical.choose (hall i hi) else ⟨0, 0, 0⟩, fun i hi => ?_⟩
      simp only [dif_pos hi]
      exact Classical.choose_spec (hall i hi)
    clear hall
    obtain ⟨f, hf⟩ := hch
    refine ⟨f, rfl, hl, hm, fun hp => ?_⟩
    obtain ⟨b, off, spot⟩ := a
    obtain ⟨_, hc0, _⟩ := hf 0 hp
    have hspot : spot = none := by simpa [Addr.add] using World.cell?_spot hc0
    subst hspot
    refine ⟨b, off, rfl, World.block_lt_of_cell? W _ (by simpa [Addr.add] using hc0), fun i hi => ?_⟩
    obtain ⟨hfit, g0, g1, g2⟩ := hf i hi
    have hadd : ∀ k, (⟨b, off, none⟩ : Addr).add k = ⟨b, off + k, none⟩ := fun k => by unfold Addr.add; split <;> simp_all
    rw [hadd] at g0 g1 g2
    exact ⟨hfit, g0, by rw [Nat.add_assoc]; exact g1, by rw [Nat.add_assoc]; exact g2⟩

end Go.Proofs.Ytejmojldfffbnac

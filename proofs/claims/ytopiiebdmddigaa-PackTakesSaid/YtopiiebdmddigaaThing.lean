/-
  The law's Things, as they lie in memory; how an argument that is a slice of them is opened.
-/
import Derived.Test.YtopiiebdmddigaaRows
import Derived.Test.YtopiiebdmddigaaMem
import Derived.Deep.Slices
import Derived.Deep.Fields
import Derived.ChangeSame
import Derived.OpenShut
namespace Go.Proofs.Ytopiiebdmddigaa
open Go.RowKit Go.ChangeShapes Go.WideShapes
set_option linter.unusedVariables false

structure Thing where
  kind : Int
  n : Int
  v : Nat
  most : Nat
  b : List UInt8

def Thing.fits (x : Thing) : Prop := -9223372036854775808 ≤ x.kind ∧ x.kind ≤ 9223372036854775807 ∧ -9223372036854775808 ≤ x.n ∧ x.n ≤ 9223372036854775807 ∧ x.v < 18446744073709551616 ∧ x.most < 18446744073709551616

/-- One Thing in five cells from o on. -/
def ThingAt (w : World) (B blk o : Nat) (x : Thing) : Prop :=
  x.fits ∧ ∃ A c, w.cell? ⟨blk, o, none⟩ = some (.int .i64 x.kind) ∧ w.cell? ⟨blk, o + 1, none⟩ = some (.int .i64 x.n) ∧ w.cell? ⟨blk, o + 2, none⟩ = some (.int .u64 x.v) ∧ w.cell? ⟨blk, o + 3, none⟩ = some (.int .u64 x.most) ∧
    w.cell? ⟨blk, o + 4, none⟩ = some (.slice A x.b.length c) ∧ x.b.length ≤ c ∧ c ≤ maxLen ∧ Bs w B A x.b

def Things (w : World) (B : Nat) (A : Option Addr) (n : Nat) (f : Nat → Thing) : Prop :=
  0 < n → ∃ blk off, A = some ⟨blk, off, none⟩ ∧ blk < B ∧ ∀ i, i < n → ThingAt w B blk (off + i * 5) (f i)

theorem ThingAt.keep {w w' : World} {B blk o : Nat} {x : Thing} (h : ThingAt w B blk o x) (hb : blk < B) (hk : ∀ b o, b < B → w'.cell? ⟨b, o, none⟩ = w.cell? ⟨b, o, none⟩) : ThingAt w' B blk o x := by
  obtain ⟨hf, A, c, h0, h1, h2, h3, h4, h5, h6, h7⟩ := h
  exact ⟨hf, A, c, (hk _ _ hb).trans h0, (hk _ _ hb).trans h1, (hk _ _ hb).trans h2, (hk _ _ hb).trans h3, (hk _ _ hb).trans h4, h5, h6, h7.keep hk⟩

theorem Things.keep {w w' : World} {B n : Nat} {A : Option Addr} {f : Nat → Thing} (h : Things w B A n f) (hk : ∀ b o, b < B → w'.cell? ⟨b, o, none⟩ = w.cell? ⟨b, o, none⟩) : Things w' B A n f := fun hn => by
  obtain ⟨blk, off, e, hb, ht⟩ := h hn
  exact ⟨blk, off, e, hb, fun i hi => (ht i hi).keep hb hk⟩

theorem Things.below {w w' : World} {B B' n : Nat} {A : Option Addr} {f : Nat → Thing} (h : Things w B A n f) (hb : Below B' w w') (hB : B ≤ B') : Things w' B A n f :=
  h.keep fun b o hlt => hb.cell (p := ⟨b, o, none⟩) (show b < B' by omega)

theorem Things.more {w : World} {B B' n : Nat} {A : Option Addr} {f : Nat → Thing} (h : Things w B A n f) (hB : B ≤ B') : Things w B' A n f := fun hn => by
  obtain ⟨blk, off, e, hb, ht⟩ := h hn
  refine ⟨blk, off, e, by omega, fun i hi => ?_⟩
  obtain ⟨hf, A', c, h0, h1, h2, h3, h4, h5, h6, h7⟩ := ht i hi
  exact ⟨hf, A', c, h0, h1, h2, h3, h4, h5, h6, h7.more hB⟩

section
variable {H : Type} {enc : TypeId × Value → H} {P : Program} {w : World} {base : Nat} {spare : Nat → Bool} {held : Bool}

/-- A slice of structs of one-cell fields: where each field's cell stands, and that it reads. -/
theorem rows_open {t e : TypeId} {fs : Array Field} {fuel : Nat} {cs : List Value} {x : DataW H × List MemPlace} (ht : P.underlying t = some (.slice e)) (he : P.underlying e = some (.struct fs))
    (hone : Go.Deep.oneCellFields P fs = true) (hC : P.cellsOf e = fs.size) (h : DataW.trod enc P w base spare held fuel t cs = some x) :
    cs = [.slice none 0 0] ∨ ∃ (a : Addr) (len cap : Nat), cs = [.slice (some a) len cap] ∧ len ≤ cap ∧ cap ≤ maxLen ∧
      ∀ i, i < len → ∀ (j : Nat) (f : Field), fs[j]? = some f → ∃ (v : Value) (y : DataW H × List MemPlace) (n : Nat), w.cell? (a.add (i * fs.size + j)) = some v ∧ DataW.trod enc P w base spare held n f.type [v] = some y := by
  rcases Go.Deep.open_slice ht h with ⟨h0, _⟩ | ⟨a, len, cap, m, n, D, Pl, hcs, _, hl, hm, hmm, _, hi⟩
  · exact .inl h0
  · refine .inr ⟨a, len, cap, hcs, hl, hm, fun i him j f hj => ?_⟩
    have hle : len ≤ m := by rw [hmm]; split <;> omega
    obtain ⟨cs', hc, ht'⟩ := hi i (by omega)
    rw [hC] at hc
    obtain ⟨ys, n', _, _, hlen, hyl, hf⟩ := DataW.trod_struct he ht'
    obtain ⟨_, hcl, hat⟩ := World.cells?_some hc
    obtain ⟨ho, hk⟩ := Go.Deep.hone_of hone j f hj
    have hjl : j < fs.size := (Array.getElem?_eq_some_iff.1 hj).1
    have h1 := hf j f hj
    rw [ho, hk, List.drop_eq_getElem_cons (show j < cs'.length by omega)] at h1
    have hys : ys[j]? = some (ys[j]'(by omega)) := List.getElem?_eq_getElem (by omega)
    refine ⟨cs'[j]'(by omega), _, n', ?_, (show _ = _ from h1).trans hys⟩
    rw [← Go.Deep.add_add, hat j hjl]
    exact List.getElem?_eq_getElem (by omega)
end

theorem add_flat (b off k : Nat) : (⟨b, off, none⟩ : Addr).add k = ⟨b, off + k, none⟩ := by unfold Addr.add; split <;> simp_all

theorem oneFields : Go.Deep.oneCellFields Try.prog #[⟨"Kind", 3, 0, false, "", "", 0⟩, ⟨"N", 3, 1, false, "", "", 8⟩, ⟨"V", 26, 2, false, "", "", 16⟩, ⟨"Most", 26, 3, false, "", "", 24⟩, ⟨"B", 25, 4, false, "", "", 32⟩] = true := by kernel_rfl

theorem bytes_cell {H : Type} {enc : TypeId × Value → H} {W : World} {v : Value} {y : DataW H × List MemPlace} {n : Nat} (h : DataW.trod enc Try.prog W 0 (fun _ => true) true n 25 [v] = some y) :
    ∃ (A : Option Addr) (c : Nat) (l : List UInt8), v = .slice A l.length c ∧ l.length ≤ c ∧ c ≤ maxLen ∧ Bs W W.heap.size A l := by
  rcases open_ints Try.underlying25 Try.underlying5 (by kernel_rfl) h with ⟨hcs, _⟩ | ⟨x, l, c, zs, hcs, _, hl, hm, hz, _, hcell, hwz⟩
  · simp at hcs
    subst hcs
    exact ⟨none, 0, [], rfl, Nat.le_refl _, by unfold maxLen; omega, Bs.nil _ _ _⟩
  · simp at hcs
    subst hcs
    obtain ⟨l', hl', hb'⟩ := bs_of_ints (w := W) (len := l) (zs := zs) (by simp at hz; omega) hcell (fun n hn => bounds_u8 (hwz n hn))
    subst hl'
    exact ⟨some x, c, l', rfl, hl, hm, hb'⟩

theorem int_cell {H : Type} {enc : TypeId × Value → H} {W : World} {v : Value} {y : DataW H × List MemPlace} {n : Nat} (h : DataW.trod enc Try.prog W 0 (fun _ => true) true n 3 [v] = some y) :
    ∃ z, v = .int .i64 z ∧ -9223372036854775808 ≤ z ∧ z ≤ 9223372036854775807 := by
  obtain ⟨z, hcs, _, hw⟩ := DataW.trod_int Try.underlying3 h
  simp at hcs
  exact ⟨z, hcs, bounds_i64 hw⟩

theorem u64_cell {H : Type} {enc : TypeId × Value → H} {W : World} {v : Value} {y : DataW H × List MemPlace} {n : Nat} (h : DataW.trod enc Try.prog W 0 (fun _ => true) true n 26 [v] = some y) :
    ∃ z : Nat, v = .int .u64 z ∧ z < 18446744073709551616 := by
  obtain ⟨z, hcs, _, hw⟩ := DataW.trod_int Try.underlying26 h
  simp at hcs
  have hb := bounds_u64 hw
  obtain ⟨m, rfl⟩ := Int.eq_ofNat_of_zero_le hb.1
  exact ⟨m, hcs, by omega⟩

/-- An argument '[]Thing', opened. -/
theorem things_open {H : Type} {enc : TypeId × Value → H} {W : World} {A : Option Addr} {len cap : Nat} {d : DataW H} {p : List MemPlace} (h : DataW.Trod enc Try.prog W 0 (fun _ => true) true 22 (.slice A len cap) d p) :
    ∃ f : Nat → Thing, len ≤ cap ∧ cap ≤ maxLen ∧ Things W W.heap.size A len f := by
  obtain ⟨fuel, hf⟩ := h
  rcases rows_open Try.underlying22 Try.underlying28 oneFields (by kernel_rfl) hf with hcs | ⟨a, len', cap', hcs, hl, hm, hi⟩
  · simp [Value.cells] at hcs
    obtain ⟨rfl, rfl, rfl⟩ := hcs
    exact ⟨fun _ => ⟨0, 0, 0, 0, []⟩, Nat.le_refl _, by unfold maxLen; omega, fun h => by omega⟩
  · simp [Value.cells] at hcs
    obtain ⟨rfl, rfl, rfl⟩ := hcs
    have hall : ∀ i, i < len → ∃ x : Thing, x.fits ∧ ∃ A' c, W.cell? (a.add (i * 5 + 0)) = some (.int .i64 x.kind) ∧ W.cell? (a.add (i * 5 + 1)) = some (.int .i64 x.n) ∧ W.cell? (a.add (i * 5 + 2)) = some (.int .u64 x.v) ∧ W.cell? (a.add (i * 5 + 3)) = some (.int .u64 x.most) ∧
        W.cell? (a.add (i * 5 + 4)) = some (.slice A' x.b.length c) ∧ x.b.length ≤ c ∧ c ≤ maxLen ∧ Bs W W.heap.size A' x.b := by
      intro i him
      obtain ⟨v0, y0, n0, c0, t0⟩ := hi i him 0 _ rfl
      obtain ⟨v1, y1, n1, c1, t1⟩ := hi i him 1 _ rfl
      obtain ⟨v2, y2, n2, c2, t2⟩ := hi i him 2 _ rfl
      obtain ⟨v3, y3, n3, c3, t3⟩ := hi i him 3 _ rfl
      obtain ⟨v4, y4, n4, c4, t4⟩ := hi i him 4 _ rfl
      obtain ⟨k, rfl, hk1, hk2⟩ := int_cell t0
      obtain ⟨z, rfl, hz1, hz2⟩ := int_cell t1
      obtain ⟨v, rfl, hv⟩ := u64_cell t2
      obtain ⟨m, rfl, hm'⟩ := u64_cell t3
      obtain ⟨A', c, l, rfl, hl', hc', hb'⟩ := bytes_cell t4
      exact ⟨⟨k, z, v, m, l⟩, ⟨hk1, hk2, hz1, hz2, hv, hm'⟩, A', c, c0, c1, c2, c3, c4, hl', hc', hb'⟩
    have hch : ∃ f : Nat → Thing, ∀ i, i < len → (f i).fits ∧ ∃ A' c, W.cell? (a.add (i * 5 + 0)) = some (.int .i64 (f i).kind) ∧ W.cell? (a.add (i * 5 + 1)) = some (.int .i64 (f i).n) ∧ W.cell? (a.add (i * 5 + 2)) = some (.int .u64 (f i).v) ∧ W.cell? (a.add (i * 5 + 3)) = some (.int .u64 (f i).most) ∧
        W.cell? (a.add (i * 5 + 4)) = some (.slice A' (f i).b.length c) ∧ (f i).b.length ≤ c ∧ c ≤ maxLen ∧ Bs W W.heap.size A' (f i).b := by
      classical
      refine ⟨fun i => if hi : i < len then Classical.choose (hall i hi) else ⟨0, 0, 0, 0, []⟩, fun i hi => ?_⟩
      simp only [dif_pos hi]
      exact Classical.choose_spec (hall i hi)
    clear hall
    obtain ⟨f, hf⟩ := hch
    refine ⟨f, hl, hm, fun hp => ?_⟩
    obtain ⟨b, off, spot⟩ := a
    obtain ⟨_, _, _, hc0, _⟩ := hf 0 hp
    have hspot : spot = none := by simpa [Addr.add] using World.cell?_spot hc0
    subst hspot
    refine ⟨b, off, rfl, World.block_lt_of_cell? W _ (by simpa [Addr.add] using hc0), fun i hi => ?_⟩
    obtain ⟨hfit, A', c, g0, g1, g2, g3, g4, g5, g6, g7⟩ := hf i hi
    simp only [add_flat] at g0 g1 g2 g3 g4
    exact ⟨hfit, A', c, by simpa using g0, by rw [Nat.add_assoc]; exact g1, by rw [Nat.add_assoc]; exact g2, by rw [Nat.add_assoc]; exact g3, by rw [Nat.add_assoc]; exact g4, g5, g6, g7⟩

end Go.Proofs.Ytopiiebdmddigaa

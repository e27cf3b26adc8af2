/-
  Plain words and lemmas on bytes in memory, for the pack layer's proofs. No program, no dump.
-/
import Derived.Maps.AppendAt
import Derived.Lib.VarintMem
import Derived.Lib.Slices
import Derived.Lib.Hide
import Derived.OwnWalk
import Derived.WalkKit
import Derived.Below
import Derived.Deep.Draws
namespace Go.Proofs.YtfelacpaaialfaaDoor
open Go.RowKit

/-- The slice's address A leads, where there is a byte, to the bytes l, in a block below B. -/
def Bs (w : World) (B : Nat) (A : Option Addr) (l : List UInt8) : Prop :=
  0 < l.length → ∃ b off, A = some ⟨b, off, none⟩ ∧ b < B ∧ ∀ j, j < l.length → w.cell? ⟨b, off + j, none⟩ = some (.int .u8 ((l.getD j 0).toNat : Nat))

/-- The value v is a row of the call's own (from block B on) with the bytes l. -/
def Owns (w : World) (B : Nat) (T : TypeId) (v : Value) (l : List UInt8) : Prop := w.ownsRow B T 1 v l.length (Lib.byteCells l)

/-- From w to w' nothing has turned but the row of v, whose place v' takes, or a new one. -/
def Grew (w w' : World) (v v' : Value) : Prop := w.grownBy w' v.ownBlock ∧ (v'.ownBlock = v.ownBlock ∨ ∃ k, v'.ownBlock = some k ∧ w.heap.size ≤ k)

theorem Bs.nil (w : World) (B : Nat) (A : Option Addr) : Bs w B A [] := fun h => absurd h (by simp)

theorem Bs.keep {w w' : World} {B : Nat} {A : Option Addr} {l : List UInt8} (h : Bs w B A l) (hk : ∀ b o, b < B → w'.cell? ⟨b, o, none⟩ = w.cell? ⟨b, o, none⟩) : Bs w' B A l := fun hn => by
  obtain ⟨b, off, e, hb, hc⟩ := h hn
  exact ⟨b, off, e, hb, fun j hj => (hk b _ hb).trans (hc j hj)⟩

theorem Bs.more {w : World} {B B' : Nat} {A : Option Addr} {l : List UInt8} (h : Bs w B A l) (hB : B ≤ B') : Bs w B' A l := fun hn => by
  obtain ⟨b, off, e, hb, hc⟩ := h hn
  exact ⟨b, off, e, by omega, hc⟩

theorem Bs.below {w w' : World} {B B' : Nat} {A : Option Addr} {l : List UInt8} (h : Bs w B A l) (hb : Below B' w w') (hB : B ≤ B') : Bs w' B A l :=
  h.keep fun b o hlt => hb.cell (p := ⟨b, o, none⟩) (show b < B' by omega)

theorem Bs.drewN {w : World} {B : Nat} {A : Option Addr} {l : List UInt8} (h : Bs w B A l) (n : Nat) : Bs (w.drewN n) B A l := h

theorem Bs.grown {w w' : World} {B : Nat} {A : Option Addr} {l : List UInt8} {row : Option Nat} (h : Bs w B A l) (hg : w.grownBy w' row) (hB : B ≤ w.heap.size) (hr : ∀ k, row = some k → B ≤ k) : Bs w' B A l :=
  h.keep fun b o hlt => World.cell?_of_block (hg.block b (by omega) (fun e => by have := hr b e.symm; omega))

theorem byteCells_get {l : List UInt8} {j : Nat} (h : j < l.length) : (Lib.byteCells l)[j]? = some (.int .u8 ((l.getD j 0).toNat : Nat)) := by
  simp [Lib.byteCells, List.getD, h]

/-- A row of the call's own, as bytes in memory. -/
theorem Owns.bs {w : World} {B : Nat} {T : TypeId} {A : Option Addr} {n c : Nat} {l : List UInt8} (h : Owns w B T (.slice A n c) l) : n = l.length ∧ Bs w w.heap.size A l := by
  rcases h.2 with ⟨hv, hn⟩ | ⟨g, cap, cur, hv, _, hg, _⟩
  · injection hv with h1 h2 h3
    refine ⟨by omega, fun hp => by omega⟩
  · injection hv with h1 h2 h3
    subst h1
    refine ⟨h2, fun hp => ⟨g, 0, rfl, (Array.getElem?_eq_some_iff.1 hg).1, fun j hj => ?_⟩⟩
    have := World.ownsRow.cells h (g := g) rfl j _ (byteCells_get hj)
    have hadd : (⟨g, 0, none⟩ : Addr).add j = ⟨g, 0 + j, none⟩ := by unfold Addr.add; split <;> simp_all
    rw [hadd] at this
    exact this

theorem Owns.slice {w : World} {B : Nat} {T : TypeId} {v : Value} {l : List UInt8} (h : Owns w B T v l) : ∃ A c, v = .slice A l.length c ∧ l.length ≤ c ∧ c ≤ maxLen ∧ Bs w w.heap.size A l := by
  have hc := h
  rcases h.2 with ⟨rfl, hn⟩ | ⟨g, cap, cur, rfl, _, _, hle, hm, _⟩
  · have : l.length = 0 := hn
    exact ⟨none, 0, by rw [this], by omega, by unfold maxLen; omega, (Owns.bs hc).2⟩
  · exact ⟨_, cap, rfl, hle, hm, (Owns.bs hc).2⟩

theorem Owns.nil (w : World) (B : Nat) (T : TypeId) : Owns w B T (.slice none 0 0) [] := World.ownsRow_nil w B T 1

theorem Owns.kept {w w' : World} {B : Nat} {T : TypeId} {v : Value} {l : List UInt8} {row : Option Nat} (h : Owns w B T v l) (hg : w.grownBy w' row) (hne : v.ownBlock = none ∨ v.ownBlock ≠ row) : Owns w' B T v l :=
  World.ownsRow.kept h hg hne

/-- A row of the call's own stays where only what lies from block B' on has turned, and it lies below. -/
theorem Owns.below {w w' : World} {B B' : Nat} {T : TypeId} {v : Value} {l : List UInt8} (h : Owns w B T v l) (hb : Below B' w w') (hB : ∀ k, v.ownBlock = some k → k < B') : Owns w' B T v l := by
  refine ⟨h.1, ?_⟩
  rcases h.2 with hn | ⟨g, cap, cur, rfl, h1, hg, rest⟩
  · exact .inl hn
  · exact .inr ⟨g, cap, cur, rfl, h1, (hb.block g (hB g rfl)).trans hg, rest⟩

theorem Owns.base {w : World} {B B' : Nat} {T : TypeId} {v : Value} {l : List UInt8} (h : Owns w B T v l) (hB : B' ≤ B) : Owns w B' T v l := by
  refine ⟨h.1, ?_⟩
  rcases h.2 with hn | ⟨g, cap, cur, rfl, h1, rest⟩
  · exact .inl hn
  · exact .inr ⟨g, cap, cur, rfl, by omega, rest⟩

theorem Owns.drewN {w : World} {B : Nat} {T : TypeId} {v : Value} {l : List UInt8} (h : Owns w B T v l) (n : Nat) : Owns (w.drewN n) B T v l := h

theorem Owns.lt {w : World} {B : Nat} {T : TypeId} {v : Value} {l : List UInt8} (h : Owns w B T v l) : ∀ k, v.ownBlock = some k → B ≤ k ∧ k < w.heap.size := World.ownsRow.lt h

theorem Grew.refl (w : World) (v : Value) : Grew w w v v := ⟨World.grownBy.refl w _, .inl rfl⟩

/-- As 'Below': whatever lies under B, where the row lies from B on. -/
theorem Grew.below {w w' : World} {B : Nat} {v v' : Value} (h : Grew w w' v v') (hB : B ≤ w.heap.size) (hr : ∀ k, v.ownBlock = some k → B ≤ k) : Below B w w' :=
  (Below.refl B w).grown h.1 hB hr

theorem Grew.trans {a b c : World} {u v x : Value} (h : Grew a b u v) (k : Grew b c v x) : Grew a c u x := by
  have hs := h.1.size
  have ks := k.1.size
  refine ⟨⟨k.1.os.trans h.1.os, k.1.tape.trans h.1.tape, k.1.output.trans h.1.output, by omega, fun i hi hne => ?_⟩, ?_⟩
  · rw [k.1.block i (by omega) ?_, h.1.block i hi hne]
    rcases h.2 with e | ⟨g, e, hg⟩
    · rw [e]; exact hne
    · rw [e]; intro e2; injection e2 with e2; omega
  · rcases k.2 with e | ⟨g, e, hg⟩
    · rcases h.2 with e2 | ⟨g, e2, hg⟩
      · exact .inl (e.trans e2)
      · exact .inr ⟨g, e.trans e2, hg⟩
    · exact .inr ⟨g, e, by omega⟩

theorem Grew.alloc {a b : World} {u v : Value} (h : Grew a b u v) (o : Obj) : Grew a (b.alloc o) u v := by
  have hs := h.1.size
  refine ⟨⟨h.1.os, h.1.tape, h.1.output, by simp; omega, fun i hi hne => ?_⟩, h.2⟩
  rw [Below.heap_alloc b o i (by omega)]
  exact h.1.block i hi hne

theorem Grew.drew {a b : World} {u v : Value} (h : Grew a b u v) : Grew a b.drew u v := ⟨⟨h.1.os, h.1.tape, h.1.output, h.1.size, h.1.block⟩, h.2⟩
theorem Grew.drewN {a b : World} {u v : Value} (h : Grew a b u v) (n : Nat) : Grew a (b.drewN n) u v := ⟨⟨h.1.os, h.1.tape, h.1.output, h.1.size, h.1.block⟩, h.2⟩

theorem Owns.snoc {w : World} {B : Nat} {T : TypeId} {v : Value} {l : List UInt8} {a n : Nat} {z : Int} (ha : a < 256) (hn : n = l.length + 1) (hz : z = (a : Int)) (h : w.ownsRow B T 1 v n (Lib.byteCells l ++ [.int .u8 z])) : Owns w B T v (l ++ [a.toUInt8]) := by
  subst hn hz
  unfold Owns
  rw [Lib.byteCells_snoc l ha]
  simpa using h

/-- What the law on append leaves. -/
theorem Grew.step {a b c : World} {u v x : Value} (h : Grew a b u v) (hg : b.grownBy c v.ownBlock) (hp : x.ownBlock = v.ownBlock ∨ x.ownBlock = some b.heap.size) : Grew a c u x :=
  h.trans ⟨hg, hp.imp id fun e => ⟨_, e, Nat.le_refl _⟩⟩

theorem Bs.alloc {w : World} {B : Nat} {A : Option Addr} {l : List UInt8} (h : Bs w B A l) (hB : B ≤ w.heap.size) (o : Obj) : Bs (w.alloc o) B A l :=
  h.keep fun b o' hlt => World.cell?_alloc_lt w o ⟨b, o', none⟩ (show b < w.heap.size by omega)

/-- Bytes that stand in a new block. -/
theorem Bs.new (w : World) (l : List UInt8) (T : TypeId) (cs : Array Value) (h : cs = (Lib.byteCells l).toArray) : Bs (w.alloc (.cells cs T)) (w.heap.size + 1) (some ⟨w.heap.size, 0, none⟩) l := fun _ => by
  refine ⟨w.heap.size, 0, rfl, by omega, fun j hj => ?_⟩
  rw [cell_of_row (w.alloc (.cells cs T)) w.heap.size (0 + j) cs T (0, 0) (heap_alloc_new w _), h]
  simpa using byteCells_get hj

theorem Below.dN {B : Nat} {a w : World} (h : Below B a w) (n : Nat) : Below B a (w.drewN n) := h.trans ⟨rfl, rfl, rfl, Nat.le_refl _, fun _ _ => rfl⟩

/-- Nothing but draws. -/
def Drawn (w w' : World) : Prop := ∃ n, w' = w.drewN n
theorem Drawn.refl (w : World) : Drawn w w := ⟨0, rfl⟩
theorem Drawn.mk (w : World) (n : Nat) : Drawn w (w.drewN n) := ⟨n, rfl⟩
theorem Drawn.drewN {w w' : World} (h : Drawn w w') (n : Nat) : Drawn w (w'.drewN n) := by
  obtain ⟨m, rfl⟩ := h
  exact ⟨m + n, by simp [World.drewN, Nat.add_assoc]⟩
theorem ret_bool {a b : Bool} (h : a = b) : Ending.returned (.bool a) = .returned (.bool b) := by rw [h]

theorem Bs.at_ {w : World} {B : Nat} {A : Option Addr} {l : List UInt8} (h : Bs w B A l) {k : Nat} (hk : k < l.length) : ∃ b off x, A = some ⟨b, off, none⟩ ∧ b < B ∧ w.cell? ⟨b, off + k, none⟩ = some (.int .u8 (x : Nat)) ∧ x < 256 ∧ Hid ((l.getD k 0).toNat = x) := by
  obtain ⟨b, off, e, hb, hc⟩ := h (by omega)
  exact ⟨b, off, _, e, hb, hc k hk, UInt8.toNat_lt _, rfl⟩

theorem take_succ_eq {l m : List UInt8} {k : Nat} (hl : k < l.length) (hm : k < m.length) (h : l.take k = m.take k) (he : (l.getD k 0).toNat = (m.getD k 0).toNat) : l.take (k + 1) = m.take (k + 1) := by
  have he := UInt8.toNat_inj.1 he
  rw [List.take_succ_eq_append_getElem hl, List.take_succ_eq_append_getElem hm, h]
  simp [List.getD, hl, hm] at he
  rw [he]

theorem ne_of_getD {l m : List UInt8} {k : Nat} (he : (l.getD k 0).toNat ≠ (m.getD k 0).toNat) : l ≠ m := fun e => he (by rw [e])

end Go.Proofs.YtfelacpaaialfaaDoor

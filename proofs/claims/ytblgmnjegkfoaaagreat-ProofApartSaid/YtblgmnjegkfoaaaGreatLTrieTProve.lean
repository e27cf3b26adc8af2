/-
  Prove of a trie.
-/
import Derived.Test.YtblgmnjegkfoaaaGreatLTrieBytesW
namespace Go.Proofs.YtblgmnjegkfoaaaGreat
open Go.RowKit Go.Shelf
set_option linter.unusedVariables false
set_option linter.unusedSimpArgs false

attribute [local go_sem] Oper.semAt_some

/-- A row of rows of bytes of the call's own, its bytes too from block B on. -/
def PRow (w : World) (B : Nat) (v : Value) (rs : List (List UInt8)) : Prop :=
  ∃ cs : List Value, w.ownsRow B 38 1 v rs.length cs ∧ ∀ (i : Nat) (r : List UInt8), rs[i]? = some r → ∃ (A : Option Addr) (c : Nat), cs[i]? = some (.slice A r.length c) ∧ r.length ≤ c ∧ c ≤ maxLen ∧ Bs w w.heap.size A r ∧ ∀ a : Addr, A = some a → 0 < r.length → v.ownBlock ≠ some a.block ∧ B ≤ a.block ∧ w.frozen? a = false
theorem PRow.nil (w : World) (B : Nat) : PRow w B (.slice none 0 0) [] := ⟨[], World.ownsRow_nil w B _ 1, fun i r h => by simp at h⟩
theorem PRow.toN {w : World} {B : Nat} {v : Value} {rs : List (List UInt8)} (h : PRow w B v rs) : NRow w B v rs := by
  obtain ⟨cs, h1, h2⟩ := h
  refine ⟨cs, h1, fun i r hr => ?_⟩
  obtain ⟨A, c, k1, k2, k3, k4, k5⟩ := h2 i r hr
  exact ⟨A, c, k1, k2, k3, k4, fun a e hp => (k5 a e hp).1⟩
theorem PRow.lt {w : World} {B : Nat} {v : Value} {rs : List (List UInt8)} (h : PRow w B v rs) : ∀ k, v.ownBlock = some k → B ≤ k ∧ k < w.heap.size := by
  obtain ⟨cs, h1, _⟩ := h
  exact World.ownsRow.lt h1
theorem PRow.base {w : World} {B B' : Nat} {v : Value} {rs : List (List UInt8)} (h : PRow w B v rs) (hB : B' ≤ B) : PRow w B' v rs := by
  obtain ⟨cs, h1, h2⟩ := h
  refine ⟨cs, ⟨h1.1, ?_⟩, fun i r hr => ?_⟩
  · rcases h1.2 with hn | ⟨g, cap, cur, rfl, e1, rest⟩
    · exact .inl hn
    · exact .inr ⟨g, cap, cur, rfl, Nat.le_trans hB e1, rest⟩
  · obtain ⟨A, c, k1, k2, k3, k4, k5⟩ := h2 i r hr
    exact ⟨A, c, k1, k2, k3, k4, fun a e hp => ⟨(k5 a e hp).1, Nat.le_trans hB (k5 a e hp).2.1, (k5 a e hp).2.2⟩⟩
theorem PRow.only {w w' : World} {B : Nat} {v : Value} {rs : List (List UInt8)} {R : Nat → Prop} (h : PRow w B v rs) (hO : Only R w w') (hR : ∀ k, B ≤ k → k < w.heap.size → ¬ R k) : PRow w' B v rs := by
  have hl := h.lt
  obtain ⟨cs, h1, h2⟩ := h
  refine ⟨cs, ⟨h1.1, ?_⟩, fun i r hr => ?_⟩
  · rcases h1.2 with hn | ⟨g, cap, cur, rfl, e1, hg, rest⟩
    · exact .inl hn
    · have hlt := (Array.getElem?_eq_some_iff.1 hg).1
      exact .inr ⟨g, cap, cur, rfl, e1, (hO.block g hlt (hR g e1 hlt)).trans hg, rest⟩
  · obtain ⟨A, c, k1, k2, k3, k4, k5⟩ := h2 i r hr
    refine ⟨A, c, k1, k2, k3, fun hp => ?_, fun a e hp => ?_⟩
    · obtain ⟨b, off, e, hlt, hcell⟩ := k4 hp
      refine ⟨b, off, e, Nat.lt_of_lt_of_le hlt hO.size, fun j hj => ?_⟩
      rw [← hcell j hj]
      exact World.cell?_of_block (hO.block b hlt (hR b (k5 _ e hp).2.1 hlt))
    · obtain ⟨b, off, e2, hlt, _⟩ := k4 hp
      rw [e] at e2
      injection e2 with e2
      subst e2
      obtain ⟨q1, q2, q3⟩ := k5 _ e hp
      exact ⟨q1, q2, (World.frozen?_of_block (hO.block b hlt (hR b q2 hlt))).trans q3⟩
theorem PRow.grownT {w w' : World} {row : Option Nat} {B : Nat} {v : Value} {rs : List (List UInt8)} (h : PRow w B v rs) (hg : w.grownBy w' row) (hr : ∀ r, row = some r → ∃ o : Obj, w.heap[r]? = some o ∧ o.isCells = false) : PRow w' B v rs := by
  obtain ⟨cs, h1, h2⟩ := h
  refine ⟨cs, ⟨h1.1, ?_⟩, fun i r hr' => ?_⟩
  · rcases h1.2 with hn | ⟨g, cap, cur, rfl, e1, hgb, rest⟩
    · exact .inl hn
    · refine .inr ⟨g, cap, cur, rfl, e1, ?_, rest⟩
      refine (hg.block g (Array.getElem?_eq_some_iff.1 hgb).1 (fun e => ?_)).trans hgb
      obtain ⟨o, ho, hc⟩ := hr g e.symm
      rw [hgb] at ho
      cases ho
      cases hc
  · obtain ⟨A, c, k1, k2, k3, k4, k5⟩ := h2 i r hr'
    refine ⟨A, c, k1, k2, k3, fun hp => ?_, fun a e hp => ?_⟩
    · obtain ⟨b, off, e, hlt, hcell⟩ := k4 hp
      exact ⟨b, off, e, Nat.lt_of_lt_of_le hlt hg.size, fun j hj => cell_kept (hcell j hj) hg hr⟩
    · obtain ⟨b, off, e2, hlt, hcell⟩ := k4 hp
      rw [e] at e2
      injection e2 with e2
      subst e2
      obtain ⟨q1, q2, q3⟩ := k5 _ e hp
      refine ⟨q1, q2, (World.frozen?_of_block (hg.block b hlt (fun e3 => ?_))).trans q3⟩
      obtain ⟨o, ho, hc⟩ := hr b e3.symm
      have h0 := hcell 0 hp
      cases o <;> simp_all [World.cell?, Obj.isCells]
theorem PRow.snoc {w w' : World} {B : Nat} {v v' : Value} {rs : List (List UInt8)} {cs : List Value} {Y : List UInt8} {A : Option Addr} {n c : Nat} (h1 : w'.ownsRow B 38 1 v' (rs.length + 1) (cs ++ [.slice A n c])) (hl : cs.length = rs.length * 1)
    (h2 : ∀ (i : Nat) (r : List UInt8), rs[i]? = some r → ∃ (A : Option Addr) (c : Nat), cs[i]? = some (.slice A r.length c) ∧ r.length ≤ c ∧ c ≤ maxLen ∧ Bs w w.heap.size A r ∧ ∀ a : Addr, A = some a → 0 < r.length → v.ownBlock ≠ some a.block ∧ B ≤ a.block ∧ w.frozen? a = false)
    (hg : w.grownBy w' v.ownBlock) (hp : v'.ownBlock = v.ownBlock ∨ v'.ownBlock = some w.heap.size) (hn : Y.length = n) (hc : n ≤ c) (hm : c ≤ maxLen) (hb : Bs w w.heap.size A Y) (ha : ∀ a : Addr, A = some a → 0 < Y.length → v.ownBlock ≠ some a.block ∧ B ≤ a.block ∧ w.frozen? a = false) : PRow w' B v' (rs ++ [Y]) := by
  have keep : ∀ (A : Option Addr) (r : List UInt8), Bs w w.heap.size A r → (∀ a : Addr, A = some a → 0 < r.length → v.ownBlock ≠ some a.block ∧ B ≤ a.block ∧ w.frozen? a = false) → Bs w' w'.heap.size A r ∧ ∀ a : Addr, A = some a → 0 < r.length → v'.ownBlock ≠ some a.block ∧ B ≤ a.block ∧ w'.frozen? a = false := by
    intro A r hb ha
    refine ⟨fun hp0 => ?_, fun a e h0 => ⟨?_, (ha a e h0).2.1, ?_⟩⟩
    · obtain ⟨b, off, e, hlt, hcell⟩ := hb hp0
      refine ⟨b, off, e, Nat.lt_of_lt_of_le hlt hg.size, fun j hj => ?_⟩
      rw [← hcell j hj]
      exact World.cell?_of_block (hg.block b hlt (fun e2 => (ha _ e hp0).1 e2.symm))
    · rcases hp with hp | hp
      · rw [hp]; exact (ha a e h0).1
      · rw [hp]
        obtain ⟨b, off, e2, hlt, _⟩ := hb h0
        rw [e] at e2
        injection e2 with e2
        subst e2
        intro e3
        injection e3 with e3
        simp only at e3
        omega
    · obtain ⟨b, off, e2, hlt, _⟩ := hb h0
      rw [e] at e2
      injection e2 with e2
      subst e2
      exact (World.frozen?_of_block (hg.block b hlt (fun e3 => (ha _ e h0).1 e3.symm))).trans (ha _ e h0).2.2
  subst hn
  refine ⟨cs ++ [.slice A Y.length c], by rw [List.length_append]; exact h1, fun i r hr => ?_⟩
  by_cases hi : i < rs.length
  · rw [List.getElem?_append_left hi] at hr
    obtain ⟨A', c', k1, k2, k3, k4, k5⟩ := h2 i r hr
    obtain ⟨q1, q2⟩ := keep A' r k4 k5
    exact ⟨A', c', by rw [List.getElem?_append_left (List.getElem?_eq_some_iff.1 k1).1]; exact k1, k2, k3, q1, q2⟩
  · have hlt := (List.getElem?_eq_some_iff.1 hr).1
    simp at hlt
    have hi2 : i = rs.length := by omega
    subst hi2
    rw [List.getElem?_append_right (Nat.le_refl _)] at hr
    simp at hr
    subst hr
    obtain ⟨q1, q2⟩ := keep A Y hb ha
    exact ⟨A, c, by rw [List.getElem?_append_right (by omega)]; simp [hl], hc, hm, q1, q2⟩

theorem Owns.froz {w : World} {B : Nat} {T : TypeId} {A : Option Addr} {n c : Nat} {l : List UInt8} (h : Owns w B T (.slice A n c) l) {a : Addr} (ha : A = some a) : w.frozen? a = false := by
  rcases h.2 with ⟨e, _⟩ | ⟨g, cap, cur, e, _, hg, _⟩
  · injection e with e
    rw [e] at ha; cases ha
  · injection e with e
    rw [e] at ha
    injection ha with ha
    subst ha
    exact frozen_of_row w _ _ _ _ hg

/-- What Prove has made of the first nodes. -/
def ProI (M : Wood) (B : Nat) (w : World) (pre : List (NodeOf M)) (W : World) : Prop :=
  (∃ v, Boxed W (w.heap.size + 1) 34 v ∧ PRow W B v (pre.map fun x => ndB M x.1) ∧ Stand M W ∧ B ≤ W.heap.size) ∧ Only (M.ndF 0) w W
theorem only_own {β : Type} {R : Nat → Prop} {w : World} {B : Nat} (hB : w.heap.size ≤ B) : OwnFrom B (fun (_ : β) W => Only R w W) := fun s W W' row h hg hr =>
  h.then (R' := fun k => row = some k) ⟨hg.os, hg.tape, hg.output, hg.size, fun k hk hn => hg.block k hk (fun e => hn e.symm)⟩ fun k hk => .inr (Nat.le_trans hB (hr k hk).1)
theorem ProI.own {M : Wood} {B B' : Nat} {w : World} (hB : w.heap.size ≤ B') : OwnFrom B' (ProI M B w) :=
  OwnFrom.and (Own.from (fun s X Y row ⟨v, h1, h2, h3, h4⟩ hg hr => ⟨v, boxed_grownT h1 hg hr, h2.grownT hg hr, h3.grown hg hr, Nat.le_trans h4 hg.size⟩) _) (only_own hB)
/-- What a round keeps. -/
def ProK (M : Wood) (b B : Nat) (X Y : World) : Prop := Only (fun k => M.ndF 0 k ∨ k = b ∨ B ≤ k) X Y ∧ (Stand M X → Stand M Y)

/-- What stands within a round's statement. -/
structure ProS (M : Wood) (W : World) (B x : Nat) (v0 : Value) (rs : List (List UInt8)) (Y : List UInt8) (G : World → Prop) (D : Nat → Prop) (s : Nat → Value) (w' : World) : Prop where
  e0 : D 0 → s 0 = v0
  e1 : D 1 → s 1 = .pointer (some ⟨x, 0, none⟩)
  pre : ¬ D 2 → Below W.heap.size W w'
  mid : D 2 → ¬ D 4 → Owns w' W.heap.size 5 (s 2) Y ∧ Stand M w' ∧ Only (M.ndF 0) W w'
  d3 : D 3 → ¬ D 4 → ∃ g, s 3 = .slice (some ⟨g, 0, none⟩) 1 1 ∧ Arr w' g 38 [s 2] ∧ W.heap.size ≤ g
  d4 : D 4 → ¬ D 5 → PRow w' B (s 4) (rs ++ [Y]) ∧ Stand M w' ∧ Only (fun k => M.ndF 0 k ∨ v0.ownBlock = some k) W w'
  z : D 5 → G w'
  o3 : D 3 → D 2
  o4 : D 4 → D 3
  o5 : D 5 → D 4
  o40 : D 4 → D 0
theorem ProS.ext {M : Wood} {W : World} {B x : Nat} {v0 : Value} {rs : List (List UInt8)} {Y : List UInt8} {G : World → Prop} {D D' : Nat → Prop} {s : Nat → Value} {w' : World} (h : ProS M W B x v0 rs Y G D s w') (hd : ∀ i, D i ↔ D' i) : ProS M W B x v0 rs Y G D' s w' := by
  have e : D = D' := funext fun i => propext (hd i)
  rw [← e]; exact h

def updP (s : Nat → Value) (i : Nat) (v : Value) : Nat → Value := fun j => if j = i then v else s j

theorem ProS.box0 {M : Wood} {W : World} {B x : Nat} {v0 : Value} {rs : List (List UInt8)} {Y : List UInt8} {G : World → Prop} {D : Nat → Prop} {s : Nat → Value} {w' : World} (h : ProS M W B x v0 rs Y G D s w') (h4 : ¬ D 4) {b n0 : Nat} (hV : Boxed W b 34 v0) (hnd : ∀ k, M.ndF 0 k → k < n0) (hb : n0 ≤ b) : Boxed w' b 34 v0 := by
  by_cases h2 : D 2
  · exact ((h.mid h2 h4).2.2.block b hV.lt (fun q => by have := hnd b q; omega)).trans hV
  · exact ((h.pre h2).block b hV.lt).trans hV
theorem ProS.put0 {M : Wood} {W : World} {B x : Nat} {v0 : Value} {rs : List (List UInt8)} {Y : List UInt8} {G : World → Prop} {D : Nat → Prop} {s : Nat → Value} {w' : World} (h : ProS M W B x v0 rs Y G D s w') : ProS M W B x v0 rs Y G (fun j => D j ∨ j = 0) (updP s 0 v0) w' := by
  have hd : ∀ j, j ≠ 0 → ((D j ∨ j = 0) ↔ D j) := fun j hj => by simp [hj]
  refine ⟨fun _ => rfl, fun q => ?_, fun q => h.pre (fun r => q (.inl r)), fun q r => ?_, fun q r => ?_, fun q r => ?_, fun q => h.z ((hd 5 (by decide)).1 q), fun q => .inl (h.o3 ((hd 3 (by decide)).1 q)), fun q => .inl (h.o4 ((hd 4 (by decide)).1 q)), fun q => .inl (h.o5 ((hd 5 (by decide)).1 q)), fun q => .inr rfl⟩
  · exact h.e1 ((hd 1 (by decide)).1 q)
  · exact h.mid ((hd 2 (by decide)).1 q) (fun p => r (.inl p))
  · exact h.d3 ((hd 3 (by decide)).1 q) (fun p => r (.inl p))
  · exact h.d4 ((hd 4 (by decide)).1 q) (fun p => r (.inl p))
theorem ProS.put1 {M : Wood} {W : World} {B x : Nat} {v0 : Value} {rs : List (List UInt8)} {Y : List UInt8} {G : World → Prop} {D : Nat → Prop} {s : Nat → Value} {w' : World} (h : ProS M W B x v0 rs Y G D s w') : ProS M W B x v0 rs Y G (fun j => D j ∨ j = 1) (updP s 1 (.pointer (some ⟨x, 0, none⟩))) w' := by
  have hd : ∀ j, j ≠ 1 → ((D j ∨ j = 1) ↔ D j) := fun j hj => by simp [hj]
  refine ⟨fun q => ?_, fun q => rfl, fun q => h.pre (fun r => q (.inl r)), fun q r => ?_, fun q r => ?_, fun q r => ?_, fun q => h.z ((hd 5 (by decide)).1 q), fun q => .inl (h.o3 ((hd 3 (by decide)).1 q)), fun q => .inl (h.o4 ((hd 4 (by decide)).1 q)), fun q => .inl (h.o5 ((hd 5 (by decide)).1 q)), fun q => .inl (h.o40 ((hd 4 (by decide)).1 q))⟩
  · exact h.e0 ((hd 0 (by decide)).1 q)
  · exact h.mid ((hd 2 (by decide)).1 q) (fun p => r (.inl p))
  · exact h.d3 ((hd 3 (by decide)).1 q) (fun p => r (.inl p))
  · exact h.d4 ((hd 4 (by decide)).1 q) (fun p => r (.inl p))
theorem ProS.put2 {M : Wood} {W : World} {B x : Nat} {v0 : Value} {rs : List (List UInt8)} {Y : List UInt8} {G : World → Prop} {D : Nat → Prop} {s : Nat → Value} {w' w2 : World} (h : ProS M W B x v0 rs Y G D s w') (h2 : ¬ D 2) {v : Value} (k1 : Owns w2 W.heap.size 5 v Y) (k2 : Stand M w2) (k3 : Only (M.ndF 0) W w2) : ProS M W B x v0 rs Y G (fun j => D j ∨ j = 2) (updP s 2 v) w2 := by
  have hd : ∀ j, j ≠ 2 → ((D j ∨ j = 2) ↔ D j) := fun j hj => by simp [hj]
  have n3 : ¬ D 3 := fun q => h2 (h.o3 q)
  have n4 : ¬ D 4 := fun q => n3 (h.o4 q)
  have n5 : ¬ D 5 := fun q => n4 (h.o5 q)
  refine ⟨fun q => h.e0 ((hd 0 (by decide)).1 q), fun q => h.e1 ((hd 1 (by decide)).1 q), fun q => absurd (.inr rfl) q, fun q r => ⟨k1, k2, k3⟩, fun q => absurd ((hd 3 (by decide)).1 q) n3, fun q => absurd ((hd 4 (by decide)).1 q) n4, fun q => absurd ((hd 5 (by decide)).1 q) n5, fun q => absurd ((hd 3 (by decide)).1 q) n3, fun q => absurd ((hd 4 (by decide)).1 q) n4, fun q => absurd ((hd 5 (by decide)).1 q) n5, fun q => absurd ((hd 4 (by decide)).1 q) n4⟩
theorem ProS.put3 {M : Wood} {W : World} {B x : Nat} {v0 : Value} {rs : List (List UInt8)} {Y : List UInt8} {G : World → Prop} {D : Nat → Prop} {s : Nat → Value} {w' : World} (h : ProS M W B x v0 rs Y G D s w') (h2 : D 2) (h3 : ¬ D 3) : ProS M W B x v0 rs Y G (fun j => D j ∨ j = 3) (updP s 3 (.slice (some ⟨w'.heap.size, 0, none⟩) 1 1)) (w'.alloc (.cells #[s 2] 38)) := by
  have hd : ∀ j, j ≠ 3 → ((D j ∨ j = 3) ↔ D j) := fun j hj => by simp [hj]
  have n4 : ¬ D 4 := fun q => h3 (h.o4 q)
  have n5 : ¬ D 5 := fun q => n4 (h.o5 q)
  obtain ⟨k1, k2, k3⟩ := h.mid h2 n4
  have hb : Below w'.heap.size w' (w'.alloc (.cells #[s 2] 38)) := (Below.refl _ w').alloc (Nat.le_refl _) _
  refine ⟨fun q => h.e0 ((hd 0 (by decide)).1 q), fun q => h.e1 ((hd 1 (by decide)).1 q), fun q => absurd (.inl h2) q, fun q r => ⟨k1.below hb (fun k hk => (k1.lt k hk).2), k2.up hb, k3.step hb⟩, fun q r => ⟨w'.heap.size, rfl, Arr.new w' _ [s 2], k3.size⟩, fun q => absurd ((hd 4 (by decide)).1 q) n4, fun q => absurd ((hd 5 (by decide)).1 q) n5, fun q => .inl h2, fun q => absurd ((hd 4 (by decide)).1 q) n4, fun q => absurd ((hd 5 (by decide)).1 q) n5, fun q => absurd ((hd 4 (by decide)).1 q) n4⟩
theorem ProS.put4 {M : Wood} {W : World} {B x : Nat} {v0 : Value} {rs : List (List UInt8)} {Y : List UInt8} {G : World → Prop} {D : Nat → Prop} {s : Nat → Value} {w' w2 : World} (h : ProS M W B x v0 rs Y G D s w') (h3 : D 3) (h0 : D 0) (h4 : ¬ D 4) {v : Value} (k1 : PRow w2 B v (rs ++ [Y])) (k2 : Stand M w2) (k3 : Only (fun k => M.ndF 0 k ∨ v0.ownBlock = some k) W w2) : ProS M W B x v0 rs Y G (fun j => D j ∨ j = 4) (updP s 4 v) w2 := by
  have hd : ∀ j, j ≠ 4 → ((D j ∨ j = 4) ↔ D j) := fun j hj => by simp [hj]
  have n5 : ¬ D 5 := fun q => h4 (h.o5 q)
  refine ⟨fun q => h.e0 ((hd 0 (by decide)).1 q), fun q => h.e1 ((hd 1 (by decide)).1 q), fun q => absurd (.inl (h.o3 h3)) q, fun q r => absurd (.inr rfl) r, fun q r => absurd (.inr rfl) r, fun q r => ⟨k1, k2, k3⟩, fun q => absurd ((hd 5 (by decide)).1 q) n5, fun q => .inl (h.o3 h3), fun q => .inl h3, fun q => absurd ((hd 5 (by decide)).1 q) n5, fun q => .inl h0⟩
theorem ProS.put5 {M : Wood} {W : World} {B x : Nat} {v0 : Value} {rs : List (List UInt8)} {Y : List UInt8} {G : World → Prop} {D : Nat → Prop} {s : Nat → Value} {w' w2 : World} (h : ProS M W B x v0 rs Y G D s w') (h4 : D 4) (k : G w2) : ProS M W B x v0 rs Y G (fun j => D j ∨ j = 5) s w2 := by
  have hd : ∀ j, j ≠ 5 → ((D j ∨ j = 5) ↔ D j) := fun j hj => by simp [hj]
  have h3 := h.o4 h4
  refine ⟨fun q => h.e0 ((hd 0 (by decide)).1 q), fun q => h.e1 ((hd 1 (by decide)).1 q), fun q => absurd (.inl (h.o3 h3)) q, fun q r => absurd (.inl h4) r, fun q r => absurd (.inl h4) r, fun q r => absurd (.inr rfl) r, fun q => k, fun q => .inl (h.o3 h3), fun q => .inl h3, fun q => .inl h4, fun q => .inl (h.o40 h4)⟩

theorem stand_high {M : Wood} {w X Y : World} {R : Nat → Prop} (hS : Stand M w) (h : Stand M X) (hO : Only R X Y) (hR : ∀ k, k < w.heap.size → ¬ R k) : Stand M Y := fun b n hb => by
  refine (h b n hb).keep hO (hR b (hS b n hb).lt) (fun h2 => ?_) (fun h1 ad ha hl => hR _ ((hS b n hb).valOf h1 ad ha hl))
  obtain ⟨cs, hcs⟩ := (hS b n hb).rowOf h2
  exact hR _ hcs.lt
theorem stepIn_append_ownP {F : Fence} {nF : Nat} {P : Program} {ops : Array Oper} {o : Oper} {a : Act} {w : World} {K : Act → World → Prop} {Q : Exit → Act → World → Prop} {E : Prop} (hgd : o.guard = none) (dd : Option Tmp) (hdd : o.dst = dd) (s x : Operand) (t : TypeId)
    (ho : o.op = .call { callee := .builtin .append, args := #[s, x], argTypes := #[t, t] })
    (base : Nat) (e : TypeId) (i : TypeInfo) (z : Value) (size bytes : Nat) (ht : P.underlying t = some (.slice e)) (hi : P.info? e = some i) (hz : i.zero = some z)
    (hsize : i.size = size) (hby : i.bytes = bytes) (hzs : z.cells.size = size) (hsz : 0 < size)
    (v : Value) (n : Nat) (xs : List Value) (hs : a.eval s = v) (hown : w.ownsRow base e size v n xs)
    (ad : Addr) (m c : Nat) (news : List Value) (hx : a.eval x = .slice (some ad) m c) (hl : news.length = m * size) (hnews : ∀ j u, news[j]? = some u → w.cell? (ad.add j) = some u) (h1 : ∀ u ∈ news, u.oneCell' = true)
    (h63 : n + m ≤ maxLen) (hbytes : (n + m) * bytes ≤ 140737488355328) (hbase : base ≤ w.heap.size)
    (h : ∀ v' w', w'.ownsRow base e size v' (n + m) (xs ++ news) → w.grownBy w' v.ownBlock → (v'.ownBlock = v.ownBlock ∨ v'.ownBlock = some w.heap.size) → K (a.put dd v') w') :
    if Region.wanted o (yielded ops a.tmps) = true then Oper.wpIn F nF P o a w K Q else E := by
  subst hdd
  have hw : Region.wanted o (yielded ops a.tmps) = true := by simp [Region.wanted, hgd]
  rw [if_pos hw]
  obtain ⟨v', w', hr, h2, h3, h4, h5⟩ := run_append_own_at (P := P) w base t o.type e i z size bytes ht hi hz hsize hby hzs hsz v n xs hown ad m c news hl hnews h1 h63 hbytes hbase
  unfold Oper.wpIn
  refine ⟨by simp [Oper.about, ho, resolve, Target.leads, Sem.run_pure], ?_⟩
  rw [Oper.semAt_plain F _ _ (by rw [ho]; intro c hc'; cases hc')]
  simp [execOp, ho, resolve, invoke, builtin, hs, hx, hr, Result.andThen]
  exact h v' w' h2 h3 h5

set_option maxRecDepth 100000 in
set_option maxHeartbeats 8000000 in
theorem prove_in (a : Nat) (p0 : Option Addr) (M : Wood) (key : List UInt8) (KL : List Value) (hKL : KL = Lib.byteCells key) (hk : key.length = 32) (bs : List Nat) (hlen : bs.length ≤ 100) (hway : IsWay M key p0 bs) (w : World) (hS : Stand M w) (hsep : M.Sep) (hroot : Arr w a 62 [.pointer p0]) :
    CallsIn Fence.wide 5 Tryz.prog 12 #[.pointer (some ⟨a, 0, none⟩), .agg KL.toArray] w fun e W' => ∃ v, e = .returned v ∧ PRow W' w.heap.size v (bs.map (ndB M)) ∧ Stand M W' ∧ Only (M.ndF 0) w W' := by
  have Hki := Lib.hid (show (Tryz.prog.info? 24).map (·.size) = some KL.toArray.size by rw [hKL, dig_size hk]; kernel_rfl)
  have HKL := Lib.hid hKL
  clear hKL
  have h15 : 1 ≤ 5 := by omega
  have hb3 : Below w.heap.size w ((w.alloc (.cells KL.toArray 24)).alloc (.cells #[.slice none 0 0] 34)) := ((Below.refl _ w).alloc (Nat.le_refl _) _).alloc (by simp) _
  have hX0 : Arr ((w.alloc (.cells KL.toArray 24)).alloc (.cells #[.slice none 0 0] 34)) w.heap.size 24 KL := (Arr.new w _ KL).alloc _
  refine callsIn_of_wp_marks Tryz.func12 rfl trivial ?_ rfl
  simp only [Tryz.ntmps12, List.size_toArray, List.length_cons, List.length_nil, Nat.reduceAdd, Nat.reduceSub, Array.replicate_succ, Array.replicate_zero, List.push_toArray, List.append_toArray, List.nil_append, List.cons_append]
  have hX0' : ((w.alloc (.cells KL.toArray 24)).alloc (.cells #[.slice none 0 0] 34)).heap[w.heap.size]? = some (.cells KL.toArray 24 (0, 0)) := hX0
  gi_wp2_with (first
    | (refine wpListIn_load_row rfl _ _ rfl w.heap.size rfl 24 KL.toArray (0, 0) _ hX0' Tryz.underlying24 rfl Hki.out ?_)
    | (refine ⟨trivial, ?_⟩; gi_at_call 30; refine (callsIn_wide.2 (way_run a KL _)).mono ?_; rintro e w3 ⟨rfl, hBt, hBk, hb33⟩))
  obtain ⟨W0, hW0⟩ : ∃ W0, ((w.alloc (.cells KL.toArray 24)).alloc (.cells #[.slice none 0 0] 34)) = W0 := ⟨_, rfl⟩
  have hsz : W0.heap.size = w.heap.size + 2 := by rw [← hW0]; simp
  have hV0 : Boxed W0 (w.heap.size + 1) 34 (.slice none 0 0) := by
    rw [← hW0]
    have h := Boxed.new (w.alloc (.cells KL.toArray 24)) 34 (.slice none 0 0)
    simpa using h
  rw [hW0] at hb3 hBt hBk hb33
  rw [hsz] at hBt hBk
  have hB3 : Below w.heap.size w w3 := hb3.trans (hb33.mono hb3.size)
  have hV3 : Boxed w3 (w.heap.size + 1) 34 (.slice none 0 0) := (hb33.block _ hV0.lt).trans hV0
  have hS3 := hS.up hB3
  have hr3 : Arr w3 a 62 [.pointer p0] := hroot.below hB3 hroot.lt
  have hz3 := hb33.size
  have hbtl := cell_ltC hBt
  have hWM : WayMem M (w.heap.size + 2 + 1) KL w3 := ⟨hS3, hBk⟩
  have hn1 : ∀ b n, M b = some n → b < w.heap.size := fun b n hb => (hS b n hb).lt
  have hnd : ∀ k, M.ndF 0 k → k < w.heap.size := fun k ⟨n, hn, _⟩ => hn1 k n hn
  have hwst := way_stopsS (5 - 1) (by omega) (w.heap.size + 2) (w.heap.size + 2 + 1) a p0 M key KL HKL.out hk bs (ProK M (w.heap.size + 1) w3.heap.size) w3 (fun X Y hXY hX => ?kp) hBt hbtl (hr3.cell 0) hr3.lt hWM hway
  case kp => exact ⟨hXY.2 hX.1, hX.2.only hXY.1 (fun q => by
    have := hBk.lt
    rcases q with q | q | q
    · have := hnd _ q; omega
    · omega
    · omega)⟩
  clear hW0 hX0 hX0' hV0 hBt hBk hb33 hb3
  refine wpIn_rangeFunc_ownG rfl h15 (gf := 53) (lb := #[.pointer (some ⟨w.heap.size + 2, 0, none⟩), .pointer (some ⟨w.heap.size + 2 + 1, 0, none⟩)]) ?hg trivial (enters_of Tryz.func53 (by kernel_rfl) rfl)
    hwst ?hKt ?hKb (Below.refl _ _) (fun _ => rfl)
    (ProI M w3.heap.size w) (fun c pre W => False) (ProI.own hB3.size) (fun c => ?ownX) ⟨⟨_, hV3, PRow.nil _ _, hS3, Nat.le_refl _⟩, Only.of_below hB3⟩
    (fun x => { tmps := #[.pointer (some ⟨a, 0, none⟩), .agg KL.toArray, undef, .pointer (some ⟨w.heap.size, 0, none⟩), .slice none 0 0, .pointer (some ⟨w.heap.size + 1, 0, none⟩), .pointer (some ⟨x.1, 0, none⟩), .pointer (some ⟨a, 0, none⟩), .agg KL.toArray, .func (.func 53) #[] #[.pointer (some ⟨w.heap.size + 1 + 1, 0, none⟩), .pointer (some ⟨w.heap.size + 1 + 1 + 1, 0, none⟩)], .pointer (some ⟨x.1, 0, none⟩), undef, undef, undef, undef, undef, undef], defers := [] }) ?assign ?body ?done ?stop
  case hg => rfl
  case ownX => exact fun s X Y row h hg hr => h
  case hKt => intro X Y Z h k; exact ⟨h.1.trans k.1, fun q => k.2 (h.2 q)⟩
  case hKb =>
    intro W l o o' hl ho hc _
    have hg := grownBy_putObj' W l o'
    exact ⟨⟨hg.os, hg.tape, hg.output, hg.size, fun k hk hn => hg.block k hk (fun e => hn (by injection e with e; rw [e]; exact .inr (.inr hl)))⟩, fun q => q.grown hg (fun r e => by injection e with e; subst e; exact ⟨o, ho, hc⟩)⟩
  case assign =>
    intro l x W K hK
    unfold encS
    gi_wp2
    exact hK
  case body =>
    rintro l pre x W ⟨⟨v0, hV, hrow, hSW, h3W⟩, hOw⟩ hlt
    obtain ⟨n, hn⟩ := x.2
    have hY := ndB_some hn
    obtain ⟨Y, hYd⟩ : ∃ Y, ndB M x.1 = Y := ⟨_, rfl⟩
    obtain ⟨rs, hrs⟩ : ∃ rs, (pre.map fun x => ndB M x.1) = rs := ⟨_, rfl⟩
    have hnext : ((pre ++ [x]).map fun x => ndB M x.1) = rs ++ [Y] := by rw [List.map_append, hrs]; simp [hYd]
    rw [hrs] at hrow
    rw [hYd] at hY
    have hrl : rs.length ≤ 100 := by rw [← hrs]; simp; omega
    have hVl := hV.lt
    have hVw : w.heap.size ≤ w.heap.size + 1 := Nat.le_succ _
    have hbt2 : w.heap.size + 2 < w3.heap.size := hbtl
    have Hbytes : Hid (∀ w', Below W.heap.size W w' → Calls Tryz.prog 31 #[.pointer (some ⟨x.1, 0, none⟩)] w' fun e w'' => ∃ v, e = .returned v ∧ Owns w'' W.heap.size 5 v Y ∧ Stand M w'' ∧ Only (M.ndF 0) W w'') := fun w' hb => by
      refine (bytes_wood M x.1 n hn hsep w' (hSW.up hb)).mono ?_
      rintro e w'' ⟨v, rfl, h1, h2, h3⟩
      exact ⟨v, rfl, by rw [hY]; exact h1.base hb.size, h2, (Only.of_below hb).trans (h3.more fun k _ ⟨m, m1, m2⟩ => ⟨m, m1, Nat.zero_le _⟩)⟩
    have Hrow := Lib.hid hrow
    have HV := Lib.hid hV
    have HSW := Lib.hid hSW
    have HOw := Lib.hid hOw
    have Hnext := Lib.hid hnext
    have Hnd := Lib.hid hnd
    have hwW := hOw.size
    clear hrow hV hSW hOw hnext hY hYd hrs hn hnd hn1 hwst
    refine wpIn_block ?_
    refine wpIn_region_inv (fun D a' w' => ∃ s : Nat → Value, a' = ⟨#[.pointer (some ⟨a, 0, none⟩), .agg KL.toArray, undef, .pointer (some ⟨w.heap.size, 0, none⟩), .slice none 0 0, .pointer (some ⟨w.heap.size + 1, 0, none⟩), .pointer (some ⟨x.1, 0, none⟩), .pointer (some ⟨a, 0, none⟩), .agg KL.toArray, .func (.func 53) #[] #[.pointer (some ⟨w.heap.size + 1 + 1, 0, none⟩), .pointer (some ⟨w.heap.size + 1 + 1 + 1, 0, none⟩)], .pointer (some ⟨x.1, 0, none⟩), s 0, s 1, s 2, s 3, s 4, undef], []⟩ ∧ ProS M W w3.heap.size x.1 v0 rs Y (fun w' => KeepsFrom w3.heap.size W w' ∧ ProK M (w.heap.size + 1) w3.heap.size W w' ∧ ProI M w3.heap.size w (pre ++ [x]) w') D s w') (by kernel_rfl) (by kernel_rfl) ⟨fun _ => undef, rfl, ?begin⟩ ?_ ?_ (fun D D' a' w' ⟨s, e, h⟩ hd => ⟨s, e, h.ext hd⟩)
    case begin => exact ⟨fun h => h.elim, fun h => h.elim, fun _ => ⟨rfl, rfl, rfl, Nat.le_refl _, fun _ _ => rfl⟩, fun h => h.elim, fun h => h.elim, fun h => h.elim, fun h => h.elim, fun h => h.elim, fun h => h.elim, fun h => h.elim, fun h => h.elim⟩
    · rintro D a' w' i o ⟨s, rfl, h⟩ ho hD hdep K hK
      have HK := Lib.hid hK
      clear hK
      have hi6 : i < 6 := (Array.getElem?_eq_some_iff.1 ho).1
      obtain rfl | rfl | rfl | rfl | rfl | rfl : i = 0 ∨ i = 1 ∨ i = 2 ∨ i = 3 ∨ i = 4 ∨ i = 5 := by omega
      · injection ho with ho
        subst ho
        have hbx : Boxed w' (w.heap.size + 1) 34 v0 := h.box0 (fun q => hD (h.o40 q)) HV.out Hnd.out hVw
        have hc := hbx.cell
        have hf := hbx.frozen
        go_simp
        exact HK.out _ _ ⟨updP s 0 v0, (by simp [updP]), h.put0⟩
      · injection ho with ho
        subst ho
        go_simp
        exact HK.out _ _ ⟨updP s 1 (.pointer (some ⟨x.1, 0, none⟩)), (by simp [updP]), h.put1⟩
      · injection ho with ho
        subst ho
        have d1 : D 1 := hdep ⟨1, .data⟩ (by simp) (by kernel_rfl)
        have e1 := h.e1 d1
        go_simp
        refine ⟨trivial, ?_⟩
        gi_at_call 31
        refine (CallsIn.inRound l (callsIn_wide.2 (Hbytes.out w' (h.pre hD)))).mono ?_
        rintro e w5 ⟨v5, rfl, hO5, hS5, hn5⟩
        exact HK.out _ _ ⟨updP s 2 v5, (by simp [updP, e1]), h.put2 hD hO5 hS5 hn5⟩
      · injection ho with ho
        subst ho
        have d2 : D 2 := hdep ⟨2, .data⟩ (by simp) (by kernel_rfl)
        have d4 : ¬ D 4 := fun q => hD (h.o4 q)
        obtain ⟨A5, c5, e5, _⟩ := (h.mid d2 d4).1.slice
        go_simp
        refine HK.out _ _ ⟨updP s 3 (.slice (some ⟨w'.heap.size, 0, none⟩) 1 1), (by simp [updP, e5]), ?_⟩
        have hp := h.put3 d2 hD
        rw [e5] at hp
        exact hp
      · injection ho with ho
        subst ho
        have d3 : D 3 := hdep ⟨3, .data⟩ (by simp) (by kernel_rfl)
        have d0 : D 0 := hdep ⟨0, .data⟩ (by simp) (by kernel_rfl)
        have d2 := h.o3 d3
        obtain ⟨k1, k2, k3⟩ := h.mid d2 hD
        obtain ⟨g, e3, hg, hgW⟩ := h.d3 d3 hD
        have e0 := h.e0 d0
        have hlo5 := k1.lt
        obtain ⟨A5, c5, e5, h51, h52, h53⟩ := k1.slice
        rw [e5] at hg hlo5 k1
        have hrow' := Hrow.out.only k3 (fun k hk _ q => by have := Hnd.out k q; omega)
        have hlo := Hrow.out.lt
        obtain ⟨cs, c1, c2⟩ := hrow'
        obtain ⟨i0, hi, hz0, hz1, hz2⟩ := info_parts rowAllI
        refine stepIn_append_ownP rfl (some 15) rfl _ _ 34 rfl w3.heap.size 38 i0 (.slice none 0 0) 1 24 Tryz.underlying34 hi hz0 hz1 hz2 rfl (by decide) v0 rs.length cs e0 c1 ⟨g, 0, none⟩ 1 1 [.slice A5 Y.length c5] e3 rfl (fun j u hj => by
          match j, hj with
          | 0, hj => simp at hj; subst hj; exact hg.cell 0) (fun u hu => by simp at hu; subst hu; rfl) (by unfold maxLen; omega) (by omega) (by have := k3.size; omega) ?_
        intro v' w2 hown' hgrow hplace
        have hr2 : PRow w2 w3.heap.size v' (rs ++ [Y]) := PRow.snoc (w := w') hown' c1.1 c2 hgrow hplace rfl h51 h52 h53 (fun ad ea hp => ⟨fun q => by
          have h1 := (hlo5 ad.block (by rw [ea]; rfl)).1
          have h2 := (hlo _ q).2
          omega, by have h1 := (hlo5 ad.block (by rw [ea]; rfl)).1; omega, k1.froz ea⟩)
        have ho2 : Only (fun k => v0.ownBlock = some k) w' w2 := ⟨hgrow.os, hgrow.tape, hgrow.output, hgrow.size, fun k hk hn => hgrow.block k hk (fun e => hn e.symm)⟩
        exact HK.out _ _ ⟨updP s 4 v', (by simp [updP, Act.put]), h.put4 d3 d0 hD hr2 (stand_high hS k2 ho2 (fun k hk q => by have := (hlo k q).1; omega)) ((k3.more fun k _ q => .inl q).trans (ho2.more fun k _ q => .inr q))⟩
      · injection ho with ho
        subst ho
        have d4 : D 4 := hdep ⟨4, .data⟩ (by simp) (by kernel_rfl)
        obtain ⟨r4, s4, o4⟩ := h.d4 d4 hD
        have hlo := Hrow.out.lt
        have hbx : Boxed w' (w.heap.size + 1) 34 v0 := (o4.block _ HV.out.lt (fun q => q.elim (fun q => by have := Hnd.out _ q; omega) (fun q => by have := (hlo _ q).1; omega))).trans HV.out
        have hc := hbx.cell
        have hf := hbx.frozen
        obtain ⟨A4, c4, e4, _⟩ := r4.toN.rows
        go_simp
        have hp5 : _ := h.put5 (w2 := w'.setCell ⟨w.heap.size + 1, 0, none⟩ (s 4)) d4 ?g
        case g =>
          have ho : Only (fun k => k = w.heap.size + 1) w' (w'.setCell ⟨w.heap.size + 1, 0, none⟩ (s 4)) := (Only.refl (fun k => k = w.heap.size + 1) w').setCell (p := ⟨w.heap.size + 1, 0, none⟩) (.inl rfl) _
          have hob : Only (fun k => (M.ndF 0 k ∨ v0.ownBlock = some k) ∨ k = w.heap.size + 1) W (w'.setCell ⟨w.heap.size + 1, 0, none⟩ (s 4)) := (o4.more fun k _ q => .inl q).trans (ho.more fun k _ q => .inr q)
          have hS5 : Stand M (w'.setCell ⟨w.heap.size + 1, 0, none⟩ (s 4)) := stand_high hS s4 ho (fun k hk q => by omega)
          refine ⟨⟨hob.size, fun k o hBk hk hoc => (hob.block k (Array.getElem?_eq_some_iff.1 hk).1 (fun q => ?_)).trans hk⟩, ⟨hob.more (fun k _ q => ?_), fun _ => hS5⟩, ⟨s 4, hbx.set _, ?_, hS5, Nat.le_trans h3W hob.size⟩, HOw.out.then hob (fun k q => ?_)⟩
          · rcases q with (q | q) | q
            · have := Hnd.out _ q; omega
            · obtain ⟨cs, hcs, _⟩ := Hrow.out
              rcases hcs.2 with ⟨e, _⟩ | ⟨g, cap, cur, e, _, hgb, _⟩
              · rw [e] at q; cases q
              · rw [e] at q
                injection q with q
                subst q
                rw [hgb] at hk
                cases hk
                cases hoc
            · omega
          · rcases q with (q | q) | q
            · exact .inl q
            · exact .inr (.inr (hlo _ q).1)
            · exact .inr (.inl q)
          · rw [Hnext.out]
            exact r4.only ho (fun k hk _ q => by omega)
          · rcases q with (q | q) | q
            · exact .inl q
            · have := (hlo _ q).1; exact .inr (by omega)
            · exact .inr (by omega)
        rw [e4, show (rs ++ [Y]).length = rs.length + 1 by simp] at hp5
        exact HK.out _ _ ⟨s, (by simp [e4]), hp5⟩
    · rintro D a' w' ⟨s, rfl, h⟩ hall
      exact h.z (hall 5 (by decide))
  case done =>
    rintro D ys W hD hys ⟨⟨v0, hV, hrow, hSW, h3W⟩, hOw⟩ hK
    have hc := hV.cell
    gi_wp2
    refine ⟨by simp, .inl ⟨_, _, rfl, run_takeDeferred hK, ?_⟩⟩
    have hg := grownBy_putObj' W D (.deferred none)
    have hr : ∀ r, some D = some r → ∃ o : Obj, W.heap[r]? = some o ∧ o.isCells = false := fun r e => by injection e with e; subst e; exact ⟨_, hK, rfl⟩
    have hrows := (hrow.grownT hg hr).base hB3.size
    rw [show (ys.map fun x => ndB M x.1) = bs.map (ndB M) by rw [← hys, List.map_map]; rfl] at hrows
    exact ⟨_, results_tmp rfl _ _ _, v0, rfl, hrows, hSW.grown hg hr, hOw.then (R' := fun k => k = D) ⟨hg.os, hg.tape, hg.output, hg.size, fun k hk hn => hg.block k hk (fun e => hn (by injection e))⟩ (fun k hk => .inr (by have := hB3.size; omega))⟩
  case stop =>
    rintro D c pre W _ _ h _
    exact h.elim

/-- Prove of a trie: the nodes on the way to a key, as the document tells them. -/
theorem tprove_run (a : Nat) (p0 : Option Addr) (M : Wood) (l : List It) (hat : RootAt M p0 l) (key : List UInt8) (KL : List Value) (hKL : KL = Lib.byteCells key) (hk : key.length = 32) (w : World) (hS : Stand M w) (hsep : M.Sep) (hroot : Arr w a 62 [.pointer p0]) :
    Calls Tryz.prog 12 #[.pointer (some ⟨a, 0, none⟩), .agg KL.toArray] w fun e W' => ∃ v, e = .returned v ∧ PRow W' w.heap.size v (proveF key 65 l 0) ∧ Stand M W' ∧ Only (M.ndF 0) w W' := by
  rcases hat with ⟨rfl, rfl⟩ | ⟨b, nd, rfl, hb, rfl, hf⟩
  · rw [proveF_none]
    exact callsIn_wide.1 (prove_in a none M key KL hKL hk [] (by simp) rfl w hS hsep hroot)
  · obtain ⟨br, lb, nl, p1, p2, p3, p4, p5, p6, p7, p8, p9⟩ := way_ex M w hS key hk 65 b nd hb (by omega) (fun x hx i hi => absurd hi (by omega))
    have h := callsIn_wide.1 (prove_in a _ M key KL hKL hk (br ++ [lb]) (by rw [List.length_append]; simp; omega) p1 w hS hsep hroot)
    rw [way_proves hS key hk 65 b nd _ hb (by omega) (fun x hx i hi => absurd hi (by omega)) p1, hf] at h
    exact h
theorem forest_prove (B : Nat) (a : Nat) (l : List It) (ts : List (Nat × List It)) (key : List UInt8) (KL : List Value) (hKL : KL = Lib.byteCells key) (hk : key.length = 32) (w : World) (h : Forest B ((a, l) :: ts) w) :
    Calls Tryz.prog 12 #[.pointer (some ⟨a, 0, none⟩), .agg KL.toArray] w fun e w' => ∃ v, e = .returned v ∧ PRow w' w.heap.size v (proveF key 65 l 0) ∧ Forest B ((a, l) :: ts) w' ∧ Turns B w w' ∧ ∀ w2, Below w.heap.size w' w2 → Forest B ((a, l) :: ts) w2 := by
  obtain ⟨M, h1, h2, h3, h4⟩ := h
  obtain ⟨hBa, p, hA, hR⟩ := h4 (a, l) List.mem_cons_self
  refine (tprove_run a p M l hR key KL hKL hk w h1 h2 hA).mono ?_
  rintro e w' ⟨v, rfl, m0, m1, m3⟩
  have hA2 : ∀ x ∈ (a, l) :: ts, B ≤ x.1 ∧ ∃ p, Arr w x.1 62 [.pointer p] ∧ Arr w' x.1 62 [.pointer p] ∧ RootAt M p x.2 := fun x hx => by
    obtain ⟨k1, p, k2, k3⟩ := h4 x hx
    exact ⟨k1, p, k2, k2.only m3 (h1.offTrie k2 0), k3⟩
  refine ⟨v, rfl, m0, ⟨M, m1, h2, h3, fun x hx => ?_⟩, Only.more m3 fun k _ q => ⟨h3.lowB k 0 q, ?_⟩, fun w2 hb => ⟨M, h1.low m1 hb, h2, h3, fun x hx => ?_⟩⟩
  · obtain ⟨k1, p, k2, k2', k3⟩ := hA2 x hx
    exact ⟨k1, p, k2', k3⟩
  · obtain ⟨n, hn, _⟩ := q
    obtain ⟨cs, hcs⟩ := (h1 k n hn).typ
    exact ⟨_, cs, .inl rfl, hcs⟩
  · obtain ⟨k1, p, k2, k2', k3⟩ := hA2 x hx
    exact ⟨k1, p, (hb.block _ k2.lt).trans k2', k3⟩

end Go.Proofs.YtblgmnjegkfoaaaGreat

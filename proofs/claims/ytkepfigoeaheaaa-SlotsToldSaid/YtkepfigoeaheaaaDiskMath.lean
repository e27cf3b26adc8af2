/-
  A disk as it stands in memory.
-/
import Derived.Test.YtkepfigoeaheaaaArr
import Derived.Test.YtkepfigoeaheaaaShaMath
import Derived.Test.YtkepfigoeaheaaaDskBase
import Derived.Maps.GroupsBeside
import Derived.Maps.RangeWalk
import Derived.StillTailTactics
import Derived.Deep.MidRow
import Derived.Deep.DeepCutAuto
import Derived.Deep.CutBlock
import Derived.Laws.Rows
import Derived.Laws.Tables
namespace Go.Proofs.Ytkepfigoeaheaaa
open Go.RowKit
set_option linter.unusedVariables false

/-- Rows of sectors, as cells. -/
def secC (ss : List (List UInt8)) : List Value := ss.flatMap Lib.byteCells
theorem secC_cons (s : List UInt8) (ss : List (List UInt8)) : secC (s :: ss) = Lib.byteCells s ++ secC ss := by unfold secC; rw [List.flatMap_cons]
theorem secC_append (a b : List (List UInt8)) : secC (a ++ b) = secC a ++ secC b := by unfold secC; rw [List.flatMap_append]
theorem secC_length {ss : List (List UInt8)} (h : ∀ s ∈ ss, s.length = 64) : (secC ss).length = ss.length * 64 := by
  induction ss with
  | nil => rfl
  | cons s ss ih =>
    rw [secC_cons, List.length_append, Lib.byteCells_length, h s List.mem_cons_self, ih (fun x hx => h x (List.mem_cons_of_mem _ hx)), List.length_cons]
    omega
theorem secC_at : ∀ {ss : List (List UInt8)} (h : ∀ s ∈ ss, s.length = 64) {i : Nat} (hi : i < ss.length) (j : Nat) (v : Value) (hj : (Lib.byteCells (ss.getD i []))[j]? = some v), (secC ss)[i * 64 + j]? = some v
  | [], _, i, hi, _, _, _ => by simp at hi
  | s :: ss, h, 0, hi, j, v, hj => by
    have hj' : (Lib.byteCells s)[j]? = some v := hj
    rw [secC_cons, Nat.zero_mul, Nat.zero_add, List.getElem?_append_left (List.getElem?_eq_some_iff.1 hj').1]
    exact hj'
  | s :: ss, h, i + 1, hi, j, v, hj => by
    have := secC_at (fun x hx => h x (List.mem_cons_of_mem _ hx)) (i := i) (by simpa using hi) j v hj
    rw [secC_cons, List.getElem?_append_right (by rw [Lib.byteCells_length, h s List.mem_cons_self]; omega), Lib.byteCells_length, h s List.mem_cons_self, show (i + 1) * 64 + j - 64 = i * 64 + j by omega]
    exact this
theorem secC_set : ∀ {ss : List (List UInt8)} (h : ∀ s ∈ ss, s.length = 64) {i : Nat} (hi : i < ss.length) (x : List UInt8) (hx : x.length = 64),
    (secC ss).take (i * 64) ++ (Lib.byteCells x ++ (secC ss).drop (i * 64 + (Lib.byteCells x).length)) = secC (ss.set i x)
  | [], _, i, hi, _, _ => by simp at hi
  | s :: ss, h, 0, hi, x, hx => by
    have hs := h s List.mem_cons_self
    rw [List.set_cons_zero, secC_cons, secC_cons, Nat.zero_mul, Nat.zero_add, List.take_zero, List.nil_append, show (Lib.byteCells x).length = (Lib.byteCells s).length by rw [Lib.byteCells_length, Lib.byteCells_length, hx, hs], List.drop_left]
  | s :: ss, h, i + 1, hi, x, hx => by
    have hs := h s List.mem_cons_self
    have hsl : (Lib.byteCells s).length = 64 := by rw [Lib.byteCells_length, hs]
    have ih := secC_set (fun y hy => h y (List.mem_cons_of_mem _ hy)) (i := i) (by simpa using hi) x hx
    rw [List.set_cons_succ, secC_cons, secC_cons, ← ih, show (i + 1) * 64 = (Lib.byteCells s).length + i * 64 by rw [hsl]; omega, List.take_length_add_append, Nat.add_assoc, List.drop_length_add_append, List.append_assoc]

/-- A write that doesn't last yet: where, what, whether it is gone. -/
abbrev WrF := Nat × List UInt8 × Bool
def wrOne (x : WrF) : List Value := .int .i64 (x.1 : Nat) :: (Lib.byteCells x.2.1 ++ [.bool x.2.2])
def wrC (ws : List WrF) : List Value := ws.flatMap wrOne
theorem wrOne_length {x : WrF} (h : x.2.1.length = 64) : (wrOne x).length = 66 := by simp [wrOne, Lib.byteCells_length, h]
theorem wrC_append (a b : List WrF) : wrC (a ++ b) = wrC a ++ wrC b := by unfold wrC; rw [List.flatMap_append]
theorem wrC_one (x : WrF) : wrC [x] = wrOne x := by simp [wrC]

theorem sec_int_keyed : Go.Maps.Keyed Try.prog 3 := Go.Maps.int_keyed Try.underlying3

/-- A disk at block k: what is seen, what lasts, the writes that wait, by the sector; the fuse. F: its blocks. -/
structure DkW (w : World) (F : Nat → Prop) (k gs gl bm : Nat) (vw : Value) (base nm n : Nat) (S L : List (List UInt8)) (W : List WrF) (D : DataW Unit) (fu : Bool) (left : Int) : Prop where
  hk : Arr w k 98 [.slice (some ⟨gs, 0, none⟩) n n, .slice (some ⟨gl, 0, none⟩) n n, vw, .map (some bm), .bool fu, .int .i64 left]
  hs : Arr w gs 49 (secC S)
  hl : Arr w gl 49 (secC L)
  hw : w.ownsRow 0 102 66 vw W.length (wrC W)
  hm : w.ownsGroups Try.prog 3 base 3 .i64 bm nm D
  sh : w.Shuns bm (fun g => g = k ∨ g = gs ∨ g = gl ∨ g = bm ∨ vw.ownBlock = some g)
  n1 : 1 ≤ n
  n2 : n ≤ 65536
  lS : S.length = n
  lL : L.length = n
  s64 : ∀ s ∈ S, s.length = 64
  l64 : ∀ s ∈ L, s.length = 64
  wIn : ∀ x ∈ W, x.1 < n ∧ x.2.1.length = 64
  wN : W.length ≤ 100000
  nmW : nm ≤ W.length + 1
  bb : base ≤ w.heap.size
  f0 : 0 ≤ left
  f1 : left ≤ 9223372036854775807
  Fk : F k
  Fs : F gs
  Fl : F gl
  Fm : F bm
  Fw : ∀ j, vw.ownBlock = some j → F j
  Fr : ∀ es clock, w.heap[bm]? = some (.map es clock) → ∀ x ∈ es.toList, ∀ g, x.val.ownBlock = some g → F g
  Flt : ∀ b, F b → b < w.heap.size
  ks : k ≠ gs
  kl : k ≠ gl
  km : k ≠ bm
  sl : gs ≠ gl
  sm : gs ≠ bm
  lm : gl ≠ bm
  wk : vw.ownBlock ≠ some k
  ws : vw.ownBlock ≠ some gs
  wl : vw.ownBlock ≠ some gl
  wm : vw.ownBlock ≠ some bm

theorem Only.grown {R : Nat → Prop} {w w' : World} (h : Only R w w') (hR : ∀ k, ¬ R k) : w.grownBy w' none := ⟨h.os, h.tape, h.output, h.size, fun k hk _ => h.block k hk (hR k)⟩

theorem DkW.kept {w w' : World} {F : Nat → Prop} {k gs gl bm : Nat} {vw : Value} {base nm n : Nat} {S L : List (List UInt8)} {W : List WrF} {D : DataW Unit} {fu : Bool} {left : Int} (h : DkW w F k gs gl bm vw base nm n S L W D fu left)
    (hs : w.heap.size ≤ w'.heap.size) (hb : ∀ b, F b → w'.heap[b]? = w.heap[b]?) : DkW w' F k gs gl bm vw base nm n S L W D fu left := by
  have hbm := hb bm h.Fm
  have hown : ∀ {v : Value} {zs : List Int}, (∀ g, v.ownBlock = some g → F g) → w.ownsInts base 3 .i64 v zs → w'.ownsInts base 3 .i64 v zs := fun {v zs} hv ho => by
    refine ⟨⟨ho.1.1, ?_⟩, ho.2⟩
    rcases ho.1.2 with h0 | ⟨g, cap, cur, rfl, h1, h2, h3⟩
    · exact .inl h0
    · exact .inr ⟨g, cap, cur, rfl, h1, (hb g (hv g rfl)).trans h2, h3⟩
  refine { h with hk := (hb k h.Fk).trans h.hk, hs := (hb gs h.Fs).trans h.hs, hl := (hb gl h.Fl).trans h.hl, hw := ⟨h.hw.1, ?_⟩, hm := ?_, sh := fun es clock he => h.sh es clock (hbm.symm.trans he), Fr := fun es clock he => h.Fr es clock (hbm.symm.trans he), Flt := fun b hF => Nat.lt_of_lt_of_le (h.Flt b hF) hs, bb := Nat.le_trans h.bb hs }
  · rcases h.hw.2 with h0 | ⟨g, cap, cur, hv, h1, h2, h3⟩
    · exact .inl h0
    · exact .inr ⟨g, cap, cur, hv, h1, (hb g (h.Fw g (by rw [hv]; rfl))).trans h2, h3⟩
  · obtain ⟨es, clock, he, Ft, hsz, hD, hbb, hlen, hap⟩ := h.hm
    have hst : ∀ x ∈ es.toList, ∀ z, rowElem (H := Unit) w base 3 .i64 x.val = some z → rowElem w' base 3 .i64 x.val = some z := fun x hx z hz => by
      obtain ⟨zs, ho, rfl⟩ := rowElem_inv hz
      exact rowElem_mk (hown (fun g hg => h.Fr es clock he x hx g hg) ho)
    obtain ⟨F1, hmap, _⟩ := Ft.stay hst
    refine ⟨es, clock, hbm.trans he, F1, hsz, by rw [hmap]; exact hD, hbb, fun x hx zs ho => ?_, hap⟩
    obtain ⟨y, hy⟩ := Ft.reads x hx
    obtain ⟨z, hz, _⟩ := Go.WideElems.rd_val hy
    obtain ⟨zs0, ho0, _⟩ := rowElem_inv hz
    rw [ho.unique (hown (fun g hg => h.Fr es clock he x hx g hg) ho0)]
    exact hlen x hx zs0 ho0

/-- What is noted for a sector: the map turns, a row of it, and new blocks. -/
theorem DkW.noted {w w2 : World} {F : Nat → Prop} {k gs gl bm : Nat} {vw : Value} {base nm n : Nat} {S L : List (List UInt8)} {W : List WrF} {D D' : DataW Unit} {fu : Bool} {left : Int} (h : DkW w F k gs gl bm vw base nm n S L W D fu left)
    {v : Value} (hs : w.heap.size ≤ w2.heap.size) (hb : ∀ b, b < w.heap.size → v.ownBlock ≠ some b → b ≠ bm → w2.heap[b]? = w.heap[b]?) (hnm : nm ≤ W.length)
    (hm2 : w2.ownsGroups Try.prog 3 base 3 .i64 bm (nm + 1) D') (hv : ∀ g, v.ownBlock = some g → ¬ (g = k ∨ g = gs ∨ g = gl ∨ g = bm ∨ vw.ownBlock = some g))
    (h1 : w2.Shuns bm (fun g => g = k ∨ g = gs ∨ g = gl ∨ g = bm ∨ vw.ownBlock = some g)) (h2 : w2.Shuns bm (fun g => ¬ (F g ∨ (w.heap.size ≤ g ∧ g < w2.heap.size)))) :
    DkW w2 (fun b => F b ∨ (w.heap.size ≤ b ∧ b < w2.heap.size)) k gs gl bm vw base (nm + 1) n S L W D' fu left := by
  have hvk : v.ownBlock ≠ some k := fun e => hv k e (.inl rfl)
  have hvs : v.ownBlock ≠ some gs := fun e => hv gs e (.inr (.inl rfl))
  have hvl : v.ownBlock ≠ some gl := fun e => hv gl e (.inr (.inr (.inl rfl)))
  refine { h with hk := (hb k (h.Flt k h.Fk) hvk h.km).trans h.hk, hs := (hb gs (h.Flt gs h.Fs) hvs h.sm).trans h.hs, hl := (hb gl (h.Flt gl h.Fl) hvl h.lm).trans h.hl, hw := ⟨h.hw.1, ?_⟩, hm := hm2, sh := h1, nmW := by omega, bb := Nat.le_trans h.bb hs, Fk := .inl h.Fk, Fs := .inl h.Fs, Fl := .inl h.Fl, Fm := .inl h.Fm, Fw := fun j hj => .inl (h.Fw j hj), Fr := fun es clock he x hx g hg => Classical.byContradiction fun hn => h2 es clock he x hx g hg hn, Flt := ?_ }
  · rcases h.hw.2 with h0 | ⟨g, cap, cur, he, e1, e2, e3⟩
    · exact .inl h0
    · have hvw : vw.ownBlock = some g := by rw [he]; rfl
      exact .inr ⟨g, cap, cur, he, e1, (hb g (h.Flt g (h.Fw g hvw)) (fun e => hv g e (.inr (.inr (.inr (.inr hvw))))) (fun e => h.wm (e ▸ hvw))).trans e2, e3⟩
  · rintro b (hF | hF)
    · exact Nat.lt_of_lt_of_le (h.Flt b hF) hs
    · exact hF.2

/-- A sector is seen otherwise. -/
theorem DkW.see {w w2 : World} {F : Nat → Prop} {k gs gl bm : Nat} {vw : Value} {base nm n : Nat} {S L : List (List UInt8)} {W : List WrF} {D : DataW Unit} {fu : Bool} {left : Int} (h : DkW w F k gs gl bm vw base nm n S L W D fu left)
    {a : Nat} {s : List UInt8} (h64 : s.length = 64) (hs : w2.heap.size = w.heap.size) (hg : Arr w2 gs 49 (secC (S.set a s))) (hO : Only (fun b => b = gs) w w2) : DkW w2 F k gs gl bm vw base nm n (S.set a s) L W D fu left := by
  have hd : ∀ b, F b → b ≠ gs → w2.heap[b]? = w.heap[b]? := fun b hF hne => hO.block b (h.Flt b hF) hne
  have hown : ∀ {v : Value} {zs : List Int}, (∀ g, v.ownBlock = some g → F g ∧ g ≠ gs) → w.ownsInts base 3 .i64 v zs → w2.ownsInts base 3 .i64 v zs := fun {v zs} hv ho => by
    refine ⟨⟨ho.1.1, ?_⟩, ho.2⟩
    rcases ho.1.2 with h0 | ⟨g, cap, cur, rfl, h1, h2, h3⟩
    · exact .inl h0
    · exact .inr ⟨g, cap, cur, rfl, h1, (hd g (hv g rfl).1 (hv g rfl).2).trans h2, h3⟩
  have hbm := hd bm h.Fm (fun e => h.sm e.symm)
  refine { h with hk := (hd k h.Fk h.ks).trans h.hk, hs := hg, hl := (hd gl h.Fl (fun e => h.sl e.symm)).trans h.hl, hw := ⟨h.hw.1, ?_⟩, hm := ?_, sh := fun es clock he => h.sh es clock (hbm.symm.trans he), lS := by rw [List.length_set]; exact h.lS, s64 := ?_, bb := by rw [hs]; exact h.bb, Fr := fun es clock he => h.Fr es clock (hbm.symm.trans he), Flt := fun b hF => by rw [hs]; exact h.Flt b hF }
  · rcases h.hw.2 with h0 | ⟨g, cap, cur, he, e1, e2, e3⟩
    · exact .inl h0
    · have hvw : vw.ownBlock = some g := by rw [he]; rfl
      exact .inr ⟨g, cap, cur, he, e1, (hd g (h.Fw g hvw) (fun e => h.ws (e ▸ hvw))).trans e2, e3⟩
  · obtain ⟨es, clock, he, Ft, hsz, hD, hbb, hlen, hap⟩ := h.hm
    have hx : ∀ x ∈ es.toList, ∀ g, x.val.ownBlock = some g → F g ∧ g ≠ gs := fun x hx g hg => ⟨h.Fr es clock he x hx g hg, fun e => h.sh es clock he x hx g hg (.inr (.inl e))⟩
    have hst : ∀ x ∈ es.toList, ∀ z, rowElem (H := Unit) w base 3 .i64 x.val = some z → rowElem w2 base 3 .i64 x.val = some z := fun x hx' z hz => by
      obtain ⟨zs, ho, rfl⟩ := rowElem_inv hz
      exact rowElem_mk (hown (hx x hx') ho)
    obtain ⟨F1, hmap, _⟩ := Ft.stay hst
    refine ⟨es, clock, hbm.trans he, F1, hsz, by rw [hmap]; exact hD, hbb, fun x hx' zs ho => ?_, hap⟩
    obtain ⟨y, hy⟩ := Ft.reads x hx'
    obtain ⟨z, hz, _⟩ := Go.WideElems.rd_val hy
    obtain ⟨zs0, ho0, _⟩ := rowElem_inv hz
    rw [ho.unique (hown (hx x hx') ho0)]
    exact hlen x hx' zs0 ho0
  · intro x hx
    rcases List.mem_or_eq_of_mem_set hx with hx | hx
    · exact h.s64 x hx
    · rw [hx]; exact h64

end Go.Proofs.Ytkepfigoeaheaaa

/-
  What turns of a disk.
-/
import Derived.Test.YtkepfigoeaheaaaDiskLaws
namespace Go.Proofs.Ytkepfigoeaheaaa
open Go.RowKit
set_option linter.unusedVariables false

theorem Arr.setIn {g : Nat} {T : TypeId} : ∀ (vs : List Value) (off : Nat) (cs : List Value) (w : World), Arr w g T cs → off + vs.length ≤ cs.length → Arr (w.setCells g off vs) g T (cs.take off ++ (vs ++ cs.drop (off + vs.length)))
  | [], off, cs, w, h, hl => by
    show Arr w g T _
    simpa using h
  | v :: r, off, cs, w, h, hl => by
    have h1 := Arr.setIn r (off + 1) (cs.set off v) (w.setCell ⟨g, off, none⟩ v) (h.set off v) (by simp at hl ⊢; omega)
    have hlt : off < cs.length := by simp at hl; omega
    have e : (cs.set off v).take (off + 1) ++ (r ++ (cs.set off v).drop (off + 1 + r.length)) = cs.take off ++ (v :: r ++ cs.drop (off + (v :: r).length)) := by
      rw [List.take_succ_eq_append_getElem (by simpa using hlt), List.take_set_of_le (Nat.le_refl _), List.drop_set_of_lt (by omega)]
      simp
      congr 1
      omega
    rw [e] at h1
    exact h1
theorem Only.setIn {R : Nat → Prop} {a : World} {g : Nat} (hg : R g) : ∀ (vs : List Value) (off : Nat) (b : World), Only R a b → Only R a (b.setCells g off vs)
  | [], _, _, h => h
  | v :: r, off, b, h => Only.setIn hg r (off + 1) _ (h.setCell (p := ⟨g, off, none⟩) (.inl hg) v)
theorem setCells_size (g : Nat) : ∀ (vs : List Value) (off : Nat) (w : World), (w.setCells g off vs).heap.size = w.heap.size
  | [], _, _ => rfl
  | v :: r, off, w => by rw [World.setCells, setCells_size g r]; simp [World.setCell]
theorem there_of_arr {w : World} {g : Nat} {T : TypeId} {cs : List Value} (h : Arr w g T cs) {off n : Nat} (hn : off + n ≤ cs.length) : w.there g off n := fun j hj => ⟨by rw [h.cell, List.getElem?_eq_getElem (by omega)]; rfl, h.frozen _⟩

theorem DkW.drew {w : World} {F : Nat → Prop} {k gs gl bm : Nat} {vw : Value} {base nm n : Nat} {S L : List (List UInt8)} {W : List WrF} {D : DataW Unit} {fu : Bool} {left : Int} (h : DkW w F k gs gl bm vw base nm n S L W D fu left) : DkW w.drew F k gs gl bm vw base nm n S L W D fu left := h.kept (Nat.le_refl _) (fun _ _ => rfl)

/-- The struct, what is seen, what lasts turn; the writes and the map stay. -/
theorem DkW.turn {w w2 : World} {F : Nat → Prop} {k gs gl bm : Nat} {vw : Value} {base nm n : Nat} {S L S' L' : List (List UInt8)} {W : List WrF} {D : DataW Unit} {fu fu' : Bool} {left left' : Int} (h : DkW w F k gs gl bm vw base nm n S L W D fu left)
    (hsz : w.heap.size ≤ w2.heap.size) (hO : ∀ b, F b → b ≠ k → b ≠ gs → b ≠ gl → w2.heap[b]? = w.heap[b]?)
    (hk' : Arr w2 k 98 [.slice (some ⟨gs, 0, none⟩) n n, .slice (some ⟨gl, 0, none⟩) n n, vw, .map (some bm), .bool fu', .int .i64 left']) (hs' : Arr w2 gs 49 (secC S')) (hl' : Arr w2 gl 49 (secC L'))
    (lS : S'.length = n) (lL : L'.length = n) (s64 : ∀ s ∈ S', s.length = 64) (l64 : ∀ s ∈ L', s.length = 64) (f0 : 0 ≤ left') (f1 : left' ≤ 9223372036854775807) : DkW w2 F k gs gl bm vw base nm n S' L' W D fu' left' := by
  have hown : ∀ {v : Value} {zs : List Int}, (∀ g, v.ownBlock = some g → F g ∧ g ≠ k ∧ g ≠ gs ∧ g ≠ gl) → w.ownsInts base 3 .i64 v zs → w2.ownsInts base 3 .i64 v zs := fun {v zs} hv ho => by
    refine ⟨⟨ho.1.1, ?_⟩, ho.2⟩
    rcases ho.1.2 with h0 | ⟨g, cap, cur, rfl, h1, h2, h3⟩
    · exact .inl h0
    · obtain ⟨a1, a2, a3, a4⟩ := hv g rfl
      exact .inr ⟨g, cap, cur, rfl, h1, (hO g a1 a2 a3 a4).trans h2, h3⟩
  have hbm := hO bm h.Fm (fun e => h.km e.symm) (fun e => h.sm e.symm) (fun e => h.lm e.symm)
  refine { h with hk := hk', hs := hs', hl := hl', hw := ⟨h.hw.1, ?_⟩, hm := ?_, sh := fun es clock he => h.sh es clock (hbm.symm.trans he), lS := lS, lL := lL, s64 := s64, l64 := l64, f0 := f0, f1 := f1, bb := Nat.le_trans h.bb hsz, Fr := fun es clock he => h.Fr es clock (hbm.symm.trans he), Flt := fun b hF => Nat.lt_of_lt_of_le (h.Flt b hF) hsz }
  · rcases h.hw.2 with h0 | ⟨g, cap, cur, he, e1, e2, e3⟩
    · exact .inl h0
    · have hvw : vw.ownBlock = some g := by rw [he]; rfl
      exact .inr ⟨g, cap, cur, he, e1, (hO g (h.Fw g hvw) (fun e => h.wk (e ▸ hvw)) (fun e => h.ws (e ▸ hvw)) (fun e => h.wl (e ▸ hvw))).trans e2, e3⟩
  · obtain ⟨es, clock, he, Ft, hsz2, hD, hbb, hlen, hap⟩ := h.hm
    have hx : ∀ x ∈ es.toList, ∀ g, x.val.ownBlock = some g → F g ∧ g ≠ k ∧ g ≠ gs ∧ g ≠ gl := fun x hx g hg => ⟨h.Fr es clock he x hx g hg, fun e => h.sh es clock he x hx g hg (.inl e), fun e => h.sh es clock he x hx g hg (.inr (.inl e)), fun e => h.sh es clock he x hx g hg (.inr (.inr (.inl e)))⟩
    have hst : ∀ x ∈ es.toList, ∀ z, rowElem (H := Unit) w base 3 .i64 x.val = some z → rowElem w2 base 3 .i64 x.val = some z := fun x hx' z hz => by
      obtain ⟨zs, ho, rfl⟩ := rowElem_inv hz
      exact rowElem_mk (hown (hx x hx') ho)
    obtain ⟨F1, hmap, _⟩ := Ft.stay hst
    refine ⟨es, clock, hbm.trans he, F1, hsz2, by rw [hmap]; exact hD, hbb, fun x hx' zs ho => ?_, hap⟩
    obtain ⟨y, hy⟩ := Ft.reads x hx'
    obtain ⟨z, hz, _⟩ := Go.WideElems.rd_val hy
    obtain ⟨zs0, ho0, _⟩ := rowElem_inv hz
    rw [ho.unique (hown (hx x hx') ho0)]
    exact hlen x hx' zs0 ho0

/-- The row of writes has grown: the struct's cell, its own row turn, and new blocks. -/
theorem DkW.wrote {w w2 : World} {F : Nat → Prop} {k gs gl bm : Nat} {vw vw' : Value} {base nm n : Nat} {S L : List (List UInt8)} {W : List WrF} {D : DataW Unit} {fu : Bool} {left : Int} (h : DkW w F k gs gl bm vw base nm n S L W D fu left) {x : WrF}
    (hx : x.1 < n ∧ x.2.1.length = 64) (hN : W.length + 1 ≤ 100000) (hsz : w.heap.size ≤ w2.heap.size) (hO : ∀ b, b < w.heap.size → b ≠ k → vw.ownBlock ≠ some b → w2.heap[b]? = w.heap[b]?)
    (hk' : Arr w2 k 98 [.slice (some ⟨gs, 0, none⟩) n n, .slice (some ⟨gl, 0, none⟩) n n, vw', .map (some bm), .bool fu, .int .i64 left]) (hw' : w2.ownsRow 0 102 66 vw' (W ++ [x]).length (wrC (W ++ [x])))
    (hloc : vw'.ownBlock = vw.ownBlock ∨ ∃ g, vw'.ownBlock = some g ∧ w.heap.size ≤ g ∧ g < w2.heap.size) :
    DkW w2 (fun b => F b ∨ (w.heap.size ≤ b ∧ b < w2.heap.size)) k gs gl bm vw' base nm n S L (W ++ [x]) D fu left := by
  have hOF : ∀ b, F b → b ≠ k → vw.ownBlock ≠ some b → w2.heap[b]? = w.heap[b]? := fun b hF => hO b (h.Flt b hF)
  have hown : ∀ {v : Value} {zs : List Int}, (∀ g, v.ownBlock = some g → F g ∧ g ≠ k ∧ vw.ownBlock ≠ some g) → w.ownsInts base 3 .i64 v zs → w2.ownsInts base 3 .i64 v zs := fun {v zs} hv ho => by
    refine ⟨⟨ho.1.1, ?_⟩, ho.2⟩
    rcases ho.1.2 with h0 | ⟨g, cap, cur, rfl, h1, h2, h3⟩
    · exact .inl h0
    · obtain ⟨a1, a2, a3⟩ := hv g rfl
      exact .inr ⟨g, cap, cur, rfl, h1, (hOF g a1 a2 a3).trans h2, h3⟩
  have hbm := hOF bm h.Fm (fun e => h.km e.symm) h.wm
  have hne : ∀ b, F b → vw.ownBlock ≠ some b → vw'.ownBlock ≠ some b := fun b hF hb e => by
    rcases hloc with h1 | ⟨g, h1, h2, h3⟩
    · exact hb (h1 ▸ e)
    · rw [h1] at e
      injection e with e
      have := h.Flt b hF
      omega
  refine { h with hk := hk', hs := (hOF gs h.Fs (fun e => h.ks e.symm) h.ws).trans h.hs, hl := (hOF gl h.Fl (fun e => h.kl e.symm) h.wl).trans h.hl, hw := hw', hm := ?_, sh := ?_, wIn := ?_, wN := by rw [List.length_append]; exact hN, nmW := by have := h.nmW; rw [List.length_append]; exact Nat.le_trans this (Nat.le_succ _), bb := Nat.le_trans h.bb hsz, Fk := .inl h.Fk, Fs := .inl h.Fs, Fl := .inl h.Fl, Fm := .inl h.Fm, Fw := ?_, Fr := fun es clock he x hx g hg => .inl (h.Fr es clock (hbm.symm.trans he) x hx g hg), Flt := ?_, wk := hne k h.Fk h.wk, ws := hne gs h.Fs h.ws, wl := hne gl h.Fl h.wl, wm := hne bm h.Fm h.wm }
  · obtain ⟨es, clock, he, Ft, hsz2, hD, hbb, hlen, hap⟩ := h.hm
    have hx : ∀ x ∈ es.toList, ∀ g, x.val.ownBlock = some g → F g ∧ g ≠ k ∧ vw.ownBlock ≠ some g := fun x hx g hg => ⟨h.Fr es clock he x hx g hg, fun e => h.sh es clock he x hx g hg (.inl e), fun e => h.sh es clock he x hx g hg (.inr (.inr (.inr (.inr e))))⟩
    have hst : ∀ x ∈ es.toList, ∀ z, rowElem (H := Unit) w base 3 .i64 x.val = some z → rowElem w2 base 3 .i64 x.val = some z := fun x hx' z hz => by
      obtain ⟨zs, ho, rfl⟩ := rowElem_inv hz
      exact rowElem_mk (hown (hx x hx') ho)
    obtain ⟨F1, hmap, _⟩ := Ft.stay hst
    refine ⟨es, clock, hbm.trans he, F1, hsz2, by rw [hmap]; exact hD, hbb, fun x hx' zs ho => ?_, hap⟩
    obtain ⟨y, hy⟩ := Ft.reads x hx'
    obtain ⟨z, hz, _⟩ := Go.WideElems.rd_val hy
    obtain ⟨zs0, ho0, _⟩ := rowElem_inv hz
    rw [ho.unique (hown (hx x hx') ho0)]
    exact hlen x hx' zs0 ho0
  · intro es clock he x hx g hg hno
    have he' := hbm.symm.trans he
    rcases hno with e | e | e | e | e
    · exact h.sh es clock he' x hx g hg (.inl e)
    · exact h.sh es clock he' x hx g hg (.inr (.inl e))
    · exact h.sh es clock he' x hx g hg (.inr (.inr (.inl e)))
    · exact h.sh es clock he' x hx g hg (.inr (.inr (.inr (.inl e))))
    · exact hne g (h.Fr es clock he' x hx g hg) (fun e' => h.sh es clock he' x hx g hg (.inr (.inr (.inr (.inr e'))))) e
  · intro y hy
    rcases List.mem_append.1 hy with hy | hy
    · exact h.wIn y hy
    · rw [List.mem_singleton] at hy; rw [hy]; exact hx
  · intro j hj
    rcases hloc with h1 | ⟨g, h1, h2, h3⟩
    · exact .inl (h.Fw j (h1 ▸ hj))
    · rw [h1] at hj
      injection hj with hj
      exact .inr (hj ▸ ⟨h2, h3⟩)
  · rintro b (hF | hF)
    · exact Nat.lt_of_lt_of_le (h.Flt b hF) hsz
    · exact hF.2

theorem DkW.more {w : World} {F F' : Nat → Prop} {k gs gl bm : Nat} {vw : Value} {base nm n : Nat} {S L : List (List UInt8)} {W : List WrF} {D : DataW Unit} {fu : Bool} {left : Int} (h : DkW w F k gs gl bm vw base nm n S L W D fu left) (h1 : ∀ b, F b → F' b) (h2 : ∀ b, F' b → b < w.heap.size) : DkW w F' k gs gl bm vw base nm n S L W D fu left :=
  { h with Fk := h1 _ h.Fk, Fs := h1 _ h.Fs, Fl := h1 _ h.Fl, Fm := h1 _ h.Fm, Fw := fun j hj => h1 _ (h.Fw j hj), Fr := fun es clock he x hx g hg => h1 _ (h.Fr es clock he x hx g hg), Flt := h2 }

theorem Keys.put {D : DataW Unit} {W : List WrF} (h : Keys D W) (hD : Go.Maps.IsMap D) (x : WrF) (d : DataW Unit) (hk : WideAt.IsKeyLit (.int .i64 (x.1 : Nat))) (hd : RowIn d (W.length + 1)) : Keys (D.put (.int .i64 (x.1 : Nat)) d) (W ++ [x]) := by
  refine ⟨fun kl hkl => ?_, fun y hy => ?_, fun kl => ?_⟩
  · by_cases e : kl = .int .i64 (x.1 : Nat)
    · exact ⟨x.1, e, x, by simp, rfl⟩
    · rw [Go.Maps.has_put_other e] at hkl
      obtain ⟨a, e1, y, hy, e2⟩ := h.1 kl hkl
      exact ⟨a, e1, y, by simp [hy], e2⟩
  · by_cases e : (Lit.int .i64 (y.1 : Nat)) = .int .i64 (x.1 : Nat)
    · rw [e]; exact Go.Maps.has_put_same hD hk d
    · rw [Go.Maps.has_put_other e]
      rcases List.mem_append.1 hy with hy | hy
      · exact h.2.1 y hy
      · rw [List.mem_singleton] at hy; rw [hy] at e; exact absurd rfl e
  · rw [List.length_append, List.length_singleton]
    by_cases e : kl = .int .i64 (x.1 : Nat)
    · rw [e, Go.Maps.atKey_put_same hD hk]; exact hd
    · rw [Go.Maps.atKey_put_other e]
      exact fun xs ps e2 y hy => (h.2.2 kl xs ps e2 y hy).imp fun z hz => ⟨hz.1, Nat.lt_succ_of_lt hz.2⟩

theorem rowIn_snoc {D : DataW Unit} {kl : Lit} {m : Nat} {v v' : Value} {zs : List Int} (hR : RowsIn D m) (hat : D.atKey kl .nil = rowDatum .i64 v zs) (hz : (rowDatum (H := Unit) .i64 v zs = .nil ∧ zs = []) ∨ rowDatum (H := Unit) .i64 v zs = .slice (Go.ChangeShapes.lits .i64 zs) []) : RowIn (rowDatum .i64 v' (zs ++ [(m : Int)])) (m + 1) := by
  intro xs ps e x hx
  have hxs : xs = Go.ChangeShapes.lits .i64 (zs ++ [(m : Int)]) := by
    unfold rowDatum at e
    split at e
    · cases e
    · injection e with e1 e2; exact e1.symm
  subst hxs
  unfold Go.ChangeShapes.lits at hx
  rw [List.map_append] at hx
  rcases List.mem_append.1 hx with hx | hx
  · rcases hz with ⟨_, h0⟩ | hz
    · subst h0; simp at hx
    · obtain ⟨z, e1, e2⟩ := hR kl _ _ (hat.trans hz) x hx
      exact ⟨z, e1, by omega⟩
  · simp at hx
    exact ⟨m, hx, by omega⟩

theorem World.grownBy.only {a b : World} {row : Option Nat} (h : a.grownBy b row) {R : Nat → Prop} (hR : ∀ g, row = some g → R g) : Only R a b := ⟨h.os, h.tape, h.output, h.size, fun k hk hn => h.block k hk (fun e => hn (hR k e.symm))⟩

/-- The whole of 'd.waiting[at] = append(d.waiting[at], ..)', from the look-up's world on. -/
theorem DkW.update {w0 w1 w2 : World} {F : Nat → Prop} {k gs gl bm : Nat} {vw : Value} {base nm n : Nat} {S L : List (List UInt8)} {W : List WrF} {D D' : DataW Unit} {fu : Bool} {left : Int} (h : DkW w0 F k gs gl bm vw base nm n S L W D fu left) (hnm : nm ≤ W.length)
    {v v' : Value} (hshv : ∀ No : Nat → Prop, w0.Shuns bm No → ∀ g, v.ownBlock = some g → ¬ No g) (hGB : w0.grownBy w1 v.ownBlock) (hg2 : w1.grownBy w2 (some bm)) (hm2 : w2.ownsGroups Try.prog 3 base 3 .i64 bm (nm + 1) D')
    (hloc : v'.ownBlock = v.ownBlock ∨ ∃ g, v'.ownBlock = some g ∧ w0.heap.size ≤ g) (hlt : ∀ g, v'.ownBlock = some g → g < w1.heap.size) (hsh2 : ∀ No : Nat → Prop, w0.Shuns bm No → (∀ g, v'.ownBlock = some g → ¬ No g) → w2.Shuns bm No) :
    DkW w2 (fun b => F b ∨ (w0.heap.size ≤ b ∧ b < w2.heap.size)) k gs gl bm vw base (nm + 1) n S L W D' fu left ∧ Only F w0 w2 := by
  have hFv : ∀ g, v.ownBlock = some g → F g := fun g hg => Classical.byContradiction fun hn => hshv (fun g => ¬ F g) (fun es clock he x hx g' hg' hn' => hn' (h.Fr es clock he x hx g' hg')) g hg hn
  have hs := Nat.le_trans hGB.size hg2.size
  refine ⟨h.noted (v := v) hs (fun b hb h1 h2 => (hg2.block b (Nat.lt_of_lt_of_le hb hGB.size) (fun e => h2 (by injection e))).trans (hGB.block b hb (fun e => h1 e.symm))) hnm hm2 (fun g hg => hshv _ h.sh g hg) (hsh2 _ h.sh fun g hg hno => ?_) (hsh2 _ (fun es clock he x hx g hg hno => hno (.inl (h.Fr es clock he x hx g hg))) fun g hg hno => ?_), (World.grownBy.only hGB hFv).then (World.grownBy.only hg2 (R := F) (fun g hg => by injection hg with hg; exact hg ▸ h.Fm)) (fun i hi => .inl hi)⟩
  · rcases hloc with e | ⟨g', e, hge⟩
    · exact hshv _ h.sh g (e ▸ hg) hno
    · rw [e] at hg
      injection hg with hg
      subst hg
      rcases hno with e | e | e | e | e
      · have := h.Flt k h.Fk; omega
      · have := h.Flt gs h.Fs; omega
      · have := h.Flt gl h.Fl; omega
      · have := h.Flt bm h.Fm; omega
      · have := h.Flt _ (h.Fw _ e); omega
  · apply hno
    rcases hloc with e | ⟨g', e, hge⟩
    · exact .inl (hFv g (e ▸ hg))
    · have := hlt g hg
      have hg2s := hg2.size
      rw [e] at hg
      injection hg with hg
      subst hg
      exact .inr ⟨hge, by omega⟩

theorem DkW.vw_form {w : World} {F : Nat → Prop} {k gs gl bm : Nat} {vw : Value} {base nm n : Nat} {S L : List (List UInt8)} {W : List WrF} {D : DataW Unit} {fu : Bool} {left : Int} (h : DkW w F k gs gl bm vw base nm n S L W D fu left) : ∃ A c, vw = .slice A W.length c := by
  rcases h.hw.2 with ⟨e, h0⟩ | ⟨g, cap, cur, e, _⟩
  · exact ⟨none, 0, by rw [e, h0]⟩
  · exact ⟨_, _, e⟩

end Go.Proofs.Ytkepfigoeaheaaa

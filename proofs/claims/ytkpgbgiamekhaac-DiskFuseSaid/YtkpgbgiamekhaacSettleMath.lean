/-
  What a sync or a crash leaves of a disk.
-/
import Derived.Test.YtkpgbgiamekhaacDiskKept
namespace Go.Proofs.Ytkpgbgiamekhaac
open Go.RowKit
set_option linter.unusedVariables false
set_option linter.unusedSimpArgs false

def wrAt (W : List WrF) (j : Nat) : WrF := W.getD j (0, [], false)
theorem wrAt_mem {W : List WrF} {j : Nat} (h : j < W.length) : wrAt W j ∈ W := by simp [wrAt, List.getD, h]
def cutW (K : Nat) (s o : List UInt8) : List UInt8 := s.take K ++ o.drop K
def lstF (KF : Nat → Nat) (W : List WrF) (L : List (List UInt8)) : Nat → List (List UInt8)
  | 0 => L
  | j + 1 => (lstF KF W L j).set (wrAt W j).1 (cutW (KF j) (wrAt W j).2.1 ((lstF KF W L j).getD (wrAt W j).1 []))
theorem lstF_length (KF : Nat → Nat) (W : List WrF) (L : List (List UInt8)) (j : Nat) : (lstF KF W L j).length = L.length := by
  induction j with
  | zero => rfl
  | succ j ih => rw [lstF, List.length_set, ih]
theorem cutW_length {K : Nat} {s o : List UInt8} (hK : K ≤ 64) (hs : s.length = 64) (ho : o.length = 64) : (cutW K s o).length = 64 := by
  unfold cutW; rw [List.length_append, List.length_take, List.length_drop]; omega
theorem lstF_64 {KF : Nat → Nat} {W : List WrF} {L : List (List UInt8)} (hK : ∀ j, KF j ≤ 64) (hL : ∀ s ∈ L, s.length = 64) (hW : ∀ x ∈ W, x.1 < L.length ∧ x.2.1.length = 64) (j : Nat) (hj : j ≤ W.length) : ∀ s ∈ lstF KF W L j, s.length = 64 := by
  induction j with
  | zero => exact hL
  | succ j ih =>
    intro s hs
    rw [lstF] at hs
    have hx := hW _ (wrAt_mem (W := W) (j := j) (by omega))
    rcases List.mem_or_eq_of_mem_set hs with h | h
    · exact ih (by omega) s h
    · rw [h]
      exact cutW_length (hK j) hx.2 (ih (by omega) _ (by simp [List.getD, lstF_length, hx.1]))
/-- Where no write was, what lasts stays. -/
theorem lstF_other {KF : Nat → Nat} {W : List WrF} {L : List (List UInt8)} {i : Nat} (h : ∀ x ∈ W, x.1 ≠ i) (j : Nat) (hj : j ≤ W.length) : (lstF KF W L j).getD i [] = L.getD i [] := by
  induction j with
  | zero => rfl
  | succ j ih =>
    have hx := h _ (wrAt_mem (W := W) (j := j) (by omega))
    rw [lstF, ← ih (by omega)]
    simp [List.getD, List.getElem?_set_ne hx]

def seenF (W : List WrF) (S L : List (List UInt8)) : List (List UInt8) := (List.range S.length).map fun i => if W.any (fun x => x.1 == i) then L.getD i [] else S.getD i []
theorem seenF_length (W : List WrF) (S L : List (List UInt8)) : (seenF W S L).length = S.length := by simp [seenF]
theorem seenF_at {W : List WrF} {S L : List (List UInt8)} {i : Nat} (h : i < S.length) : (seenF W S L).getD i [] = if W.any (fun x => x.1 == i) then L.getD i [] else S.getD i [] := by unfold seenF; rw [List.getD_eq_getElem?_getD, List.getElem?_map, List.getElem?_range h]; rfl

def midF (D : DataW Unit) (left : Lit → Bool) (S L : List (List UInt8)) : List (List UInt8) := (List.range S.length).map fun i => if Maps.has D (.int .i64 (i : Nat)) && !left (.int .i64 (i : Nat)) then L.getD i [] else S.getD i []
theorem midF_length (D : DataW Unit) (left : Lit → Bool) (S L : List (List UInt8)) : (midF D left S L).length = S.length := by simp [midF]
theorem secs_ext {a b : List (List UInt8)} (hl : a.length = b.length) (h : ∀ i, i < a.length → a.getD i [] = b.getD i []) : a = b := by
  apply List.ext_getElem hl
  intro i h1 h2
  have := h i h1
  simpa [List.getD, h1, h2] using this
theorem midF_at {D : DataW Unit} {left : Lit → Bool} {S L : List (List UInt8)} {i : Nat} (h : i < S.length) : (midF D left S L).getD i [] = if Maps.has D (.int .i64 (i : Nat)) && !left (.int .i64 (i : Nat)) then L.getD i [] else S.getD i [] := by unfold midF; rw [List.getD_eq_getElem?_getD, List.getElem?_map, List.getElem?_range h]; rfl
theorem midF_start (D : DataW Unit) (S L : List (List UInt8)) : midF D (Maps.has D) S L = S := secs_ext (midF_length _ _ _ _) fun i hi => by
  rw [midF_at (by rw [← midF_length D (Maps.has D) S L]; exact hi)]
  cases Maps.has D (.int .i64 (i : Nat)) <;> simp
theorem midF_end {D : DataW Unit} {left : Lit → Bool} {W : List WrF} {S L : List (List UInt8)} (h : ∀ kl, left kl = false) (hK : Keys D W) : midF D left S L = seenF W S L := secs_ext (by rw [midF_length, seenF_length]) fun i hi => by
  rw [midF_length] at hi
  rw [midF_at hi, seenF_at hi, h]
  have e : Maps.has D (.int .i64 (i : Nat)) = W.any (fun x => x.1 == i) := by
    cases hb : W.any (fun x => x.1 == i)
    · cases hh : Maps.has D (.int .i64 (i : Nat))
      · rfl
      · obtain ⟨a, e, x, hx, hxa⟩ := hK.1 _ hh
        injection e with _ e
        have : W.any (fun x => x.1 == i) = true := List.any_eq_true.2 ⟨x, hx, by rw [beq_iff_eq]; omega⟩
        rw [this] at hb; cases hb
    · obtain ⟨x, hx, e⟩ := List.any_eq_true.1 hb
      rw [beq_iff_eq] at e
      rw [← e]
      exact hK.2 x hx
  rw [e, Bool.not_false, Bool.and_true]
theorem midF_step {D : DataW Unit} {left : Lit → Bool} {S L : List (List UInt8)} {a : Nat} (hk : WideAt.IsKeyLit (.int .i64 (a : Nat))) (hh : Maps.has D (.int .i64 (a : Nat)) = true) (ha : a < S.length) : midF D (fun z => left z && !z.sameKey (.int .i64 (a : Nat))) S L = (midF D left S L).set a (L.getD a []) := secs_ext (by rw [midF_length, List.length_set, midF_length]) fun i hi => by
  rw [midF_length] at hi
  rw [midF_at hi]
  by_cases e : i = a
  · subst e
    have : ((midF D left S L).set i (L.getD i [])).getD i [] = L.getD i [] := by simp only [List.getD]; rw [List.getElem?_set_self (by rw [midF_length]; exact hi)]; rfl
    rw [this, hh, WideAt.sameKey_self hk]
    simp
  · have e2 : ((midF D left S L).set a (L.getD a [])).getD i [] = (midF D left S L).getD i [] := by simp only [List.getD]; rw [List.getElem?_set_ne (fun h => e h.symm)]
    have e3 : (Lit.int .i64 (i : Nat)).sameKey (.int .i64 (a : Nat)) = false := Go.Maps.sameKey_ne (fun h => by injection h with _ h; omega)
    rw [e2, midF_at hi, e3]
    simp

/-! ### the writes in memory -/
theorem wrC_at : ∀ {W : List WrF} (h : ∀ x ∈ W, x.2.1.length = 64) {i : Nat} (hi : i < W.length) (j : Nat) (v : Value) (hj : (wrOne (wrAt W i))[j]? = some v), (wrC W)[i * 66 + j]? = some v
  | [], _, i, hi, _, _, _ => by simp at hi
  | x :: W, h, 0, hi, j, v, hj => by
    have hj' : (wrOne x)[j]? = some v := hj
    have hc : wrC (x :: W) = wrOne x ++ wrC W := by unfold wrC; rw [List.flatMap_cons]
    rw [hc, Nat.zero_mul, Nat.zero_add, List.getElem?_append_left (List.getElem?_eq_some_iff.1 hj').1]
    exact hj'
  | x :: W, h, i + 1, hi, j, v, hj => by
    have hl := wrOne_length (h x List.mem_cons_self)
    have hc : wrC (x :: W) = wrOne x ++ wrC W := by unfold wrC; rw [List.flatMap_cons]
    have := wrC_at (fun y hy => h y (List.mem_cons_of_mem _ hy)) (i := i) (by simpa using hi) j v hj
    rw [hc, List.getElem?_append_right (by omega), hl, show (i + 1) * 66 + j - 66 = i * 66 + j by omega]
    exact this
theorem wrOne_0 (x : WrF) : (wrOne x)[0]? = some (.int .i64 (x.1 : Nat)) := rfl
theorem wrOne_65 {x : WrF} (h : x.2.1.length = 64) : (wrOne x)[65]? = some (.bool x.2.2) := by
  unfold wrOne
  rw [List.getElem?_cons_succ, List.getElem?_append_right (by rw [Lib.byteCells_length, h]; omega), Lib.byteCells_length, h]
  rfl
theorem wrOne_mid {x : WrF} {j : Nat} {v : Value} (h : (Lib.byteCells x.2.1)[j]? = some v) : (wrOne x)[1 + j]? = some v := by
  unfold wrOne
  rw [Nat.add_comm, List.getElem?_cons_succ, List.getElem?_append_left (List.getElem?_eq_some_iff.1 h).1]
  exact h

theorem DkW.wr_at {w : World} {F : Nat → Prop} {k gs gl bm : Nat} {vw : Value} {base nm n : Nat} {S L : List (List UInt8)} {W : List WrF} {D : DataW Unit} {fu : Bool} {left : Int} (h : DkW w F k gs gl bm vw base nm n S L W D fu left) {j : Nat} (hj : j < W.length) :
    ∃ gw c, vw = .slice (some ⟨gw, 0, none⟩) W.length c ∧ gw < w.heap.size ∧ w.rangeAt gw (j * 66) (wrOne (wrAt W j)) := by
  rcases h.hw.2 with ⟨e, h0⟩ | ⟨g, cap, cur, e, e1, e2, e3, e4, e5, e6⟩
  · omega
  · refine ⟨g, cap, e, (Array.getElem?_eq_some_iff.1 e2).1, fun i v hv => ?_⟩
    have hc := wrC_at (fun x hx => (h.wIn x hx).2) hj i v hv
    rw [← e6] at hc
    have hl : (wrOne (wrAt W j)).length = 66 := wrOne_length (h.wIn _ (wrAt_mem hj)).2
    have hi := (List.getElem?_eq_some_iff.1 hv).1
    rw [List.getElem?_take_of_lt (by omega)] at hc
    rw [cell_of_row w g _ cur 84 (0, 0) e2]
    simpa using hc

theorem wpList_copy_any {P : Program} {ops : Array Oper} {rest : List Oper} {o : Oper} {a : Act} {w : World} {Q : Exit → Act → World → Prop} (hgd : o.guard = none) (d s : Operand) (dT sT : TypeId)
    (ho : o.op = .call { callee := .builtin .copy, args := #[d, s], argTypes := #[dT, sT] }) (elem : TypeId) (hu : P.underlying dT = some (.slice elem)) (hsz : (P.info? elem).map (·.size) = some 1)
    (dp sp : Option Addr) (dLen dCap sLen sCap : Nat) (hd : a.eval d = .slice dp dLen dCap) (hs : a.eval s = .slice sp sLen sCap)
    (g off : Nat) (cur : List Value) (t : TypeId) (hg : w.heap[g]? = some (.cells cur.toArray t (0, 0))) (cs : List Value) (hn : cs.length = Nat.min sLen dLen)
    (hpos : 0 < cs.length → dp = some ⟨g, off, none⟩ ∧ ∃ ad, sp = some ad ∧ ∀ j v, cs[j]? = some v → w.cell? (ad.add j) = some v)
    (hfit : off + cs.length ≤ cur.length) (h1 : ∀ v ∈ cs, v.oneCell' = true)
    (h : ∀ w', Hid (w'.heap[g]? = some (.cells (splice cur off cs).toArray t (0, 0))) → Wrote g w w' → wpList P ops Q rest (a.put o.dst (goInt cs.length)) w') : wpList P ops Q (o :: rest) a w := by
  refine wpList_plain hgd fun K hK => ?_
  obtain ⟨w', hrun, h2, h3⟩ := run_copy_any (P := P) w dT sT o.type elem hu hsz dp sp dLen dCap sLen sCap g off cur t hg cs hn hpos hfit h1
  unfold Oper.wp execOp
  simp only [ho, resolve, invoke, builtin, Sem.run_bind, Sem.run_pure, Result.andThen_ok, List.map_toArray, List.map_cons, List.map_nil, hd, hs, hrun]
  exact hK _ _ (h w' h2 h3)

theorem splice_sec {ss : List (List UInt8)} (h : ∀ s ∈ ss, s.length = 64) {i : Nat} (hi : i < ss.length) (x : List UInt8) (hx : x.length = 64) (K : Nat) (hK : K ≤ 64) :
    splice (secC ss) (i * 64) (Lib.byteCells (x.take K)) = secC (ss.set i (cutW K x (ss.getD i []))) := by
  have ho : (ss.getD i []).length = 64 := h _ (by simp [List.getD, hi])
  rw [← secC_set h hi _ (cutW_length hK hx ho)]
  unfold splice cutW
  rw [Lib.byteCells_append, List.append_assoc]
  congr 2
  rw [Lib.byteCells_length, List.length_take, Nat.min_eq_left (by omega), List.length_append, Lib.byteCells_length, Lib.byteCells_length, List.length_take, List.length_drop, ho, hx, Nat.min_eq_left (by omega), show K + (64 - K) = 64 by omega]
  apply List.ext_getElem?
  intro j
  rw [List.getElem?_drop]
  by_cases hj : j < 64 - K
  · rw [List.getElem?_append_left (by rw [Lib.byteCells_length, List.length_drop]; omega)]
    have hb : (Lib.byteCells ((ss.getD i []).drop K))[j]? = (Lib.byteCells (ss.getD i []))[K + j]? := by
      unfold Lib.byteCells
      rw [List.map_drop, List.getElem?_drop]
    rw [hb, Nat.add_assoc]
    have hv : ∃ v, (Lib.byteCells (ss.getD i []))[K + j]? = some v := ⟨_, List.getElem?_eq_getElem (by rw [Lib.byteCells_length, ho]; omega)⟩
    obtain ⟨v, hv⟩ := hv
    rw [hv]
    exact secC_at h hi (K + j) v hv
  · rw [List.getElem?_append_right (by rw [Lib.byteCells_length, List.length_drop]; omega), Lib.byteCells_length, List.length_drop, ho, List.getElem?_drop]
    congr 1
    omega

end Go.Proofs.Ytkpgbgiamekhaac
